/- Valid arrays, in the model and in the program: the contracts. -/
import Derived.Test.YtfnhnekemjnliabProg
import Derived.Test.YtfnhnekemjnliabFlV
namespace Go.Proofs.Ytfnhnekemjnliab
open Go.RowKit
set_option linter.unusedVariables false

/-- Not too many blocks and pages. -/
def FlLen (F : Fl) : Prop := F.bs.length ≤ 1048576 ∧ ∀ i, i < F.bs.length → (F.blk i).pg.length ≤ 1048576
theorem FlOk.lens {F : Fl} (h : FlOk F) : FlLen F := ⟨by have := h.len; omega, fun i hi => by have := h.plen hi; omega⟩
def GateOk (F : Fl) : Prop := GeoOk F.d F.b F.p ∧ (F.bs.length : Int) = F.d * F.b ∧ (-1 ≤ F.fu ∧ F.fu ≤ 1000000) ∧ (0 ≤ F.ke ∧ F.ke ≤ 91) ∧ 0 ≤ F.op
theorem flOk_iff (F : Fl) : FlOk F ↔ GateOk F ∧ ∀ i, i < F.bs.length → BlkOk F.p (F.blk i) := by
  unfold FlOk GateOk
  constructor
  · rintro ⟨a, b, c, d, e, f⟩; exact ⟨⟨a, b, d, e, f⟩, c⟩
  · rintro ⟨⟨a, b, d, e, f⟩, c⟩; exact ⟨a, b, c, d, e, f⟩
theorem prop_dec (P : Prop) : ∃ b : Bool, b = true ↔ P := by
  by_cases h : P
  · exact ⟨true, by simp [h]⟩
  · exact ⟨false, by simp [h]⟩
end Go.Proofs.Ytfnhnekemjnliab
