/- Cells that comes in as an argument of a law, opened: what is known of it. -/
import Derived.Test.YtmbgagkpabepcaaProg
import Derived.Test.YtmbgagkpabepcaaFlO
import Derived.Test.YtmbgagkpabepcaaTbO
import Derived.Test.YtmbgagkpabepcaaPmO
import Derived.Test.YtmbgagkpabepcaaCeM
import Derived.Deep.Grids
namespace Go.Proofs.Ytmbgagkpabepcaa
open Go.RowKit Go.ChangeShapes Go.WideShapes
set_option linter.unusedVariables false
def CeW (M : Ce) : Prop := WfL M.c
section
variable {H : Type} {enc : TypeId × Value → H} {W : World} {sp : Nat → Bool} {held : Bool}
theorem cellsLCe : Try.prog.cellsOf 24 = 1 := by kernel_rfl
theorem cellsCel : Try.prog.cellsOf 22 = 1 := by kernel_rfl
theorem listCe {α : Type} {l : List α} (h : l.length = 1) : ∃ x0, l = [x0] := by
  match l, h with
  | [x0], _ => exact ⟨x0, rfl⟩
theorem open_ce {fuel : Nat} {cs : List Value} {x : DataW H × List MemPlace} (h : DataW.trod enc Try.prog W 0 sp held fuel 24 cs = some x) : ∃ M : Ce, CeIn W W.heap.size (.agg cs.toArray) M ∧ CeW M := by
  obtain ⟨hl, hf⟩ := field_of Try.underlying24 h
  rw [cellsLCe] at hl
  obtain ⟨v0, rfl⟩ := listCe hl
  obtain ⟨n0, y0, h0⟩ := hf 0 _ rfl
  simp [cellsCel] at h0
  obtain ⟨i0, hL0, w0⟩ := open_ints1 h0
  exact ⟨⟨i0⟩, ⟨v0, rfl, hL0⟩, w0⟩
end
end Go.Proofs.Ytmbgagkpabepcaa
