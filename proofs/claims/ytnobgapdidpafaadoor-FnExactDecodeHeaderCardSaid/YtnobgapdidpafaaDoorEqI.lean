/- Lists of integers compared, in the model and in the program: the contracts. -/
import Derived.Test.YtnobgapdidpafaaDoorProg
import Derived.Test.YtnobgapdidpafaaDoorTbM
import Derived.Test.YtnobgapdidpafaaDoorGeo
import Derived.BigQuiet
import Derived.Deep.QuietTactic
namespace Go.Proofs.YtnobgapdidpafaaDoor
open Go.RowKit
set_option linter.unusedVariables false
theorem list_same {α : Type} {d : α} {L M : List α} (hl : L.length = M.length) (h : ∀ i, i < L.length → L.getD i d = M.getD i d) : L = M := by
  refine List.ext_getElem hl fun i h1 h2 => ?_
  have := h i h1
  rw [List.getD_eq_getElem?_getD, List.getD_eq_getElem?_getD, List.getElem?_eq_getElem h1, List.getElem?_eq_getElem h2] at this
  exact this
theorem not_true {r : Bool} {P : Prop} (hr : r = true ↔ P) (h : ¬ P) : r = false := by
  cases r
  · rfl
  · exact absurd (hr.1 rfl) h
theorem below_drewN {B : Nat} {a w : World} (h : Below B a w) (n : Nat) : Below B a (w.drewN n) := ⟨h.os, h.tape, h.output, h.size, h.block⟩
theorem cast_ne {a b : Nat} (h : a ≠ b) : ((a : Int) != (b : Int)) = true := by simp; omega
end Go.Proofs.YtnobgapdidpafaaDoor
