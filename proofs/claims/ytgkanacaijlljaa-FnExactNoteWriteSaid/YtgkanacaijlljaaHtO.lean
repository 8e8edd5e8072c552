/- Write counters that come in as an argument of a law, opened: what is known of them. -/
import Derived.Test.YtgkanacaijlljaaProg
import Derived.Test.YtgkanacaijlljaaFlO
import Derived.Test.YtgkanacaijlljaaTbO
import Derived.Test.YtgkanacaijlljaaHtM
import Derived.Deep.Grids
namespace Go.Proofs.Ytgkanacaijlljaa
open Go.RowKit Go.ChangeShapes Go.WideShapes
set_option linter.unusedVariables false
def HtW (M : Ht) : Prop := WfI M.n ∧ WfL M.c
section
variable {H : Type} {enc : TypeId × Value → H} {W : World} {sp : Nat → Bool} {held : Bool}
theorem cellsLHt : Try.prog.cellsOf 24 = 2 := by kernel_rfl
theorem cellsL64h : Try.prog.cellsOf 22 = 1 := by kernel_rfl
theorem cellsIh : Try.prog.cellsOf 2 = 1 := by kernel_rfl
theorem list2 {α : Type} {l : List α} (h : l.length = 2) : ∃ a b, l = [a, b] := by
  match l, h with
  | [a, b], _ => exact ⟨a, b, rfl⟩
theorem open_ht {fuel : Nat} {cs : List Value} {x : DataW H × List MemPlace} (h : DataW.trod enc Try.prog W 0 sp held fuel 24 cs = some x) : ∃ M : Ht, HtIn W W.heap.size (.agg cs.toArray) M ∧ HtW M := by
  obtain ⟨hl, hf⟩ := field_of Try.underlying24 h
  rw [cellsLHt] at hl
  obtain ⟨v0, v1, rfl⟩ := list2 hl
  obtain ⟨n0, y0, h0⟩ := hf 0 _ rfl
  obtain ⟨n1, y1, h1⟩ := hf 1 _ rfl
  simp [cellsIh, cellsL64h] at h0 h1
  obtain ⟨L, hL, wL⟩ := open_ints1 h0
  obtain ⟨i1, rfl, w1⟩ := open_int1 h1
  exact ⟨⟨L, i1⟩, ⟨v0, rfl, hL⟩, w1, wL⟩
end
end Go.Proofs.Ytgkanacaijlljaa
