/- Wear that comes in as an argument of a law, opened: what is known of it. -/
import Derived.Test.YtmbgagkpabepcaaProg
import Derived.Test.YtmbgagkpabepcaaFlO
import Derived.Test.YtmbgagkpabepcaaTbO
import Derived.Test.YtmbgagkpabepcaaPmO
import Derived.Test.YtmbgagkpabepcaaWeM
import Derived.Deep.Grids
namespace Go.Proofs.Ytmbgagkpabepcaa
open Go.RowKit Go.ChangeShapes Go.WideShapes
set_option linter.unusedVariables false
def WeW (M : We) : Prop := WfI M.n ∧ WfL M.e ∧ WfL M.c
section
variable {H : Type} {enc : TypeId × Value → H} {W : World} {sp : Nat → Bool} {held : Bool}
theorem cellsLWe : Try.prog.cellsOf 48 = 4 := by kernel_rfl
theorem cellsWeb : Try.prog.cellsOf 39 = 1 := by kernel_rfl
theorem cellsWei : Try.prog.cellsOf 2 = 1 := by kernel_rfl
theorem cellsWel : Try.prog.cellsOf 22 = 1 := by kernel_rfl
theorem listWe {α : Type} {l : List α} (h : l.length = 4) : ∃ x0 x1 x2 x3, l = [x0, x1, x2, x3] := by
  match l, h with
  | [x0, x1, x2, x3], _ => exact ⟨x0, x1, x2, x3, rfl⟩
theorem open_we {fuel : Nat} {cs : List Value} {x : DataW H × List MemPlace} (h : DataW.trod enc Try.prog W 0 sp held fuel 48 cs = some x) : ∃ M : We, WeIn W W.heap.size (.agg cs.toArray) M ∧ WeW M := by
  obtain ⟨hl, hf⟩ := field_of Try.underlying48 h
  rw [cellsLWe] at hl
  obtain ⟨v0, v1, v2, v3, rfl⟩ := listWe hl
  obtain ⟨n0, y0, h0⟩ := hf 0 _ rfl
  obtain ⟨n1, y1, h1⟩ := hf 1 _ rfl
  obtain ⟨n2, y2, h2⟩ := hf 2 _ rfl
  obtain ⟨n3, y3, h3⟩ := hf 3 _ rfl
  simp [cellsWeb, cellsWei, cellsWel] at h0 h1 h2 h3
  obtain ⟨i0, hL0, w0⟩ := open_ints1 h0
  obtain ⟨i1, hL1⟩ := open_bools1 h1
  obtain ⟨i2, hL2, w2⟩ := open_ints1 h2
  obtain ⟨i3, rfl, w3⟩ := open_int1 h3
  exact ⟨⟨i0, i1, i2, i3⟩, ⟨v0, v1, v2, rfl, hL0, hL1, hL2⟩, w3, w0, w2⟩
end
end Go.Proofs.Ytmbgagkpabepcaa
