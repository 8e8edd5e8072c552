/- Wipe that comes in as an argument of a law, opened: what is known of it. -/
import Derived.Test.YtgamoiagpglcmaaProg
import Derived.Test.YtgamoiagpglcmaaFlO
import Derived.Test.YtgamoiagpglcmaaTbO
import Derived.Test.YtgamoiagpglcmaaPmO
import Derived.Test.YtgamoiagpglcmaaWpM
import Derived.Deep.Grids
namespace Go.Proofs.Ytgamoiagpglcmaa
open Go.RowKit Go.ChangeShapes Go.WideShapes
set_option linter.unusedVariables false
def WpW (M : Wp) : Prop := WfI M.d ∧ WfL M.b
section
variable {H : Type} {enc : TypeId × Value → H} {W : World} {sp : Nat → Bool} {held : Bool}
theorem cellsLWp : Try.prog.cellsOf 84 = 2 := by kernel_rfl
theorem cellsWpi : Try.prog.cellsOf 2 = 1 := by kernel_rfl
theorem cellsWpl : Try.prog.cellsOf 22 = 1 := by kernel_rfl
theorem listWp {α : Type} {l : List α} (h : l.length = 2) : ∃ x0 x1, l = [x0, x1] := by
  match l, h with
  | [x0, x1], _ => exact ⟨x0, x1, rfl⟩
theorem open_wp {fuel : Nat} {cs : List Value} {x : DataW H × List MemPlace} (h : DataW.trod enc Try.prog W 0 sp held fuel 84 cs = some x) : ∃ M : Wp, WpIn W W.heap.size (.agg cs.toArray) M ∧ WpW M := by
  obtain ⟨hl, hf⟩ := field_of Try.underlying84 h
  rw [cellsLWp] at hl
  obtain ⟨v0, v1, rfl⟩ := listWp hl
  obtain ⟨n0, y0, h0⟩ := hf 0 _ rfl
  obtain ⟨n1, y1, h1⟩ := hf 1 _ rfl
  simp [cellsWpi, cellsWpl] at h0 h1
  obtain ⟨i0, hL0, w0⟩ := open_ints1 h0
  obtain ⟨i1, rfl, w1⟩ := open_int1 h1
  exact ⟨⟨i0, i1⟩, ⟨v0, rfl, hL0⟩, w1, w0⟩
end
end Go.Proofs.Ytgamoiagpglcmaa
