/- Maps of logical pages and metadata that come in as arguments of a law, opened: what is known of them. -/
import Derived.Test.YtgamoiagpglcmaaProg
import Derived.Test.YtgamoiagpglcmaaFlO
import Derived.Test.YtgamoiagpglcmaaTbO
import Derived.Test.YtgamoiagpglcmaaPmM
import Derived.Deep.Grids
namespace Go.Proofs.Ytgamoiagpglcmaa
open Go.RowKit Go.ChangeShapes Go.WideShapes
set_option linter.unusedVariables false
def PmW (M : Pm) : Prop := (WfI M.b ∧ WfI M.p) ∧ WfL M.mp
section
variable {H : Type} {enc : TypeId × Value → H} {W : World} {sp : Nat → Bool} {held : Bool}
theorem open_bools1 {fuel : Nat} {v : Value} {x : DataW H × List MemPlace} (h : DataW.trod enc Try.prog W 0 sp held fuel 23 [v] = some x) : ∃ L, NB W W.heap.size v L := by
  rcases Go.Deep.open_slice1 Try.underlying23 (by kernel_rfl) h with ⟨hcs, _⟩ | ⟨a, l, c, m, n, V, D, Pl, hcs, _, hl, hm, hmm, _, hx⟩
  · injection hcs with hcs
    subst hcs
    exact ⟨[], NB.nil _ _⟩
  · injection hcs with hcs
    subst hcs
    have hlm : l ≤ m := by rw [hmm]; split <;> omega
    have key : ∀ i, i < l → ∃ b : Bool, V i = .bool b := fun i hi => open_bool1 (hx i (by omega)).2
    obtain ⟨f, hf⟩ := Go.Deep.choose_lt key
    refine ⟨(List.range l).map f, ⟨some a, l, c, rfl, hl, by unfold maxLen at hm; omega, by simp, fun h0 => ?_⟩⟩
    obtain ⟨b, off, spot⟩ := a
    have h00 := (hx 0 (by omega)).1
    have hspot : spot = none := by simpa [Addr.add] using World.cell?_spot h00
    subst hspot
    refine ⟨b, off, rfl, World.block_lt_of_cell? W ⟨b, off, none⟩ (by simpa [Addr.add] using h00), fun i hi => ?_⟩
    have := (hx i (by omega)).1
    have e2 : (⟨b, off, none⟩ : Addr).add i = ⟨b, off + i, none⟩ := by unfold Addr.add; split <;> simp_all
    rw [e2, hf i hi] at this
    rw [this]
    simp [List.getD_eq_getElem?_getD, hi]
theorem cellsLBo : Try.prog.cellsOf 23 = 1 := by kernel_rfl
theorem cellsL64' : Try.prog.cellsOf 22 = 1 := by kernel_rfl
theorem cellsI'' : Try.prog.cellsOf 2 = 1 := by kernel_rfl
theorem list5 {α : Type} {l : List α} (h : l.length = 5) : ∃ a b c d e, l = [a, b, c, d, e] := by
  match l, h with
  | [a, b, c, d, e], _ => exact ⟨a, b, c, d, e, rfl⟩
end
end Go.Proofs.Ytgamoiagpglcmaa
