/- Tables, faults and lists of faults that come in as arguments of a law, opened: what is known of them. -/
import Derived.Test.YtgamoiagpglcmaaProg
import Derived.Test.YtgamoiagpglcmaaFlO
import Derived.Test.YtgamoiagpglcmaaTbM
import Derived.Test.YtgamoiagpglcmaaFtM
namespace Go.Proofs.Ytgamoiagpglcmaa
open Go.RowKit Go.ChangeShapes Go.WideShapes
set_option linter.unusedVariables false
instance : Inhabited Ft := ⟨Ft.zero⟩
def WfL (l : List Int) : Prop := ∀ i, i < l.length → WfI (l.getD i 0)
theorem WfI.j {n : Int} (h : WfI n) : -9223372036854775808 ≤ n ∧ n ≤ 9223372036854775807 := by
  simp [WfI, Lit.wf] at h
  have h1 : IntKind.i64.min = -9223372036854775808 := by decide
  have h2 : IntKind.i64.max = 9223372036854775807 := by decide
  omega
def TbW (T : Tb) : Prop := (WfI T.d ∧ WfI T.b ∧ WfI T.p ∧ WfI T.sp) ∧ WfL T.bad ∧ WfL T.rm
section
variable {H : Type} {enc : TypeId × Value → H} {W : World} {sp : Nat → Bool} {held : Bool}
theorem open_ints1 {fuel : Nat} {v : Value} {x : DataW H × List MemPlace} (h : DataW.trod enc Try.prog W 0 sp held fuel 22 [v] = some x) : ∃ L, NI W W.heap.size v L ∧ WfL L := by
  rcases open_ints Try.underlying22 Try.underlying2 (by kernel_rfl) h with ⟨hcs, _⟩ | ⟨a, l, c, zs, hcs, _, hl, hm, hz, _, hcell, hwz⟩
  · injection hcs with hcs
    subst hcs
    exact ⟨[], NI.nil _ _, fun i hi => by simp at hi⟩
  · injection hcs with hcs
    subst hcs
    have hzl : l ≤ zs.length := by rw [hz]; split <;> omega
    have e : ∀ i, i < l → (zs.take l).getD i 0 = zs.getD i 0 := fun i hi => by
      rw [List.getD_eq_getElem?_getD, List.getD_eq_getElem?_getD, List.getElem?_take, if_pos hi]
    refine ⟨zs.take l, ⟨some a, l, c, rfl, hl, by unfold maxLen at hm; omega, by rw [List.length_take]; omega, fun h0 => ?_⟩, fun i hi => ?_⟩
    · obtain ⟨b, off, spot⟩ := a
      have h00 := hcell 0 (by omega)
      have hspot : spot = none := by simpa [Addr.add] using World.cell?_spot h00
      subst hspot
      refine ⟨b, off, rfl, World.block_lt_of_cell? W ⟨b, off, none⟩ (by simpa [Addr.add] using h00), fun i hi => ?_⟩
      have := hcell i (by omega)
      have e2 : (⟨b, off, none⟩ : Addr).add i = ⟨b, off + i, none⟩ := by unfold Addr.add; split <;> simp_all
      rw [e2] at this
      rw [this, e i hi]
    · rw [List.length_take] at hi
      rw [e i (by omega), List.getD_eq_getElem?_getD, List.getElem?_eq_getElem (show i < zs.length by omega)]
      exact hwz _ (List.getElem_mem (show i < zs.length by omega))
theorem cellsL64 : Try.prog.cellsOf 22 = 1 := by kernel_rfl
theorem cellsLG' : Try.prog.cellsOf 70 = 3 := by kernel_rfl
theorem cellsI' : Try.prog.cellsOf 2 = 1 := by kernel_rfl
theorem list6 {α : Type} {l : List α} (h : l.length = 6) : ∃ a b c d e f, l = [a, b, c, d, e, f] := by
  match l, h with
  | [a, b, c, d, e, f], _ => exact ⟨a, b, c, d, e, f, rfl⟩
theorem list4' {α : Type} {l : List α} (h : l.length = 4) : ∃ a b c d, l = [a, b, c, d] := by
  match l, h with
  | [a, b, c, d], _ => exact ⟨a, b, c, d, rfl⟩
end
end Go.Proofs.Ytgamoiagpglcmaa
