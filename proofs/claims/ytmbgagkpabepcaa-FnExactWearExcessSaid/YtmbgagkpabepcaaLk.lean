/- What the laws' helpers for lists do, in one shape: a copy that reads alike; equality. -/
import Derived.Test.YtmbgagkpabepcaaProg
import Derived.Test.YtmbgagkpabepcaaPmM
import Derived.Test.YtmbgagkpabepcaaIntsR
import Derived.Test.YtmbgagkpabepcaaArg
import Derived.Test.YtmbgagkpabepcaaTbO
namespace Go.Proofs.Ytmbgagkpabepcaa
open Go.RowKit
set_option linter.unusedVariables false
theorem NI.later {w w' : World} {v : Value} {L : List Int} (h : NI w w.heap.size v L) (b : Below w.heap.size w w') : NI w' w'.heap.size v L := (h.below b (Nat.le_refl _)).wide b.size
theorem NB.later {w w' : World} {v : Value} {L : List Bool} (h : NB w w.heap.size v L) (b : Below w.heap.size w w') : NB w' w'.heap.size v L := (h.below b (Nat.le_refl _)).wide b.size
theorem IsRow.ni {w : World} {a : Option Addr} {len cap : Nat} {zs : List Int} (h : IsRow .i64 w a len cap zs) : NI w w.heap.size (.slice a len cap) (zs.take len) := by
  rcases h with ⟨rfl, rfl, rfl, rfl⟩ | ⟨x, rfl, h1, h2, h3, hc, hw⟩
  · exact ⟨none, 0, 0, rfl, Nat.le_refl _, by omega, rfl, fun h => by omega⟩
  · refine ⟨_, len, cap, rfl, h1, by unfold maxLen at h2; omega, by simp; omega, fun h0 => ?_⟩
    obtain ⟨b, off, spot⟩ := x
    have h00 := hc 0 (by omega)
    have hspot : spot = none := by simpa [Addr.add] using World.cell?_spot h00
    subst hspot
    refine ⟨b, off, rfl, World.block_lt_of_cell? w ⟨b, off, none⟩ (by simpa [Addr.add] using h00), fun i hi => ?_⟩
    have := hc i (by omega)
    have e : (⟨b, off, none⟩ : Addr).add i = ⟨b, off + i, none⟩ := by unfold Addr.add; split <;> simp_all
    rw [e] at this
    rw [this, List.getD_eq_getElem?_getD, List.getD_eq_getElem?_getD, List.getElem?_take, if_pos hi]
theorem IsRow.wfL {w : World} {a : Option Addr} {len cap : Nat} {zs : List Int} (h : IsRow .i64 w a len cap zs) : WfL (zs.take len) := by
  intro i hi
  rcases h with ⟨rfl, rfl, rfl, rfl⟩ | ⟨x, rfl, h1, h2, h3, hc, hw⟩
  · simp at hi
  · rw [List.length_take] at hi
    have hi2 : i < zs.length := by omega
    rw [List.getD_eq_getElem?_getD, List.getElem?_take, if_pos (show i < len by omega), List.getElem?_eq_getElem hi2]
    exact hw _ (List.getElem_mem hi2)
def LkI (L : List Int) (w W : World) (e : Ending) (w' : World) : Prop := ∃ A n c, e = .returned (.slice A n c) ∧ NI w' w'.heap.size (.slice A n c) L ∧ Below w.heap.size w w' ∧ Below W.heap.size W w'
theorem lkI_any (v : Value) (L : List Int) (w W : World) (h : NI w w.heap.size v L) (b : Below w.heap.size w W) (hl : L.length ≤ 1048576) : Calls Try.prog 35 #[v] W (LkI L w W) := by
  refine (toInts_any v L W ((h.below b (Nat.le_refl _)).intsR b.size) hl).mono ?_
  rintro e w1 ⟨u, rfl, ho, hb⟩
  obtain ⟨A, n, c, rfl⟩ := ho.sliceOf'
  exact ⟨A, n, c, rfl, ho.readsR, b.trans (hb.mono b.size), hb⟩
theorem lkIe_any (u v : Value) (L : List Int) (W : World) (h1 : NI W W.heap.size u L) (h2 : NI W W.heap.size v L) (hl : L.length ≤ 1048576) : Calls Try.prog 38 #[u, v] W fun e w' => e = .returned (.bool true) ∧ Below W.heap.size W w' :=
  eqInts_any u v L W (h1.ints (Nat.le_refl _)) (h2.ints (Nat.le_refl _)) hl
def LkB (L : List Bool) (w W : World) (e : Ending) (w' : World) : Prop := ∃ A n c, e = .returned (.slice A n c) ∧ NB w' w'.heap.size (.slice A n c) L ∧ Below w.heap.size w w' ∧ Below W.heap.size W w'
theorem lkB_any (v : Value) (L : List Bool) (w W : World) (h : NB w w.heap.size v L) (b : Below w.heap.size w W) (hl : L.length ≤ 1048576) : Calls Try.prog 36 #[v] W (LkB L w W) := by
  refine (toBools_any v L W ((h.below b (Nat.le_refl _)).boolsR b.size) hl).mono ?_
  rintro e w1 ⟨u, rfl, ho, hb⟩
  obtain ⟨A, n, c, rfl⟩ := ho.sliceOf
  exact ⟨A, n, c, rfl, ho.readsR, b.trans (hb.mono b.size), hb⟩
theorem lkBe_any (u v : Value) (L : List Bool) (W : World) (h1 : NB W W.heap.size u L) (h2 : NB W W.heap.size v L) (hl : L.length ≤ 1048576) : Calls Try.prog 39 #[u, v] W fun e w' => e = .returned (.bool true) ∧ Below W.heap.size W w' :=
  eqBools_any u v L W (h1.bools (Nat.le_refl _)) (h2.bools (Nat.le_refl _)) hl
end Go.Proofs.Ytmbgagkpabepcaa
