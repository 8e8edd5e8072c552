/- The proof's own lemmas, part 18: FtM TbO Lu. -/
import Derived.Test.YtgamoiagpglcmaaProg
import Derived.Test.YtgamoiagpglcmaaMg16
import Derived.Test.YtgamoiagpglcmaaMg10
import Derived.StillTailTactics
import Derived.Test.YtgamoiagpglcmaaMg12
import Derived.Test.YtgamoiagpglcmaaMg14
import Derived.Test.YtgamoiagpglcmaaMg15
import Derived.Test.YtgamoiagpglcmaaMg11
/- Lists of faults in memory, and what the laws' helpers for them do. -/
namespace Go.Proofs.Ytgamoiagpglcmaa
open Go.RowKit
set_option linter.unusedVariables false
/-- The value v is a slice of n faults, in the blocks below hi, whose fields are the integers l. -/
def QI (w : World) (hi : Nat) (v : Value) (n : Nat) (l : List Int) : Prop :=
  ∃ A cap, v = .slice A n cap ∧ n ≤ cap ∧ cap ≤ 9223372036854775807 ∧ l.length = n * 4 ∧ (0 < n → ∃ b off, A = some ⟨b, off, none⟩ ∧ b < hi ∧ ∀ i, i < n * 4 → w.cell? ⟨b, off + i, none⟩ = some (.int .i64 (l.getD i 0)))
section
variable {w w' : World} {lo hi lo' hi' B n : Nat} {v : Value} {l : List Int}
theorem QI.below (h : QI w hi v n l) (hb : Below B w w') (hB : hi ≤ B) : QI w' hi v n l := by
  obtain ⟨A, cap, rfl, h1, h2, hl, hc⟩ := h
  refine ⟨A, cap, rfl, h1, h2, hl, fun h0 => ?_⟩
  obtain ⟨b, off, rfl, hbl, hx⟩ := hc h0
  exact ⟨b, off, rfl, hbl, fun i hi => (hb.cell (p := ⟨b, off + i, none⟩) (Nat.lt_of_lt_of_le hbl hB)).trans (hx i hi)⟩
theorem QI.wide (h : QI w hi v n l) (hh : hi ≤ hi') : QI w hi' v n l := by
  obtain ⟨A, cap, rfl, h1, h2, hl, hc⟩ := h
  refine ⟨A, cap, rfl, h1, h2, hl, fun h0 => ?_⟩
  obtain ⟨b, off, rfl, hbl, hx⟩ := hc h0
  exact ⟨b, off, rfl, by omega, hx⟩
theorem QI.len (h : QI w hi v n l) : l.length = n * 4 ∧ n ≤ 9223372036854775807 := by obtain ⟨A, cap, rfl, h1, h2, hl, hc⟩ := h; exact ⟨hl, by omega⟩
end
theorem take_set4 (L : List Int) (n k : Nat) (hL : L.length = n * 4) (h : k < n) :
    (((((L.take (k * 4) ++ List.replicate (n * 4 - k * 4) 0).set (k * 4) (L.getD (k * 4) 0)).set (k * 4 + 1) (L.getD (k * 4 + 1) 0)).set (k * 4 + 2) (L.getD (k * 4 + 2) 0)).set (k * 4 + 3) (L.getD (k * 4 + 3) 0)) = L.take ((k + 1) * 4) ++ List.replicate (n * 4 - (k + 1) * 4) 0 := by
  have s := fun j (hj : j < L.length) => take_setI L j hj
  rw [hL] at s
  have e0 := s (k * 4) (by omega)
  have e1 := s (k * 4 + 1) (by omega)
  have e2 := s (k * 4 + 2) (by omega)
  have e3 := s (k * 4 + 3) (by omega)
  rw [e0, e1, e2, e3]
  rw [show (k + 1) * 4 = k * 4 + 3 + 1 by omega]
theorem mkL_set4 (m : Int) (l : List Int) (k n : Nat) (hl : l.length = n * 4) (h : k < n) :
    (((((mkL m (k * 4) ++ l.drop (k * 4)).set (k * 4) (m + (k : Int) * 4)).set (k * 4 + 1) (m + (k : Int) * 4 + 1)).set (k * 4 + 2) (m + (k : Int) * 4 + 1 + 1)).set (k * 4 + 3) (m + (k : Int) * 4 + 1 + 1 + 1)) = mkL m ((k + 1) * 4) ++ l.drop ((k + 1) * 4) := by
  rw [show m + (k : Int) * 4 + 1 + 1 + 1 = m + ((k * 4 + 3 : Nat) : Int) by omega, show m + (k : Int) * 4 + 1 + 1 = m + ((k * 4 + 2 : Nat) : Int) by omega, show m + (k : Int) * 4 + 1 = m + ((k * 4 + 1 : Nat) : Int) by omega, show m + (k : Int) * 4 = m + ((k * 4 : Nat) : Int) by omega]
  rw [mkL_set m l (k * 4) (by omega), mkL_set m l (k * 4 + 1) (by omega), mkL_set m l (k * 4 + 2) (by omega), mkL_set m l (k * 4 + 3) (by omega)]
  rw [show (k + 1) * 4 = k * 4 + 3 + 1 by omega]
end Go.Proofs.Ytgamoiagpglcmaa
/- Tables, faults and lists of faults that come in as arguments of a law, opened: what is known of them. -/
namespace Go.Proofs.Ytgamoiagpglcmaa
open Go.RowKit Go.ChangeShapes Go.WideShapes
set_option linter.unusedVariables false
instance : Inhabited Ft := ⟨Ft.zero⟩
def WfL (l : List Int) : Prop := ∀ i, i < l.length → WfI (l.getD i 0)
theorem WfI.j {n : Int} (h : WfI n) : -9223372036854775808 ≤ n ∧ n ≤ 9223372036854775807 := by
  simp [WfI, Lit.wf] at h
  have h1 : IntKind.i64.min = -9223372036854775808 := by decide
  have h2 : IntKind.i64.max = 9223372036854775807 := by decide
  omega
def TbW (T : Tb) : Prop := (WfI T.d ∧ WfI T.b ∧ WfI T.p ∧ WfI T.sp) ∧ WfL T.bad ∧ WfL T.rm
section
variable {H : Type} {enc : TypeId × Value → H} {W : World} {sp : Nat → Bool} {held : Bool}
theorem open_ints1 {fuel : Nat} {v : Value} {x : DataW H × List MemPlace} (h : DataW.trod enc Try.prog W 0 sp held fuel 22 [v] = some x) : ∃ L, NI W W.heap.size v L ∧ WfL L := by
  rcases open_ints Try.underlying22 Try.underlying2 (by kernel_rfl) h with ⟨hcs, _⟩ | ⟨a, l, c, zs, hcs, _, hl, hm, hz, _, hcell, hwz⟩
  · injection hcs with hcs
    subst hcs
    exact ⟨[], NI.nil _ _, fun i hi => by simp at hi⟩
  · injection hcs with hcs
    subst hcs
    have hzl : l ≤ zs.length := by rw [hz]; split <;> omega
    have e : ∀ i, i < l → (zs.take l).getD i 0 = zs.getD i 0 := fun i hi => by
      rw [List.getD_eq_getElem?_getD, List.getD_eq_getElem?_getD, List.getElem?_take, if_pos hi]
    refine ⟨zs.take l, ⟨some a, l, c, rfl, hl, by unfold maxLen at hm; omega, by rw [List.length_take]; omega, fun h0 => ?_⟩, fun i hi => ?_⟩
    · obtain ⟨b, off, spot⟩ := a
      have h00 := hcell 0 (by omega)
      have hspot : spot = none := by simpa [Addr.add] using World.cell?_spot h00
      subst hspot
      refine ⟨b, off, rfl, World.block_lt_of_cell? W ⟨b, off, none⟩ (by simpa [Addr.add] using h00), fun i hi => ?_⟩
      have := hcell i (by omega)
      have e2 : (⟨b, off, none⟩ : Addr).add i = ⟨b, off + i, none⟩ := by unfold Addr.add; split <;> simp_all
      rw [e2] at this
      rw [this, e i hi]
    · rw [List.length_take] at hi
      rw [e i (by omega), List.getD_eq_getElem?_getD, List.getElem?_eq_getElem (show i < zs.length by omega)]
      exact hwz _ (List.getElem_mem (show i < zs.length by omega))
theorem cellsL64 : Try.prog.cellsOf 22 = 1 := by kernel_rfl
theorem cellsLG' : Try.prog.cellsOf 70 = 3 := by kernel_rfl
theorem cellsI' : Try.prog.cellsOf 2 = 1 := by kernel_rfl
theorem list6 {α : Type} {l : List α} (h : l.length = 6) : ∃ a b c d e f, l = [a, b, c, d, e, f] := by
  match l, h with
  | [a, b, c, d, e, f], _ => exact ⟨a, b, c, d, e, f, rfl⟩
theorem list4' {α : Type} {l : List α} (h : l.length = 4) : ∃ a b c d, l = [a, b, c, d] := by
  match l, h with
  | [a, b, c, d], _ => exact ⟨a, b, c, d, rfl⟩
end
end Go.Proofs.Ytgamoiagpglcmaa
/- Lists of int64 and of bool as arguments and results of a law: the laws' helpers in the shape that all kinds share. -/
namespace Go.Proofs.Ytgamoiagpglcmaa
open Go.RowKit
set_option linter.unusedVariables false
abbrev LiIn (w : World) (hi : Nat) (v : Value) (L : List Int) : Prop := NI w hi v L
abbrev LiOwn (w : World) (lo hi : Nat) (v : Value) (L : List Int) : Prop := IO w lo hi v L
def LiSz (L : List Int) : Prop := L.length ≤ 1048576
abbrev LiW (L : List Int) : Prop := WfL L
def nLi (L : List Int) : Nat := L.length
def markLiD (k0 : Nat) (L : List Int) : List Int := mkL (k0 : Int) L.length
abbrev BoIn (w : World) (hi : Nat) (v : Value) (L : List Bool) : Prop := NB w hi v L
abbrev BoOwn (w : World) (lo hi : Nat) (v : Value) (L : List Bool) : Prop := BW w lo hi v L
def BoSz (L : List Bool) : Prop := L.length ≤ 1048576
abbrev BoW (L : List Bool) : Prop := True
def nBo (L : List Bool) : Nat := L.length
def markBoD (k0 : Nat) (L : List Bool) : List Bool := mkB k0 L.length
theorem NI.agg_ {w : World} {hi : Nat} {v : Value} {L : List Int} (h : NI w hi v L) : ∃ (A : Option Addr) (n c : Nat), v = .slice A n c := h.slice
theorem NB.agg_ {w : World} {hi : Nat} {v : Value} {L : List Bool} (h : NB w hi v L) : ∃ (A : Option Addr) (n c : Nat), v = .slice A n c := h.slice
theorem IO.agg_ {w : World} {lo hi : Nat} {v : Value} {L : List Int} (h : IO w lo hi v L) : ∃ (A : Option Addr) (n c : Nat), v = .slice A n c := h.reads.slice
theorem BW.agg_ {w : World} {lo hi : Nat} {v : Value} {L : List Bool} (h : BW w lo hi v L) : ∃ (A : Option Addr) (n c : Nat), v = .slice A n c := h.reads.slice
theorem NI.len_ {w : World} {hi : Nat} {A : Option Addr} {n c : Nat} {L : List Int} (h : NI w hi (.slice A n c) L) : L.length = n ∧ n ≤ 9223372036854775807 := by
  obtain ⟨_, _, _, e, q1, q2, q3, _⟩ := h; injection e with z1 z2 z3; omega
theorem NB.len_ {w : World} {hi : Nat} {A : Option Addr} {n c : Nat} {L : List Bool} (h : NB w hi (.slice A n c) L) : L.length = n ∧ n ≤ 9223372036854775807 := by
  obtain ⟨_, _, _, e, q1, q2, q3, _⟩ := h; injection e with z1 z2 z3; omega
/-- A call that leaves memory as it was. -/
theorem Calls.calm {P : Program} {f : FuncId} {args : Array Value} {w : World} {r : Value} (h : Calls P f args w fun e w' => e = .returned r ∧ w = w') : Calls P f args w fun e w' => e = .returned r ∧ Below w.heap.size w w' :=
  h.mono fun e w' q => ⟨q.1, by rw [← q.2]; exact Below.refl _ _⟩
theorem toLi_any (v : Value) (L : List Int) (w : World) (hi : Nat) (h : NI w hi v L) (hh : hi ≤ w.heap.size) (hz : LiSz L) :
    Calls Try.prog 73 #[v] w fun e w' => ∃ u, e = .returned u ∧ IO w' w.heap.size w'.heap.size u L ∧ Below w.heap.size w w' :=
  (toInts_any v L w (h.intsR hh) hz).mono fun e w' ⟨u, q, ho, hb⟩ => ⟨u, q, IO.mk_ ho, hb⟩
theorem eqLi_any (u v : Value) (L : List Int) (w : World) (hi hi' : Nat) (hu : NI w hi u L) (hv : NI w hi' v L) (h1 : hi ≤ w.heap.size) (h2 : hi' ≤ w.heap.size) (hz : LiSz L) :
    Calls Try.prog 77 #[u, v] w fun e w' => e = .returned (.bool true) ∧ Below w.heap.size w w' := eqInts_any u v L w (hu.ints h1) (hv.ints h2) hz
theorem toBo_any (v : Value) (L : List Bool) (w : World) (hi : Nat) (h : NB w hi v L) (hh : hi ≤ w.heap.size) (hz : BoSz L) :
    Calls Try.prog 74 #[v] w fun e w' => ∃ u, e = .returned u ∧ BW w' w.heap.size w'.heap.size u L ∧ Below w.heap.size w w' :=
  (toBools_any v L w (h.boolsR hh) hz).mono fun e w' ⟨u, q, ho, hb⟩ => ⟨u, q, BW.mk_ ho, hb⟩
theorem eqBo_any (u v : Value) (L : List Bool) (w : World) (hi hi' : Nat) (hu : NB w hi u L) (hv : NB w hi' v L) (h1 : hi ≤ w.heap.size) (h2 : hi' ≤ w.heap.size) (hz : BoSz L) :
    Calls Try.prog 78 #[u, v] w fun e w' => e = .returned (.bool true) ∧ Below w.heap.size w w' := eqBools_any u v L w (hu.bools h1) (hv.bools h2) hz
theorem mkLi_any (v : Value) (M : List Int) (k0 : Nat) (w : World) (lo hi : Nat) (h : IO w lo hi v M) (hl : lo ≤ hi) (hh : hi ≤ w.heap.size) (hz : LiSz M) (hk : k0 ≤ 3200000) :
    Calls Try.prog 79 #[v, .int .i64 (k0 : Int)] w fun e w' => e = .returned (.int .i64 ((k0 + nLi M : Nat) : Int)) ∧ IO w' lo hi v (markLiD k0 M) ∧ Kp lo hi w w' :=
  (markIntsK_any lo v M k0 w h.1 hz (by omega)).mono fun e w' ⟨q, ho, hg, hb⟩ => ⟨q, ⟨ho, h.2⟩, hb, fun j h1 h2 => hg.block j h2 (fun e => by have := h.2 j e.symm; omega)⟩
theorem hdLi_any (v : Value) (M : List Int) (k0 : Nat) (w : World) (hi : Nat) (h : NI w hi v (markLiD k0 M)) (hh : hi ≤ w.heap.size) (hz : LiSz M) (hk : k0 ≤ 3200000) :
    Calls Try.prog 81 #[v, .int .i64 (k0 : Int)] w fun e w' => e = .returned (.int .i64 ((k0 + nLi M : Nat) : Int)) ∧ Below w.heap.size w w' :=
  Calls.calm (heldIntsK_any v k0 M.length w (h.ints hh) hz (by omega))
theorem mkBo_any (v : Value) (M : List Bool) (k0 : Nat) (w : World) (lo hi : Nat) (h : BW w lo hi v M) (hl : lo ≤ hi) (hh : hi ≤ w.heap.size) (hz : BoSz M) (hk : k0 ≤ 3200000) :
    Calls Try.prog 80 #[v, .int .i64 (k0 : Int)] w fun e w' => e = .returned (.int .i64 ((k0 + nBo M : Nat) : Int)) ∧ BW w' lo hi v (markBoD k0 M) ∧ Kp lo hi w w' :=
  (markBoolsK_any lo v M k0 w h.1 hz (by omega)).mono fun e w' ⟨q, ho, hg, hb⟩ => ⟨q, ⟨ho, h.2⟩, hb, fun j h1 h2 => hg.block j h2 (fun e => by have := h.2 j e.symm; omega)⟩
theorem hdBo_any (v : Value) (M : List Bool) (k0 : Nat) (w : World) (hi : Nat) (h : NB w hi v (markBoD k0 M)) (hh : hi ≤ w.heap.size) (hz : BoSz M) (hk : k0 ≤ 3200000) :
    Calls Try.prog 82 #[v, .int .i64 (k0 : Int)] w fun e w' => e = .returned (.int .i64 ((k0 + nBo M : Nat) : Int)) ∧ Below w.heap.size w w' :=
  Calls.calm (heldBoolsK_any v k0 M.length w (h.bools hh) hz (by omega))
end Go.Proofs.Ytgamoiagpglcmaa
