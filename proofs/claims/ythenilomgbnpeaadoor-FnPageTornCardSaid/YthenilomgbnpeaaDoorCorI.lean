/- Error correction in the program: the correction of a single error. -/
import Derived.Test.YthenilomgbnpeaaDoorProg
import Derived.Test.YthenilomgbnpeaaDoorCwI
import Derived.Lib.Strings
import Derived.Lib.Slices
import Derived.Lib.Small
import Derived.Lib.Walk
import Derived.Lib.BitFns
namespace Go.Proofs.YthenilomgbnpeaaDoor
open Go.RowKit

set_option maxHeartbeats 4000000 in
set_option maxRecDepth 1000000 in
theorem len64_small (x : Int) (w : World) (h0 : 0 ≤ x) (h : x ≤ 255) :
    Calls Tryd.prog 49 #[.int .u64 x] w fun e w' => e = .returned (.int .i64 (Lib.bitLen x.toNat)) ∧ w = w' := by
  go_enter Tryd.func49, Tryd.ntmps49
  go_wp2
  go_ret
  refine ⟨congrArg Ending.returned (congrArg (Value.int IntKind.i64) ?_), rfl⟩
  rw [Lib.len8_of x (by omega) (by omega)]
  have l := Lib.bitLen_le8' x (by omega) (by omega)
  rw [IntWalk.wrap64_in ((Lib.bitLen x.toNat : Nat) : Int) (by omega), IntWalk.wrap64_in _ (by omega)]
theorem len64_nat (x : Nat) (w : World) (h : x ≤ 255) :
    Calls Tryd.prog 49 #[.int .u64 x] w fun e w' => e = .returned (.int .i64 (Lib.bitLen x : Nat)) ∧ w = w' := by
  have := len64_small (x : Int) w (by omega) (by omega)
  rw [Int.toNat_natCast] at this
  exact this
theorem pow_all : ∀ p : Fin 72, (p.val &&& (p.val - 1) = 0 → 64 ≤ bitAt p.val) ∧ (p.val &&& (p.val - 1) ≠ 0 → bitAt p.val < 64 ∧ bitAt p.val + Lib.bitLen p.val + 1 = p.val ∧ 1 ≤ p.val) := by decide +kernel
def CorPost (R : Nat) (w : World) (e : Ending) (w' : World) : Prop := ∃ Y, e = .returned (.agg (cw Y)) ∧ lo Y = R ∧ Below w.heap.size w w'
set_option maxRecDepth 100000 in
theorem correct_any (X : Nat) (w : World) (hX : X < 2 ^ 72) (h : One X) :
    Calls Tryd.prog 39 #[.agg (cw X), .int .i64 (synN X : Nat)] w (CorPost (lo (fixN X)) w) := by
  have hp := h.2
  have hbl := bitAt_lt hp
  obtain ⟨p1, p2⟩ := pow_all ⟨synN X, by omega⟩
  simp only at p1 p2
  have hF := fun (W : World) => flip_cw X (bitAt (synN X)) W hX hbl
  have hfx : fixN X = X ^^^ 2 ^ bitAt (synN X) := rfl
  rw [← hfx] at hF
  have HF := Lib.hid hF
  have HH := Lib.hid (fun h64 => (flip_hi hX h64 hbl).1)
  rw [← hfx] at HH
  clear hF hfx h
  obtain ⟨p, hpp⟩ : ∃ p, p = synN X := ⟨_, rfl⟩
  obtain ⟨Y, hY⟩ : ∃ Y, Y = fixN X := ⟨_, rfl⟩
  rw [← hpp] at hp hbl p1 p2 HF HH ⊢
  rw [← hY] at HF HH ⊢
  clear hpp hY
  by_cases hz : p &&& (p - 1) = 0
  · have hb : (bits .and .i64 (p : Int) ((p : Int) - 1) == 0) = true := by
      rcases Nat.eq_zero_or_pos p with rfl | hpos
      · decide
      · have := i64_and_nat p (p - 1) (by omega) (by omega)
        rw [hz, show ((p - 1 : Nat) : Int) = (p : Int) - 1 by omega] at this
        rw [this]; rfl
    have H64 := HH.out (p1 hz)
    clear p1 p2 hz hbl HF HH
    unfold cw
    go_enter Tryd.func39, Tryd.ntmps39
    go_wp2
    exact bodyPost_ret (results_cell_row Tryd.results39 _ _ _ _ _ _ _ rfl (heap_new2 w _ _) Tryd.underlying66 rfl infoCw') rfl
      ⟨X, rfl, H64.symm, ((Below.refl _ _).alloc (Nat.le_refl _) _).alloc (by simp) _⟩
  · obtain ⟨q1, q2, q3⟩ := p2 hz
    have hb : (bits .and .i64 (p : Int) ((p : Int) - 1) == 0) = false := by
      have := i64_and_nat p (p - 1) (by omega) (by omega)
      rw [show ((p - 1 : Nat) : Int) = (p : Int) - 1 by omega] at this
      rw [this]; simp; omega
    have hbi : (p : Int) - (Lib.bitLen p : Nat) - 1 = (bitAt p : Nat) := by omega
    rw [← hbi] at HF
    have HL := Lib.hid (fun (W : World) => len64_nat p W (by omega))
    have hlp : Lib.bitLen p ≤ 71 := by omega
    generalize Lib.bitLen p = L at *
    clear p1 p2 hz hbl HH q1 q2 hbi
    unfold cw at HF ⊢
    go_enter Tryd.func39, Tryd.ntmps39
    go_wp2_with (first
      | (go_at_call 49; refine (HL.out _).mono ?_; rintro e w' ⟨rfl, rfl⟩)
      | (
        go_at_call 50
        refine (HF.out _).mono ?_
        rintro e w1 ⟨rfl, hb1⟩
        have r1 : Row w1 (w.heap.size + 1) 66 #[.int .u64 0, .int .u8 0] := Row.below (heap_new2 w _ _) hb1 (by simp)
        have g0 := r1.free 0
        have g1 := r1.free 1
        have d0 := r1.cell 0
        have d1 := r1.cell 1
        simp only [List.getElem?_toArray, List.getElem?_cons_zero, List.getElem?_cons_succ] at d0 d1
        have R1 := Lib.hid r1
        clear r1))
    have hB : Below w.heap.size w w1 := (((Below.refl w.heap.size w).alloc (Nat.le_refl _) _).alloc (by simp) _).trans (hb1.mono (by simp; omega))
    exact bodyPost_ret (results_cell_row Tryd.results39 _ _ _ _ _ _ _ rfl ((R1.out.set_ 0 _).set_ 1 _) Tryd.underlying66 rfl infoCw') rfl
      ⟨Y, rfl, rfl, (hB.setCell (by simp) _).setCell (by simp) _⟩
end Go.Proofs.YthenilomgbnpeaaDoor
