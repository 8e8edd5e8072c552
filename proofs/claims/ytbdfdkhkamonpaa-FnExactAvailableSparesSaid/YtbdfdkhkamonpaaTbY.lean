/- The available spare blocks of a die, the model: the contract (for AvailableSpares and RetireBlock). -/
import Derived.Test.YtbdfdkhkamonpaaProg
import Derived.Test.YtbdfdkhkamonpaaTbS
namespace Go.Proofs.Ytbdfdkhkamonpaa
open Go.RowKit
set_option linter.unusedVariables false
set_option linter.unusedSimpArgs false
noncomputable def avTo (T : Tb) (f : Int) : Nat → List Int
  | 0 => []
  | k + 1 => if (f + (k : Int)) ∈ T.bad ∨ (f + (k : Int)) ∈ T.rm then avTo T f k else avTo T f k ++ [f + (k : Int)]
theorem avTo_le (T : Tb) (f : Int) (k : Nat) : (avTo T f k).length ≤ k := by
  induction k with
  | zero => simp [avTo]
  | succ k ih =>
    unfold avTo
    split
    · omega
    · rw [List.length_append, List.length_singleton]; omega
set_option maxHeartbeats 2000000 in
set_option maxRecDepth 100000 in
theorem specAvail_any (u : Value) (T : Tb) (l E F : Int) (n : Nat) (w : World) (hi : Nat) (h : TbIn w hi u T) (hh : hi ≤ w.heap.size) (hl : TbSz T) (hl0 : 0 ≤ l ∧ l ≤ 1000) (hE : (l + 1) * T.b = E) (hE2 : 0 ≤ E ∧ E ≤ 100000) (hsp : T.sp = (n : Int)) (hn : n ≤ 1000) (hF : F = E - T.sp) :
    Calls Try.prog 73 #[u, .int .i64 l] w (CopyPostI (avTo T F n) w) := by
  obtain ⟨a, y, rfl, ha, hy⟩ := h
  obtain ⟨A, na, c, rfl⟩ := ha.slice
  obtain ⟨A', ny, c', rfl⟩ := hy.slice
  have HA := Lib.hid (fun (W : World) (q : Below w.heap.size w W) => ha.below q hh)
  have HY := Lib.hid (fun (W : World) (q : Below w.heap.size w W) => hy.below q hh)
  have HH := Lib.hid (fun (W : World) (q : Below w.heap.size w W) => Nat.le_trans hh q.size)
  have HSZ := Lib.hid (show T.bad.length ≤ 1048576 ∧ T.rm.length ≤ 1048576 by unfold TbSz at hl; omega)
  obtain ⟨d, b, p, sp, bad, rm⟩ := T
  unfold tbc at *
  simp only at *
  subst hsp
  have R0 := Lib.hid ((Rw.new w 52 #[.int .i64 d, .int .i64 b, .int .i64 p, .int .i64 (n : Int), .slice A na c, .slice A' ny c']).alloc (.cells #[] 2))
  have B0 := Lib.hid (((Below.refl w.heap.size w).alloc (Nat.le_refl _) (.cells #[.int .i64 d, .int .i64 b, .int .i64 p, .int .i64 (n : Int), .slice A na c, .slice A' ny c'] 52)).alloc (by simp) (.cells #[] 2))
  have O0 := Lib.hid (IntsOwn.made (w.alloc (.cells #[.int .i64 d, .int .i64 b, .int .i64 p, .int .i64 (n : Int), .slice A na c, .slice A' ny c'] 52)) (B := w.heap.size + 1) (by simp))
  rw [show (w.alloc (.cells #[.int .i64 d, .int .i64 b, .int .i64 p, .int .i64 (n : Int), .slice A na c, .slice A' ny c'] 52)).heap.size = w.heap.size + 1 by simp] at O0
  have hz : ((w.alloc (.cells #[.int .i64 d, .int .i64 b, .int .i64 p, .int .i64 (n : Int), .slice A na c, .slice A' ny c'] 52)).alloc (.cells #[] 2)).heap.size = w.heap.size + 2 := by simp
  have HZ := Lib.hid (show w.heap.size + 1 ≤ ((w.alloc (.cells #[.int .i64 d, .int .i64 b, .int .i64 p, .int .i64 (n : Int), .slice A na c, .slice A' ny c'] 52)).alloc (.cells #[] 2)).heap.size by omega)
  have hw1 : IntKind.i64.wrap (l + 1) = l + 1 := IntWalk.i64_in _ (by omega)
  have hw2 : IntKind.i64.wrap ((l + 1) * b) = E := by rw [hE]; exact IntWalk.i64_in _ (by omega)
  have hw3 : IntKind.i64.wrap (E - (n : Int)) = F := by rw [hF]; exact IntWalk.i64_in _ (by omega)
  have hEF : E = F + n := by omega
  have hFb : -1000 ≤ F ∧ F ≤ 100000 := by omega
  obtain ⟨q0, q1, q2, q3, q4, q5⟩ := R0.out.six
  clear ha hy hh hl hz hF hE
  go_enter Try.func73, Try.ntmps73
  go_wp2_with fail
  clear q0 q1 q2 q3 q4 q5
  go_loopw [5, 6] (fun s i wr => ∃ k : Nat, k ≤ n ∧ i = .int .i64 (F + (k : Int)) ∧ Hid (IntsOwn wr (w.heap.size + 1) s (avTo ⟨d, b, p, (n : Int), bad, rm⟩ F k)) ∧ Hid (Below w.heap.size w wr) ∧ Hid (Rw wr w.heap.size 52 #[.int .i64 d, .int .i64 b, .int .i64 p, .int .i64 (n : Int), .slice A na c, .slice A' ny c']) ∧ Hid (w.heap.size + 1 ≤ wr.heap.size)) (fun _ i _ => (F + n - intOf i).toNat)
  case atStart => exact ⟨0, by omega, by simp, O0, B0, R0, HZ⟩
  case round =>
    clear O0 B0 R0 HZ
    obtain ⟨k, hk, rfl, HO, HB, HR, HZ⟩ := hrel
    obtain ⟨q0, q1, q2, q3, q4, q5⟩ := HR.out.six
    by_cases hlt : k < n
    · have dl : decide (F + (k : Int) < E) = true := by simp; omega
      have hw4 : IntKind.i64.wrap (F + (k : Int) + 1) = F + ((k + 1 : Nat) : Int) := by rw [IntWalk.i64_in _ (by omega)]; omega
      obtain ⟨r1, hr1⟩ := prop_dec' ((F + (k : Int)) ∈ bad)
      obtain ⟨r2, hr2⟩ := prop_dec' ((F + (k : Int)) ∈ rm)
      have H1 := Lib.hid (has_any _ bad (F + (k : Int)) r1 wr hi (HA.out wr HB.out) hr1 HSZ.out.1)
      have H2 := Lib.hid (has_any _ rm (F + (k : Int)) r2 wr hi (HY.out wr HB.out) hr2 HSZ.out.2)
      have HN := Lib.hid (show avTo ⟨d, b, p, (n : Int), bad, rm⟩ F (k + 1) = if (F + (k : Int)) ∈ bad ∨ (F + (k : Int)) ∈ rm then avTo ⟨d, b, p, (n : Int), bad, rm⟩ F k else avTo ⟨d, b, p, (n : Int), bad, rm⟩ F k ++ [F + (k : Int)] from rfl)
      have HLE := Lib.hid (avTo_le ⟨d, b, p, (n : Int), bad, rm⟩ F k)
      have HR1 := Lib.hid hr1
      have HR2 := Lib.hid hr2
      clear hr1 hr2
      cases r1 with
      | true =>
        have HNN := Lib.hid (HN.out.trans (if_pos (.inl (HR1.out.1 rfl))))
        clear HN HR1 HR2
        go_wp2_with fail
        refine H1.out.mono ?_
        rintro e w1 ⟨rfl, rfl⟩
        go_wp2
        go_roundw
        case rel => exact ⟨k + 1, by omega, by go_num, Lib.hid (HNN.out ▸ HO.out), HB, HR, HZ⟩
        case measure => simp [intOf]; omega
      | false =>
        cases r2 with
        | true =>
          have HNN := Lib.hid (HN.out.trans (if_pos (.inr (HR2.out.1 rfl))))
          clear HN HR1 HR2
          go_wp2_with fail
          refine H1.out.mono ?_
          rintro e w1 ⟨rfl, rfl⟩
          go_wp2_with fail
          refine H2.out.mono ?_
          rintro e w1 ⟨rfl, rfl⟩
          go_wp2
          go_roundw
          case rel => exact ⟨k + 1, by omega, by go_num, Lib.hid (HNN.out ▸ HO.out), HB, HR, HZ⟩
          case measure => simp [intOf]; omega
        | false =>
          have HNN := Lib.hid (HN.out.trans (if_neg (fun e => by rcases e with e | e; exact Bool.false_ne_true (HR1.out.2 e); exact Bool.false_ne_true (HR2.out.2 e))))
          clear HN HR1 HR2
          go_wp2_with fail
          refine H1.out.mono ?_
          rintro e w1 ⟨rfl, rfl⟩
          go_wp2_with fail
          refine H2.out.mono ?_
          rintro e w1 ⟨rfl, rfl⟩
          go_wp2_with (at_builtin; refine wpList_append_int rfl _ _ rfl _ _ rfl HO.out (Below.refl _ _) HZ.out (F + (k : Int)) 1 rfl (by have := HLE.out; omega) ?_; intro v' w2 ho hb; have O2 := Lib.hid ho; have HB2 := Lib.hid (HB.out.trans (hb.mono (by omega))); have HR2 := Lib.hid (HR.out.below hb (by omega)); have HZ2 := Lib.hid (Nat.le_trans HZ.out hb.size); clear ho hb)
          go_roundw
          case rel => exact ⟨k + 1, by omega, by go_num, Lib.hid (HNN.out ▸ O2.out), HB2, HR2, HZ2⟩
          case measure => simp [intOf]; omega
    · obtain rfl : k = n := by omega
      have dl : decide (F + (k : Int) < E) = false := by simp; omega
      go_wp2
      go_ret
      exact ⟨_, rfl, HO.out.low (by omega), HB.out⟩
end Go.Proofs.Ytbdfdkhkamonpaa
