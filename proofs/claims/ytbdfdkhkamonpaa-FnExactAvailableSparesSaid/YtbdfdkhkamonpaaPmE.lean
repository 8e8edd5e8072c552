/- LiveIn, LivePages, in the program and in the model: the contracts. -/
import Derived.Test.YtbdfdkhkamonpaaProg
import Derived.Test.YtbdfdkhkamonpaaPmA
import Derived.Test.YtbdfdkhkamonpaaPmP
namespace Go.Proofs.Ytbdfdkhkamonpaa
open Go.RowKit
set_option linter.unusedVariables false
set_option linter.unusedSimpArgs false
theorem wfI_of {n : Int} (h0 : -9223372036854775808 ≤ n) (h : n ≤ 9223372036854775807) : WfI n := by
  have h1 : IntKind.i64.min = -9223372036854775808 := by decide
  have h2 : IntKind.i64.max = 9223372036854775807 := by decide
  simp [WfI, Lit.wf]
  omega
/-- The owners of the first k physical pages from z on. -/
def ownL (mp : List Int) (n : Nat) (z : Int) : Nat → List Int
  | 0 => []
  | k + 1 => match ownF mp n (z + (k : Int)) with
    | some a => ownL mp n z k ++ [a]
    | none => ownL mp n z k
theorem ownL_le (mp : List Int) (n : Nat) (z : Int) (k : Nat) : (ownL mp n z k).length ≤ k := by
  induction k with
  | zero => simp [ownL]
  | succ k ih =>
    unfold ownL
    split
    · simp; omega
    · omega
/-- What LiveIn answers. -/
def liveL (M : Pm) (r : Bool) (block : Int) : List Int := if r = true ∧ 0 ≤ block ∧ block < M.b then ownL M.mp M.mp.length (block * M.p) M.p.toNat else []
/-- The numbers of a block's pages. -/
theorem blockNums {b p block : Int} (hs : 1 ≤ b ∧ 1 ≤ p ∧ b * p ≤ 640) (h0 : 0 ≤ block) (h1 : block < b) : 0 ≤ block * p ∧ block * p + p ≤ 640 ∧ (block + 1) * p = block * p + p ∧ p ≤ 640 := by
  have a : (block + 1) * p ≤ b * p := Int.mul_le_mul_of_nonneg_right (by omega) (by omega)
  have c : (block + 1) * p = block * p + p := by rw [Int.add_mul, Int.one_mul]
  have d : 0 ≤ block * p := Int.mul_nonneg h0 (by omega)
  exact ⟨d, by omega, c, by omega⟩
set_option maxHeartbeats 4000000 in
set_option maxRecDepth 100000 in
theorem specLive_any (g : Nat) (b p block : Int) (mp : List Int) (tr : List Bool) (u v : Value) (w : World) (hi : Nat) (hR : Rw w g 30 #[.int .i64 b, .int .i64 p, u, v]) (hu : NI w hi u mp) (hh : hi ≤ w.heap.size) (hr : PmOk ⟨b, p, mp, tr⟩) :
    Calls Try.prog 67 #[.pointer (some ⟨g, 0, none⟩), .int .i64 block] w (CopyPostI (liveL ⟨b, p, mp, tr⟩ true block) w) := by
  have hg := hR.lt
  obtain ⟨⟨⟨hl1, hl2⟩, hb, hp, hbp⟩, ht, he⟩ := hr
  simp only at hl1 hl2 hb hp hbp ht he
  have hb3 := hb.1
  have hb4 := hb.2
  have HA := Lib.hid (fun (W : World) (hb : Below w.heap.size w W) (z a : Int) (ha : AtIs mp mp.length z a) => specAt_any g b p mp u v z a W hi (hR.below hb hg) (hu.below hb hh) (Nat.le_trans hh hb.size) ha (by omega))
  obtain ⟨q0, q1, q2, q3⟩ := hR.four
  have HO := Lib.hid (fun (z a : Int) (ha : AtIs mp mp.length z a) => ha.own (tr := tr) (H := b * p) (Nat.le_refl _) he)
  have HR := Lib.hid hR
  clear hR hu he ht
  by_cases hin : 0 ≤ block ∧ block < b
  case neg =>
    have HI := Lib.hid (fun (W : World) => inr_no block 0 (b - 1) W (by omega))
    have HL := Lib.hid (show liveL ⟨b, p, mp, tr⟩ true block = [] by unfold liveL; rw [if_neg (fun e => hin e.2)])
    have hi1 := IntsOwn.made w (B := w.heap.size) (Nat.le_refl _)
    have HB := Lib.hid ((Below.refl w.heap.size w).alloc (Nat.le_refl _) (.cells #[] 2))
    have q0a := (HR.out.alloc (.cells #[] 2)).four.1
    clear HA HO hin
    go_enter Try.func67, Try.ntmps67
    go_wp2_with (go_at_call 66; refine (HI.out _).mono ?_; rintro e w' ⟨rfl, rfl⟩)
    go_ret
    exact ⟨_, rfl, by rw [HL.out]; exact hi1, HB.out⟩
  obtain ⟨m0, m1, m2, m3⟩ := blockNums ⟨hb.1, hp.1, hbp⟩ hin.1 hin.2
  have HI := Lib.hid (fun (W : World) => inr_yes block 0 (b - 1) W (by omega) (by omega))
  have HL := Lib.hid (show liveL ⟨b, p, mp, tr⟩ true block = ownL mp mp.length (block * p) p.toNat by unfold liveL; rw [if_pos ⟨rfl, hin⟩])
  have hb1 := hin.1
  have hb2 := hin.2
  obtain ⟨P, rfl⟩ : ∃ P : Nat, p = P := ⟨p.toNat, by omega⟩
  generalize hz : block * (P : Int) = z0 at *
  generalize hE : (block + 1) * (P : Int) = E at *
  have w1 : IntKind.i64.wrap (block * (P : Int)) = z0 := by rw [hz]; exact IntWalk.i64_in _ (by omega)
  have w2 : IntKind.i64.wrap ((block + 1) * (P : Int)) = E := by rw [hE]; exact IntWalk.i64_in _ (by omega)
  have HPP := Lib.hid (show (P : Int).toNat = P by omega)
  have HM := Lib.hid m2
  have hEP : E = z0 + (P : Int) := by omega
  have HEP := Lib.hid hEP
  have HLEN := Lib.hid (ownL_le mp mp.length z0)
  have hi1 := IntsOwn.made w (B := w.heap.size) (Nat.le_refl _)
  have HB := Lib.hid ((Below.refl w.heap.size w).alloc (Nat.le_refl _) (.cells #[] 2))
  have HRa := Lib.hid (HR.out.alloc (.cells #[] 2))
  clear q0 q1 q2 q3
  obtain ⟨q0, q1, q2, q3⟩ := HRa.out.four
  clear hin hz hE m2 hEP hb hp hbp hl1 hl2
  go_enter Try.func67, Try.ntmps67
  go_wp2_with (go_at_call 66; refine (HI.out _).mono ?_; rintro e w' ⟨rfl, rfl⟩)
  go_loopw [5, 6] (fun v j wr => ∃ k : Nat, k ≤ P ∧ j = .int .i64 (z0 + (k : Int)) ∧ Hid (IntsOwn wr w.heap.size v (ownL mp mp.length z0 k)) ∧ Hid (Below w.heap.size w wr)) (fun _ j _ => (E - intOf j).toNat)
  case atStart => exact ⟨0, by omega, by simp, Lib.hid (by simpa [ownL] using hi1), HB⟩
  case round =>
    clear q0 q1 q2 q3 hi1 HB HRa
    obtain ⟨k, hk, rfl, hown, HB⟩ := hrel
    obtain ⟨q0, q1, q2, q3⟩ := (HR.out.below HB.out hg).four
    have hEP := HEP.out
    by_cases hlt : k < P
    · have hki : z0 + (k : Int) < E := by omega
      obtain ⟨a, ha⟩ := atIs mp mp.length (z0 + (k : Int))
      have HAT := Lib.hid (HA.out wr HB.out (z0 + (k : Int)) a ha)
      have ho := HO.out _ _ ha
      have hlow := ha.low
      have HNX := Lib.hid (show ownL mp mp.length z0 (k + 1) = match ownF mp mp.length (z0 + (k : Int)) with | some a => ownL mp mp.length z0 k ++ [a] | none => ownL mp mp.length z0 k from rfl)
      have hln := HLEN.out k
      clear ha
      go_wp2_with fail
      refine HAT.out.mono ?_
      rintro e w2 ⟨rfl, q, rfl⟩
      have HB2 := Lib.hid (below_drewN HB.out q)
      have hown2 : IntsOwn (wr.drewN q) w.heap.size u5 (ownL mp mp.length z0 k) := hown.out
      by_cases ha0 : 0 ≤ a
      · have d1 : decide (a ≥ 0) = true := by simpa using ha0
        have d2 : decide (0 ≤ a) = true := by simpa using ha0
        have HN2 := Lib.hid (show ownL mp mp.length z0 (k + 1) = ownL mp mp.length z0 k ++ [a] from by
          rw [HNX.out]
          cases hf : ownF mp mp.length (z0 + (k : Int)) with
          | none => rw [hf] at ho; simp [logB, ha0] at ho
          | some x => rw [hf] at ho; simp [logV, logB, ha0] at ho; rw [ho])
        have hb' := HB2.out
        have hz' := HB2.out.size
        clear HAT ho HNX hown HB hlow q0 q1 q2 q3
        go_wp2_with (at_builtin; refine wpList_append_int rfl _ _ rfl _ _ rfl hown2 hb' hz' _ _ rfl (by omega) ?_; intro v' w1 hown3 hb2; clear hown2 hb')
        go_roundw
        case rel => exact ⟨k + 1, by omega, congrArg (Value.int .i64) (by omega), Lib.hid (by rw [HN2.out]; exact hown3), Lib.hid hb2⟩
        case measure => simp [intOf]; omega
      · have d1 : decide (a ≥ 0) = false := by simp; omega
        have d2 : decide (0 ≤ a) = false := by simp; omega
        have HN2 := Lib.hid (show ownL mp mp.length z0 (k + 1) = ownL mp mp.length z0 k from by
          rw [HNX.out]
          cases hf : ownF mp mp.length (z0 + (k : Int)) with
          | none => rfl
          | some x => rw [hf] at ho; simp [logB, ha0] at ho)
        have HO2 := Lib.hid hown2
        clear HAT ho HNX hown HB hlow hown2
        go_wp2
        go_roundw
        case rel => exact ⟨k + 1, by omega, congrArg (Value.int .i64) (by omega), Lib.hid (by rw [HN2.out]; exact HO2.out), HB2⟩
        case measure => simp [intOf]; omega
    · obtain rfl : k = P := by omega
      have hki : ¬ (z0 + (k : Int) < E) := by omega
      go_wp2
      go_ret
      exact ⟨_, rfl, by rw [HL.out, HPP.out]; exact hown.out, HB.out⟩
theorem liveL_le {M : Pm} (h : PmOk M) (block : Int) : (liveL M true block).length ≤ 640 := by
  unfold liveL
  split
  · have := ownL_le M.mp M.mp.length (block * M.p) M.p.toNat
    have := h.1.2.2.1.2
    omega
  · simp
theorem liveL_no (M : Pm) (block : Int) : liveL M false block = [] := by unfold liveL; rw [if_neg (fun e => by cases e.1)]
theorem CopyPostI.low {L : List Int} {w w0 : World} {e : Ending} {w' : World} (h : CopyPostI L w e w') (hb : Below w0.heap.size w0 w) : CopyPostI L w0 e w' := by
  obtain ⟨v, h1, h2, h3⟩ := h
  exact ⟨v, h1, h2.low hb.size, hb.trans (h3.mono hb.size)⟩
end Go.Proofs.Ytbdfdkhkamonpaa
