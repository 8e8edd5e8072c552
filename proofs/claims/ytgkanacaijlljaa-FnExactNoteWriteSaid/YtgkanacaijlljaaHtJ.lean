/- Which pages are hot, in the program and in the model: the contracts. -/
import Derived.Test.YtgkanacaijlljaaProg
import Derived.Test.YtgkanacaijlljaaHtX
namespace Go.Proofs.Ytgkanacaijlljaa
open Go.RowKit
set_option linter.unusedVariables false
set_option linter.unusedSimpArgs false
/-- The numbers of the comparison fit. -/
theorem hot_fits {c : List Int} {k : Nat} (hk : k ≤ c.length) (hc : c.length ≤ 48) (h : ∀ i, i < c.length → CntOk c i) : 0 ≤ sumTo c k ∧ sumTo c k ≤ 48000000 := by
  have := sumTo_le k (fun i hi => h i (by omega))
  omega
set_option maxHeartbeats 2000000 in
set_option maxRecDepth 100000 in
theorem specHotP_any (g : Nat) (cs : List Int) (x l : Int) (u : Value) (q : Bool) (w : World) (hi : Nat) (hR : Rw w g 27 #[u, .int .i64 x]) (hu : NI w hi u cs) (hh : hi ≤ w.heap.size) (ho : HtOk ⟨cs, x⟩) (hq : q = true ↔ HotAt cs l) :
    Calls Try.prog 72 #[.pointer (some ⟨g, 0, none⟩), .int .i64 l] w fun e w' => e = .returned (.bool q) ∧ Below w.heap.size w w' := by
  obtain ⟨A, n, c, rfl, _, _, hn, hA⟩ := hu
  obtain ⟨⟨hn1, hn2⟩, _, hc⟩ := ho
  simp only at hn1 hn2 hc
  obtain ⟨q0, q1⟩ := hR.two
  have hg := hR.lt
  have R0 := Lib.hid hR
  have B0 := Lib.hid (Below.refl w.heap.size w)
  have HQ := Lib.hid hq
  have HA := Lib.hid hA
  have HN := Lib.hid hn
  have HH := Lib.hid hh
  have HS := Lib.hid (fun (k : Nat) (hk : k ≤ n) => hot_fits (k := k) (by rw [hn]; exact hk) (by omega) hc)
  have HC := Lib.hid (fun (i : Nat) (h : i < n) => show 0 ≤ cs.getD i 0 ∧ cs.getD i 0 ≤ 1000000 from hc i (by rw [hn]; exact h))
  have hnm : (n : Int) ≤ 48 := by omega
  have hw1 : IntKind.i64.wrap ((n : Int) - 1) = (n : Int) - 1 := IntWalk.i64_in _ (by omega)
  clear hR hA hq hh hc
  by_cases hin : 0 ≤ l ∧ l ≤ (n : Int) - 1
  case neg =>
    have HI := Lib.hid (fun (W : World) => inr_no l 0 ((n : Int) - 1) W hin)
    have HG := Lib.hid (not_true HQ.out (fun e => hin ⟨e.1.1, by have := e.1.2; omega⟩))
    clear hin HQ
    go_enter Try.func72, Try.ntmps72
    go_wp2_with fail
    refine (HI.out _).mono ?_
    rintro e w1 ⟨rfl, rfl⟩
    go_wp2
    go_ret
    exact ⟨ret_bool HG.out.symm, B0.out⟩
  have HI := Lib.hid (fun (W : World) => inr_yes l 0 ((n : Int) - 1) W hin.1 hin.2)
  obtain ⟨j, rfl⟩ : ∃ j : Nat, l = j := ⟨l.toNat, by omega⟩
  have hj : j < n := by omega
  have HG := Lib.hid (show q = decide (cs.getD j 0 * (n : Int) > 2 * sumTo cs n) by
    rw [Bool.eq_iff_iff, HQ.out, HotAt, hn, Int.toNat_natCast]
    simp only [decide_eq_true_eq]
    exact ⟨fun e => e.2, fun e => ⟨by omega, e⟩⟩)
  clear hin HQ hn hn1 hn2
  go_enter Try.func72, Try.ntmps72
  go_wp2_with fail
  refine (HI.out _).mono ?_
  rintro e w1 ⟨rfl, rfl⟩
  go_wp2
  clear q0 q1 HI
  go_loopw [5, 6] (fun s i wr => ∃ k : Nat, k ≤ n ∧ i = .int .i64 k ∧ s = .int .i64 (sumTo cs k) ∧ Hid (Below w.heap.size w wr)) (fun _ i _ => n - (intOf i).toNat)
  case atStart => exact ⟨0, by omega, rfl, rfl, B0⟩
  case round =>
    obtain ⟨k, hk, rfl, rfl, HB⟩ := hrel
    obtain ⟨q0, q1⟩ := (R0.out.below HB.out hg).two
    obtain ⟨pb, po, rfl, hp2, hpx⟩ := HA.out (by omega)
    obtain ⟨s0, s1⟩ := HS.out k hk
    by_cases hlt : k < n
    · have hki : (k : Int) < (n : Int) := by omega
      have e1 := (HB.out.cell (p := ⟨pb, po + k, none⟩) (by have := HH.out; show pb < _; omega)).trans (hpx k hlt)
      obtain ⟨c0, c1⟩ := HC.out k hlt
      have HY := Lib.hid (show sumTo cs (k + 1) = sumTo cs k + cs.getD k 0 from rfl)
      generalize cs.getD k 0 = y at *
      generalize sumTo cs k = s at *
      have hw : IntKind.i64.wrap (s + y) = s + y := IntWalk.i64_in _ (by omega)
      clear hpx hp2
      go_wp2
      go_roundw
      case rel => exact ⟨k + 1, by omega, by go_num, by rw [HY.out], HB⟩
      case measure => simp [intOf]; omega
    · obtain rfl : k = n := by omega
      have e1 := (HB.out.cell (p := ⟨pb, po + j, none⟩) (by have := HH.out; show pb < _; omega)).trans (hpx j hj)
      obtain ⟨c0, c1⟩ := HC.out j hj
      have hji : (j : Int) < (k : Int) := by omega
      generalize cs.getD j 0 = y at *
      generalize sumTo cs k = s at *
      have hm0 : 0 ≤ y * (k : Int) := Int.mul_nonneg c0 (by omega)
      have hm1 : y * (k : Int) ≤ 1000000 * 48 := Int.mul_le_mul c1 hnm (by omega) (by omega)
      have hw2 : IntKind.i64.wrap (y * (k : Int)) = y * (k : Int) := IntWalk.i64_in _ (by omega)
      have hw3 : IntKind.i64.wrap (2 * s) = 2 * s := IntWalk.i64_in _ (by omega)
      clear hpx hp2 hm0 hm1
      go_wp2_with fail
      go_quiet (fail)
      go_wp2
      go_ret
      exact ⟨ret_bool (by rw [HG.out]), below_drewN HB.out _⟩
theorem hasLogicalH_any (g : Nat) (A : Option Addr) (n c : Nat) (x l : Int) (r : Bool) (w : World) (hR : Rw w g 27 #[.slice A n c, .int .i64 x]) (hn : (n : Int) ≤ 9223372036854775807) (hr : r = true ↔ (0 ≤ l ∧ l < (n : Int))) :
    Calls Try.prog 67 #[.pointer (some ⟨g, 0, none⟩), .int .i64 l] w fun e w' => e = .returned (.bool r) ∧ w = w' := by
  have HP := Lib.hid (heatPages_any g A n c x w hR hn)
  by_cases h1 : 0 ≤ l
  case neg =>
    obtain rfl : r = false := not_true hr (fun e => h1 e.1)
    have d1 : decide (0 ≤ l) = false := by simp; omega
    have d1' : decide (l ≥ 0) = false := by simp; omega
    clear hR hr h1
    go_enter Try.func67, Try.ntmps67
    go_wp2
    go_ret
    exact ⟨rfl, rfl⟩
  have d1 : decide (0 ≤ l) = true := by simp; omega
  have d1' : decide (l ≥ 0) = true := by simp; omega
  obtain rfl : r = decide (l < (n : Int)) := by
    rw [Bool.eq_iff_iff, hr]; simp only [decide_eq_true_eq]; exact ⟨fun e => e.2, fun e => ⟨h1, e⟩⟩
  clear hR hr h1
  go_enter Try.func67, Try.ntmps67
  go_wp2_with fail
  refine HP.out.mono ?_
  rintro e w1 ⟨rfl, rfl⟩
  go_wp2
  go_ret
  exact ⟨rfl, rfl⟩
set_option maxHeartbeats 2000000 in
set_option maxRecDepth 100000 in
theorem implHotP_any (g : Nat) (cs : List Int) (x : Int) (j : Nat) (u : Value) (q : Bool) (w : World) (hi : Nat) (hR : Rw w g 27 #[u, .int .i64 x]) (hu : NI w hi u cs) (hh : hi ≤ w.heap.size) (ho : HtOk ⟨cs, x⟩) (hj : j < cs.length) (hq : q = true ↔ HotAt cs j) :
    Calls Try.prog 73 #[.pointer (some ⟨g, 0, none⟩), .int .i64 (j : Int)] w fun e w' => e = .returned (.bool q) ∧ Below w.heap.size w w' := by
  obtain ⟨A, n, c, rfl, _, _, hn, hA⟩ := hu
  obtain ⟨⟨hn1, hn2⟩, _, hc⟩ := ho
  simp only at hn1 hn2 hc
  obtain ⟨q0, q1⟩ := hR.two
  have hg := hR.lt
  have R0 := Lib.hid hR
  have B0 := Lib.hid (Below.refl w.heap.size w)
  have HA := Lib.hid hA
  have HN := Lib.hid hn
  have HH := Lib.hid hh
  have HP := Lib.hid (fun (W : World) (b : Below w.heap.size w W) => heatPages_any g A n c x W (hR.below b hg) (by omega))
  have HS := Lib.hid (fun (k : Nat) (hk : k ≤ n) => hot_fits (k := k) (by rw [hn]; exact hk) (by omega) hc)
  have HC := Lib.hid (fun (i : Nat) (h : i < n) => show 0 ≤ cs.getD i 0 ∧ cs.getD i 0 ≤ 1000000 from hc i (by rw [hn]; exact h))
  have hnm : (n : Int) ≤ 48 := by omega
  rw [hn] at hj
  have HG := Lib.hid (show q = decide (cs.getD j 0 * (n : Int) > 2 * sumTo cs n) by
    rw [Bool.eq_iff_iff, hq, HotAt, hn, Int.toNat_natCast]
    simp only [decide_eq_true_eq]
    exact ⟨fun e => e.2, fun e => ⟨by omega, e⟩⟩)
  clear hR hA hq hh hc hn hn1 hn2
  go_enter Try.func73, Try.ntmps73
  go_wp2
  clear q0 q1
  go_loopw [5, 7, 13] (fun s y i wr => ∃ k : Nat, k ≤ n ∧ i = .int .i64 k ∧ s = .int .i64 (sumTo cs k) ∧ Hid (Below w.heap.size w wr)) (fun _ _ i _ => n - (intOf i).toNat)
  case atStart => exact ⟨0, by omega, rfl, rfl, B0⟩
  case round =>
    obtain ⟨k, hk, rfl, rfl, HB⟩ := hrel
    obtain ⟨pb, po, rfl, hp2, hpx⟩ := HA.out (by omega)
    obtain ⟨s0, s1⟩ := HS.out k hk
    by_cases hlt : k < n
    · have hki : (k : Int) < (n : Int) := by omega
      have e1 := (HB.out.cell (p := ⟨pb, po + k, none⟩) (by have := HH.out; show pb < _; omega)).trans (hpx k hlt)
      obtain ⟨c0, c1⟩ := HC.out k hlt
      have HY := Lib.hid (show sumTo cs (k + 1) = sumTo cs k + cs.getD k 0 from rfl)
      generalize cs.getD k 0 = y at *
      generalize sumTo cs k = s at *
      have hw : IntKind.i64.wrap (s + y) = s + y := IntWalk.i64_in _ (by omega)
      clear hpx hp2
      go_wp2
      go_roundw
      case rel => exact ⟨k + 1, by omega, by go_num, by rw [HY.out], HB⟩
      case measure => simp [intOf]; omega
    · obtain rfl : k = n := by omega
      have hHB := HB.out
      obtain ⟨q0, q1⟩ := (R0.out.below HB.out hg).two
      have e1 := (HB.out.cell (p := ⟨pb, po + j, none⟩) (by have := HH.out; show pb < _; omega)).trans (hpx j hj)
      obtain ⟨c0, c1⟩ := HC.out j hj
      have hji : (j : Int) < (k : Int) := by omega
      generalize cs.getD j 0 = y at *
      generalize sumTo cs k = s at *
      have hm0 : 0 ≤ y * (k : Int) := Int.mul_nonneg c0 (by omega)
      have hm1 : y * (k : Int) ≤ 1000000 * 48 := Int.mul_le_mul c1 hnm (by omega) (by omega)
      have hw2 : IntKind.i64.wrap (y * (k : Int)) = y * (k : Int) := IntWalk.i64_in _ (by omega)
      have hw3 : IntKind.i64.wrap (2 * s) = 2 * s := IntWalk.i64_in _ (by omega)
      have HPW := Lib.hid (fun (N : Nat) => HP.out _ (below_drewN hHB N))
      clear hpx hp2 hm0 hm1 HP hHB
      go_wp2_with fail
      go_quiet (first | (go_at_call 60; refine Calls.quiet_of_same ((HPW.out _).mono fun e w' h => ⟨h.1, h.2.symm⟩)))
      go_wp2
      go_ret
      exact ⟨ret_bool (by rw [HG.out]), below_drewN HB.out _⟩
theorem specHot_any (u : Value) (M : Ht) (l : Int) (r q : Bool) (w : World) (hi : Nat) (h : HtIn w hi u M) (hh : hi ≤ w.heap.size) (hr : r = true ↔ HtOk M) (hq : q = true ↔ HotIs M r l) (hl : HtSz M) :
    Calls Try.prog 30 #[u, .int .i64 l] w fun e w' => e = .returned (.bool q) ∧ Below w.heap.size w w' := by
  obtain ⟨a, rfl, h1⟩ := h
  obtain ⟨A, n, c, rfl⟩ := h1.slice
  obtain ⟨cs, x⟩ := M
  unfold htc
  unfold HotIs at hq
  simp only at *
  have r0 := Rw.new w 27 #[.slice A n c, .int .i64 x]
  have b0 := (Below.refl w.heap.size w).alloc (Nat.le_refl _) (.cells #[.slice A n c, .int .i64 x] 27)
  have hz : (w.alloc (.cells #[.slice A n c, .int .i64 x] 27)).heap.size = w.heap.size + 1 := by simp
  have HS := Lib.hid (specOkH_any w.heap.size cs x _ r _ hi r0 (h1.below b0 hh) (by simp; omega) hr (by unfold HtSz at hl; simpa using hl))
  have B0 := Lib.hid b0
  have R0 := Lib.hid r0
  have H1 := Lib.hid h1
  cases r with
  | false =>
    obtain rfl : q = false := not_true hq (fun e => Bool.false_ne_true e.1)
    clear h1 hr hq hl r0 b0
    go_enter Try.func30, Try.ntmps30
    go_wp2_with fail
    refine HS.out.mono ?_
    rintro e w1 ⟨rfl, b1⟩
    have B1 := Lib.hid (B0.out.trans (b1.mono (by simp)))
    clear b1
    go_wp2
    go_ret
    exact ⟨rfl, B1.out⟩
  | true =>
    have HJ := Lib.hid (fun (W : World) (b : Below (w.heap.size + 1) (w.alloc (.cells #[.slice A n c, .int .i64 x] 27)) W) => specHotP_any w.heap.size cs x l _ q W hi (r0.below b (by omega)) ((h1.below b0 hh).below b (by omega)) (by have := b.size; omega) (hr.1 rfl) (by rw [hq]; exact ⟨fun e => e.2, fun e => ⟨rfl, e⟩⟩))
    clear h1 hr hq hl r0 b0
    go_enter Try.func30, Try.ntmps30
    go_wp2_with fail
    refine HS.out.mono ?_
    rintro e w1 ⟨rfl, b1⟩
    rw [hz] at b1
    have B1 := Lib.hid (B0.out.trans (b1.mono (by simp)))
    have HJ1 := Lib.hid (HJ.out _ b1)
    clear b1 HJ HS
    go_wp2_with fail
    refine HJ1.out.mono ?_
    rintro e w2 ⟨rfl, b2⟩
    have B2 := Lib.hid (B1.out.trans (b2.mono B1.out.size))
    clear b2
    go_wp2
    go_ret
    exact ⟨rfl, B2.out⟩
theorem implHot_any (u : Value) (M : Ht) (l : Int) (r q : Bool) (w : World) (hi : Nat) (h : HtIn w hi u M) (hh : hi ≤ w.heap.size) (hr : r = true ↔ HtOk M) (hq : q = true ↔ HotIs M r l) (hl : HtSz M) :
    Calls Try.prog 31 #[u, .int .i64 l] w fun e w' => e = .returned (.bool q) ∧ Below w.heap.size w w' := by
  obtain ⟨a, rfl, h1⟩ := h
  obtain ⟨A, n, c, rfl⟩ := h1.slice
  obtain ⟨cs, x⟩ := M
  unfold htc
  unfold HotIs at hq
  simp only at *
  have r0 := Rw.new w 27 #[.slice A n c, .int .i64 x]
  have b0 := (Below.refl w.heap.size w).alloc (Nat.le_refl _) (.cells #[.slice A n c, .int .i64 x] 27)
  have hz : (w.alloc (.cells #[.slice A n c, .int .i64 x] 27)).heap.size = w.heap.size + 1 := by simp
  have hn : cs.length = n := by
    obtain ⟨X1, X2, X3, e', _, _, hn, _⟩ := h1
    injection e' with e1 e2 e3
    subst e2; exact hn
  have hlz : cs.length ≤ 1048576 := by unfold HtSz at hl; simpa using hl
  have HS := Lib.hid (implHtOk_any (.agg (htc ⟨cs, x⟩ (.slice A n c))) ⟨cs, x⟩ r _ hi ⟨_, rfl, h1.below b0 hh⟩ (by rw [hz]; omega) hr hl)
  unfold htc at HS
  have B0 := Lib.hid b0
  have R0 := Lib.hid r0
  obtain ⟨k0, k1⟩ := r0.two
  have HLg := Lib.hid (fun (W : World) (b : Below (w.heap.size + 1) (w.alloc (.cells #[.slice A n c, .int .i64 x] 27)) W) (p : Bool) (hp : p = true ↔ (0 ≤ l ∧ l < (n : Int))) => hasLogicalH_any w.heap.size A n c x l p W (r0.below b (by omega)) (by omega) hp)
  cases r with
  | false =>
    obtain rfl : q = false := not_true hq (fun e => Bool.false_ne_true e.1)
    clear h1 hr hq hl r0 b0 hlz hn
    go_enter Try.func31, Try.ntmps31
    go_wp2_with fail
    refine HS.out.mono ?_
    rintro e w1 ⟨rfl, b1⟩
    have B1 := Lib.hid (B0.out.trans (b1.mono (by simp)))
    clear b1
    go_wp2
    go_ret
    exact ⟨rfl, B1.out⟩
  | true =>
    by_cases hin : 0 ≤ l ∧ l < (n : Int)
    case neg =>
      obtain rfl : q = false := not_true hq (fun e => hin ⟨e.2.1.1, by have := e.2.1.2; rw [hn] at this; exact this⟩)
      have HLf := Lib.hid (fun (W : World) (b : Below (w.heap.size + 1) (w.alloc (.cells #[.slice A n c, .int .i64 x] 27)) W) => HLg.out W b false (by simp; omega))
      clear h1 hr hq hl r0 b0 hlz hn hin HLg
      go_enter Try.func31, Try.ntmps31
      go_wp2_with fail
      refine HS.out.mono ?_
      rintro e w1 ⟨rfl, b1⟩
      rw [hz] at b1
      have B1 := Lib.hid (B0.out.trans (b1.mono (by simp)))
      have HL1 := Lib.hid (HLf.out _ b1)
      clear b1 HLf HS
      go_wp2_with fail
      refine HL1.out.mono ?_
      rintro e w2 ⟨rfl, rfl⟩
      go_wp2
      go_ret
      exact ⟨rfl, B1.out⟩
    obtain ⟨j, rfl⟩ : ∃ j : Nat, l = j := ⟨l.toNat, by omega⟩
    have hj : j < n := by omega
    have HLf := Lib.hid (fun (W : World) (b : Below (w.heap.size + 1) (w.alloc (.cells #[.slice A n c, .int .i64 x] 27)) W) => HLg.out W b true (by simp; omega))
    have HJ := Lib.hid (fun (W : World) (b : Below (w.heap.size + 1) (w.alloc (.cells #[.slice A n c, .int .i64 x] 27)) W) => implHotP_any w.heap.size cs x j _ q W hi (r0.below b (by omega)) ((h1.below b0 hh).below b (by omega)) (by have := b.size; omega) (hr.1 rfl) (by omega) (by rw [hq]; exact ⟨fun e => e.2, fun e => ⟨rfl, e⟩⟩))
    clear h1 hr hq hl r0 b0 hlz hn hin HLg
    go_enter Try.func31, Try.ntmps31
    go_wp2_with fail
    refine HS.out.mono ?_
    rintro e w1 ⟨rfl, b1⟩
    rw [hz] at b1
    have B1 := Lib.hid (B0.out.trans (b1.mono (by simp)))
    have HL1 := Lib.hid (HLf.out _ b1)
    have HJ1 := Lib.hid (HJ.out _ b1)
    clear b1 HJ HS HLf
    go_wp2_with fail
    refine HL1.out.mono ?_
    rintro e w2 ⟨rfl, rfl⟩
    go_wp2_with fail
    refine HJ1.out.mono ?_
    rintro e w2 ⟨rfl, b2⟩
    have B2 := Lib.hid (B1.out.trans (b2.mono B1.out.size))
    clear b2
    go_wp2
    go_ret
    exact ⟨rfl, B2.out⟩
theorem specStream_any (u : Value) (M : Ht) (l : Int) (r q : Bool) (v : Int) (w : World) (hi : Nat) (h : HtIn w hi u M) (hh : hi ≤ w.heap.size) (hr : r = true ↔ HtOk M) (hq : q = true ↔ HotIs M r l) (hv : v = bif q then 1 else 0) (hl : HtSz M) :
    Calls Try.prog 32 #[u, .int .i64 l] w fun e w' => e = .returned (.int .i64 v) ∧ Below w.heap.size w w' := by
  obtain ⟨A, n, c, g, rfl⟩ := h.agg2
  have b0 := (Below.refl w.heap.size w).alloc (Nat.le_refl _) (.cells #[.slice A n c, .int .i64 g] 27)
  have HS := Lib.hid (specHot_any _ M l r q _ hi (h.below b0 hh) (by simp; omega) hr hq hl)
  have B0 := Lib.hid b0
  clear h hh hr hq hl b0
  cases q with
  | false =>
    obtain rfl : v = 0 := hv
    go_enter Try.func32, Try.ntmps32
    go_wp2_with fail
    refine HS.out.mono ?_
    rintro e w1 ⟨rfl, b1⟩
    have B1 := Lib.hid (B0.out.trans (b1.mono (by simp)))
    clear b1
    go_wp2
    go_ret
    exact ⟨rfl, B1.out⟩
  | true =>
    obtain rfl : v = 1 := hv
    go_enter Try.func32, Try.ntmps32
    go_wp2_with fail
    refine HS.out.mono ?_
    rintro e w1 ⟨rfl, b1⟩
    have B1 := Lib.hid (B0.out.trans (b1.mono (by simp)))
    clear b1
    go_wp2
    go_ret
    exact ⟨rfl, B1.out⟩
theorem implStream_any (u : Value) (M : Ht) (l : Int) (r q : Bool) (v : Int) (w : World) (hi : Nat) (h : HtIn w hi u M) (hh : hi ≤ w.heap.size) (hr : r = true ↔ HtOk M) (hq : q = true ↔ HotIs M r l) (hv : v = bif q then 1 else 0) (hl : HtSz M) :
    Calls Try.prog 33 #[u, .int .i64 l] w fun e w' => e = .returned (.int .i64 v) ∧ Below w.heap.size w w' := by
  obtain ⟨A, n, c, g, rfl⟩ := h.agg2
  have b0 := (Below.refl w.heap.size w).alloc (Nat.le_refl _) (.cells #[.slice A n c, .int .i64 g] 27)
  have HS := Lib.hid (implHot_any _ M l r q _ hi (h.below b0 hh) (by simp; omega) hr hq hl)
  have B0 := Lib.hid b0
  clear h hh hr hq hl b0
  cases q with
  | false =>
    obtain rfl : v = 0 := hv
    go_enter Try.func33, Try.ntmps33
    go_wp2_with fail
    refine HS.out.mono ?_
    rintro e w1 ⟨rfl, b1⟩
    have B1 := Lib.hid (B0.out.trans (b1.mono (by simp)))
    clear b1
    go_wp2
    go_ret
    exact ⟨rfl, B1.out⟩
  | true =>
    obtain rfl : v = 1 := hv
    go_enter Try.func33, Try.ntmps33
    go_wp2_with fail
    refine HS.out.mono ?_
    rintro e w1 ⟨rfl, b1⟩
    have B1 := Lib.hid (B0.out.trans (b1.mono (by simp)))
    clear b1
    go_wp2
    go_ret
    exact ⟨rfl, B1.out⟩
end Go.Proofs.Ytgkanacaijlljaa
