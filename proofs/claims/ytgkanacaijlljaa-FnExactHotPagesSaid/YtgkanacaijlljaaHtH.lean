/- HotPages, in the program and in the model: the contracts. -/
import Derived.Test.YtgkanacaijlljaaProg
import Derived.Test.YtgkanacaijlljaaHtJ
namespace Go.Proofs.Ytgkanacaijlljaa
open Go.RowKit
set_option linter.unusedVariables false
set_option linter.unusedSimpArgs false
set_option maxHeartbeats 4000000 in
set_option maxRecDepth 100000 in
theorem specHotPages_any (u : Value) (M : Ht) (r : Bool) (w : World) (hi : Nat) (h : HtIn w hi u M) (hh : hi ≤ w.heap.size) (hr : r = true ↔ HtOk M) (hl : HtSz M) :
    Calls Try.prog 34 #[u] w (CopyPostI (hotL M r) w) := by
  obtain ⟨a, rfl, h1⟩ := h
  obtain ⟨A, n, c, rfl⟩ := h1.slice
  obtain ⟨cs, x⟩ := M
  unfold htc
  simp only at *
  obtain ⟨W0, hW0⟩ : ∃ W0, W0 = w.alloc (.cells #[.slice A n c, .int .i64 x] 27) := ⟨_, rfl⟩
  have BW0 := Lib.hid (show Below w.heap.size w W0 ∧ W0.heap.size = w.heap.size + 1 ∧ Rw W0 w.heap.size 27 #[.slice A n c, .int .i64 x] from by
    rw [hW0]
    exact ⟨(Below.refl w.heap.size w).alloc (Nat.le_refl _) _, by simp, Rw.new w _ _⟩)
  have hi1 := IntsOwn.made W0 (B := w.heap.size + 1) (by rw [BW0.out.2.1]; omega)
  have hbv : Below (w.heap.size + 1) W0 (W0.alloc (.cells #[] 2)) := (Below.refl _ _).alloc (by rw [BW0.out.2.1]; omega) _
  have hz1 : (W0.alloc (.cells #[] 2)).heap.size = w.heap.size + 2 := by simp [BW0.out.2.1]
  have hn : cs.length = n := by obtain ⟨X1, X2, X3, e, _, _, hn, _⟩ := h1; injection e with e1 e2 e3; omega
  have HS := Lib.hid (specOkH_any w.heap.size cs x _ r _ hi (BW0.out.2.2.below hbv (by omega)) ((h1.below BW0.out.1 hh).below hbv (by omega)) (by rw [hz1]; omega) hr (by unfold HtSz at hl; simpa using hl))
  have HP := Lib.hid (fun (W : World) (hb : Below w.heap.size w W) (hR : Rw W w.heap.size 27 #[.slice A n c, .int .i64 x]) (e : r = true) (l : Int) (q : Bool) (hq : q = true ↔ HotAt cs l) => specHotP_any w.heap.size cs x l _ q W hi hR (h1.below hb hh) (Nat.le_trans hh hb.size) (hr.1 e) hq)
  have HLE := Lib.hid (show r = true → n ≤ 48 from fun e => by have q := (hr.1 e).1.2; simp only at q; omega)
  have HN := Lib.hid hn
  have HI1 := Lib.hid hi1
  have HBV := Lib.hid hbv
  clear h1 hr hl hn hi1 hbv
  go_enter Try.func34, Try.ntmps34
  go_wp2_with fail
  rw [← hW0]
  clear hW0
  refine HS.out.mono ?_
  rintro e w1 ⟨rfl, b1⟩
  rw [hz1] at b1
  have BV1 := Lib.hid (HBV.out.trans (b1.mono (by omega)))
  have hown1 := HI1.out.later b1 (by omega)
  clear b1 HS HI1 HBV
  rw [show W0.heap.size = w.heap.size + 1 from BW0.out.2.1] at hown1
  cases r with
  | false =>
    have HO := Lib.hid hown1
    clear hown1
    go_wp2
    go_ret
    exact ⟨_, rfl, show IntsOwn _ _ _ [] from HO.out.low (by omega), BW0.out.1.trans (BV1.out.mono (by omega))⟩
  | true =>
  have hnm : (n : Int) ≤ 48 := by have := HLE.out (by simp); omega
  have HL := Lib.hid (show hotL ⟨cs, x⟩ true = hotTo cs n by unfold hotL; rw [← HN.out]; rfl)
  have HLEN := Lib.hid (hotTo_le cs)
  have HO1 := Lib.hid hown1
  clear hown1
  go_wp2_with fail
  go_loopw [3, 4] (fun v j wr => ∃ k : Nat, k ≤ n ∧ j = .int .i64 (k : Int) ∧ Hid (IntsOwn wr (w.heap.size + 1) v (hotTo cs k)) ∧ Hid (Below (w.heap.size + 1) W0 wr)) (fun _ j _ => n - (intOf j).toNat)
  case atStart => exact ⟨0, by omega, rfl, HO1, BV1⟩
  case round =>
    obtain ⟨k, hk, rfl, hown, HBV⟩ := hrel
    have HB := Lib.hid (BW0.out.1.trans (HBV.out.mono (by omega)))
    have RR := Lib.hid (BW0.out.2.2.below HBV.out (by omega))
    obtain ⟨q0, q1⟩ := RR.out.two
    by_cases hlt : k < n
    · have hki : (k : Int) < (n : Int) := by omega
      have HNX : Hid (k ≤ n) := Lib.hid hk
      have hln := HLEN.out k
      obtain ⟨q, hq⟩ := prop_dec' (HotAt cs (k : Int))
      have HPP := Lib.hid (HP.out wr HB.out RR.out (by simp) (k : Int) q hq)
      have HQ := Lib.hid hq
      clear hq
      go_wp2_with fail
      refine HPP.out.mono ?_
      rintro e w3 ⟨rfl, b3⟩
      have hz' : w.heap.size + 1 ≤ wr.heap.size := by have := HBV.out.size; rw [BW0.out.2.1] at this; exact this
      have HB3 := Lib.hid (HBV.out.trans (b3.mono hz'))
      have hown3 := hown.out.later b3 (Nat.le_refl _)
      clear hown b3 HPP q0 q1 HB RR
      cases q with
      | true =>
        have HN2 := Lib.hid (show hotTo cs (k + 1) = hotTo cs k ++ [(k : Int)] from hotTo_yes (HQ.out.1 (by rfl)))
        have hb' := HB3.out
        have hz'' : w.heap.size + 1 ≤ w3.heap.size := by have := hb'.size; rw [BW0.out.2.1] at this; exact this
        clear HNX HQ HB3
        go_wp2_with (at_builtin; refine wpList_append_int rfl _ _ rfl _ _ rfl hown3 hb' hz'' _ _ rfl (by omega) ?_; intro v' w1 hown4 hb2; clear hown3)
        go_roundw
        case rel => exact ⟨k + 1, by omega, by go_num, Lib.hid (by rw [HN2.out]; exact hown4), Lib.hid hb2⟩
        case measure => simp [intOf]; omega
      | false =>
        have HN2 := Lib.hid (show hotTo cs (k + 1) = hotTo cs k from hotTo_no (fun e => by have := HQ.out.2 e; cases this))
        have HO := Lib.hid hown3
        clear hown3 HNX HQ
        go_wp2
        go_roundw
        case rel => exact ⟨k + 1, by omega, by go_num, Lib.hid (by rw [HN2.out]; exact HO.out), HB3⟩
        case measure => simp [intOf]; omega
    · obtain rfl : k = n := by omega
      go_wp2
      go_ret
      exact ⟨_, rfl, by rw [HL.out]; exact hown.out.low (by omega), HB.out⟩
set_option maxHeartbeats 4000000 in
set_option maxRecDepth 100000 in
theorem implHotPages_any (u : Value) (M : Ht) (r : Bool) (w : World) (hi : Nat) (h : HtIn w hi u M) (hh : hi ≤ w.heap.size) (hr : r = true ↔ HtOk M) (hl : HtSz M) :
    Calls Try.prog 35 #[u] w (CopyPostI (hotL M r) w) := by
  obtain ⟨a, rfl, h1⟩ := h
  obtain ⟨A, n, c, rfl⟩ := h1.slice
  obtain ⟨cs, x⟩ := M
  unfold htc
  simp only at *
  have r0 := Rw.new w 27 #[.slice A n c, .int .i64 x]
  have b0 := (Below.refl w.heap.size w).alloc (Nat.le_refl _) (.cells #[.slice A n c, .int .i64 x] 27)
  have hz : (w.alloc (.cells #[.slice A n c, .int .i64 x] 27)).heap.size = w.heap.size + 1 := by simp
  have hn : cs.length = n := by obtain ⟨X1, X2, X3, e, _, _, hn, _⟩ := h1; injection e with e1 e2 e3; omega
  have hlz : cs.length ≤ 1048576 := by unfold HtSz at hl; simpa using hl
  have HS := Lib.hid (implHtOk_any (.agg (htc ⟨cs, x⟩ (.slice A n c))) ⟨cs, x⟩ r _ hi ⟨_, rfl, h1.below b0 hh⟩ (by rw [hz]; omega) hr hl)
  unfold htc at HS
  have HP := Lib.hid (fun (W : World) (hR : Rw W w.heap.size 27 #[.slice A n c, .int .i64 x]) => heatPages_any w.heap.size A n c x W hR (by omega))
  have HJ := Lib.hid (fun (W : World) (hb : Below w.heap.size w W) (hR : Rw W w.heap.size 27 #[.slice A n c, .int .i64 x]) (e : r = true) (j : Nat) (hj : j < n) (q : Bool) (hq : q = true ↔ HotAt cs (j : Int)) => implHotP_any w.heap.size cs x j _ q W hi hR (h1.below hb hh) (Nat.le_trans hh hb.size) (hr.1 e) (by omega) hq)
  have HLE := Lib.hid (show r = true → n ≤ 48 from fun e => by have q := (hr.1 e).1.2; simp only at q; omega)
  have HN := Lib.hid hn
  have R0 := Lib.hid r0
  have B0 := Lib.hid b0
  obtain ⟨k0, k1⟩ := r0.two
  clear h1 hr hl hn r0 b0 hlz
  go_enter Try.func35, Try.ntmps35
  go_wp2_with fail
  refine HS.out.mono ?_
  rintro e w1 ⟨rfl, b1⟩
  rw [hz] at b1
  have B1 := Lib.hid (B0.out.trans (b1.mono (by omega)))
  have R1 := Lib.hid (R0.out.below b1 (by omega))
  clear b1 HS B0 R0 hz k0 k1
  cases r with
  | false =>
    go_wp2
    go_ret
    exact ⟨_, rfl, show IntsOwn _ _ _ [] from World.ownsRow_nil w1 _ _ 1, B1.out⟩
  | true =>
  have hnm : (n : Int) ≤ 48 := by have := HLE.out (by simp); omega
  have HL := Lib.hid (show hotL ⟨cs, x⟩ true = hotTo cs n by unfold hotL; rw [← HN.out]; rfl)
  have HLEN := Lib.hid (hotTo_le cs)
  have hr1 := R1.out.lt
  go_wp2_with fail
  refine (HP.out _ R1.out).mono ?_
  rintro e w2 ⟨rfl, rfl⟩
  go_wp2_with fail
  go_loopw [3, 9] (fun v j wr => ∃ k : Nat, k ≤ n ∧ j = .int .i64 (k : Int) ∧ Hid (IntsOwn wr w1.heap.size v (hotTo cs k)) ∧ Hid (Below w1.heap.size w1 wr)) (fun _ j _ => n - (intOf j).toNat)
  case atStart => exact ⟨0, by omega, rfl, Lib.hid (show IntsOwn _ _ _ [] from World.ownsRow_nil w1 _ _ 1), Lib.hid (Below.refl _ _)⟩
  case round =>
    obtain ⟨k, hk, rfl, hown, HBV⟩ := hrel
    have HB := Lib.hid (B1.out.trans (HBV.out.mono B1.out.size))
    have RR := Lib.hid (R1.out.below HBV.out hr1)
    by_cases hlt : k < n
    · have hki : (k : Int) < (n : Int) := by omega
      have HNX : Hid (k ≤ n) := Lib.hid hk
      have hln := HLEN.out k
      obtain ⟨q, hq⟩ := prop_dec' (HotAt cs (k : Int))
      have HPP := Lib.hid (HJ.out wr HB.out RR.out (by simp) k hlt q hq)
      have HQ := Lib.hid hq
      clear hq
      go_wp2_with fail
      refine HPP.out.mono ?_
      rintro e w3 ⟨rfl, b3⟩
      have HB3 := Lib.hid (HBV.out.trans (b3.mono HBV.out.size))
      have hown3 := hown.out.later b3 (Nat.le_refl _)
      clear hown b3 HPP HB RR
      cases q with
      | true =>
        have HN2 := Lib.hid (show hotTo cs (k + 1) = hotTo cs k ++ [(k : Int)] from hotTo_yes (HQ.out.1 (by rfl)))
        have hb' := HB3.out
        have hz'' := hb'.size
        clear HNX HQ HB3
        go_wp2_with (at_builtin; refine wpList_append_int rfl _ _ rfl _ _ rfl hown3 hb' hz'' _ _ rfl (by omega) ?_; intro v' w1 hown4 hb2; clear hown3)
        go_roundw
        case rel => exact ⟨k + 1, by omega, by go_num, Lib.hid (by rw [HN2.out]; exact hown4), Lib.hid hb2⟩
        case measure => simp [intOf]; omega
      | false =>
        have HN2 := Lib.hid (show hotTo cs (k + 1) = hotTo cs k from hotTo_no (fun e => by have := HQ.out.2 e; cases this))
        have HO := Lib.hid hown3
        clear hown3 HNX HQ
        go_wp2
        go_roundw
        case rel => exact ⟨k + 1, by omega, by go_num, Lib.hid (by rw [HN2.out]; exact HO.out), HB3⟩
        case measure => simp [intOf]; omega
    · obtain rfl : k = n := by omega
      go_wp2
      go_ret
      exact ⟨_, rfl, by rw [HL.out]; exact hown.out.low B1.out.size, HB.out⟩
end Go.Proofs.Ytgkanacaijlljaa
