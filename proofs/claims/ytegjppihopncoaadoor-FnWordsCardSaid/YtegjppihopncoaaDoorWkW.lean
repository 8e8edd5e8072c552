/- Data of several words, in each at most one bit inverted: the walk. -/
import Derived.Test.YtegjppihopncoaaDoorProg
import Derived.Test.YtegjppihopncoaaDoorData
import Derived.Test.YtegjppihopncoaaDoorDecE
import Derived.Test.YtegjppihopncoaaDoorDiff
import Derived.Test.YtegjppihopncoaaDoorFlpN
namespace Go.Proofs.YtegjppihopncoaaDoor
open Go.RowKit

theorem cntE_le (e : Nat → Option Nat) : ∀ k, cntE e k ≤ k
  | 0 => Nat.le_refl _
  | k + 1 => by
    have := cntE_le e k
    rw [cntE]; split <;> omega
set_option maxRecDepth 100000 in
theorem words_any (a0 : Option Addr) (len0 cap0 : Nat) (z0 : List Int) (a1 : Option Addr) (len1 cap1 : Nat) (z1 : List Int) (w : World) (w0 : IsRow .u8 w a0 len0 cap0 z0) (w1 : IsRow .u8 w a1 len1 cap1 z1) (hT0 : MaskTab w) :
    Calls Tryd.prog 7 #[.slice a0 len0 cap0, .slice a1 len1 cap1] w fun e w' => e = .returned (.bool true) ∧ Below w.heap.size w w' := by
  have b0 := w0.len
  have b1 := w1.len
  have HT := Lib.hid hT0
  clear hT0
  by_cases hl : len0 ≤ 1048576 ∧ len1 ≤ 1048576
  · obtain ⟨hl0, hl1⟩ := hl
    have hc0 := w0.code hl0
    have hc1 := w1.code hl1
    have HL := Lib.hid (show Calls Tryd.prog 8 #[.slice a0 len0 cap0, .slice a1 len1 cap1] w fun e w' => e = .returned (.bool false) ∧ w = w' from long_no _ _ _ _ _ _ _ hl0 hl1)
    obtain ⟨cd, hcd⟩ : ∃ v, v = Value.slice a0 len0 cap0 := ⟨_, rfl⟩
    obtain ⟨mo, hmo⟩ : ∃ v, v = Value.slice a1 len1 cap1 := ⟨_, rfl⟩
    rw [← hcd] at hc0
    rw [← hmo] at hc1
    rw [← hcd, ← hmo] at HL
    have HX := Lib.hid (show Calls Tryd.prog 10 #[mo, .int .i64 0, .int .i64 10] w (AtPost 10 w) from b10At_any _ _ 0 10 w hc1 (by omega) (by omega) (by omega))
    have HD := Lib.hid (show ∀ m : Nat, m ≤ 10 → Calls Tryd.prog 12 #[cd, .int .i64 0, .int .i64 (8 * (m : Int))] w (DataPost (8 * m) w) from fun m hm => by
      have := b10Data_any w.heap.size cd 0 (8 * m) w hc0 (Nat.le_refl _) (by omega) (by omega)
      rw [show ((8 * m : Nat) : Int) = 8 * (m : Int) by omega] at this
      exact this)
    have HA1 := Lib.hid (show ∀ W (k : Nat), CodeIs W w.heap.size mo → k ≤ 100 → Calls Tryd.prog 10 #[mo, .int .i64 (1 + (k : Int)), .int .i64 2] W (AtPost 2 W) from fun W k h hk => b10At_sum _ _ 1 k 2 W h (by omega) (by omega) (by omega))
    have HA2 := Lib.hid (show ∀ W (k : Nat), CodeIs W w.heap.size mo → k ≤ 100 → Calls Tryd.prog 10 #[mo, .int .i64 (20 + (k : Int)), .int .i64 64] W (AtPost 64 W) from fun W k h hk => b10At_sum _ _ 20 k 64 W h (by omega) (by omega) (by omega))
    have HM := Lib.hid hc1
    rw [← hcd, ← hmo]
    clear w0 w1 hc0 hc1 hcd hmo
    go_enter Tryd.func7, Tryd.ntmps7
    go_wp2_with fail
    refine HL.out.mono ?_
    rintro e w' ⟨rfl, rfl⟩
    go_wp2_with fail
    refine HX.out.mono ?_
    rintro e w' ⟨x, rfl, hx0, hx1, rfl⟩
    obtain ⟨m, hm, hm1, hm10⟩ : ∃ m : Nat, 1 + x = (m : Int) ∧ 1 ≤ m ∧ m ≤ 10 := ⟨(1 + x).toNat, by omega, by omega, by omega⟩
    clear hx0 hx1 HX HL
    go_wp2_with fail
    refine (HD.out m hm10).mono ?_
    rintro e w1 ⟨D, rfl, hD, hb1⟩
    have hz1 := hb1.size
    have HT1 := HT.out.below hb1 (Nat.le_refl _)
    have HE := Lib.hid (fun (W : World) (h : MaskTab W) => implEnc_yes D m W hD (by omega) h)
    have ht : (strOfNums (chkL D m)).size = m := by rw [strOfNums_size, chkL_length]
    obtain ⟨t, htt⟩ : ∃ t, t = strOfNums (chkL D m) := ⟨_, rfl⟩
    have HTT := Lib.hid htt
    rw [← htt] at HE ht
    have hne : ((t.size : Int) != (D.size : Int) / 8) = false := by simp; omega
    have hDi : (D.size : Int) ≤ 80 := by omega
    have hti : (t.size : Int) = (m : Int) := by omega
    have HDs := Lib.hid hD
    have hDn : D.size ≤ 80 := by omega
    clear htt hm HD ht hD
    go_wp2_with fail
    refine (HE.out _ HT1).mono ?_
    rintro e w2 ⟨rfl, hb2⟩
    have hB2 := hb1.trans (hb2.mono hz1)
    have hz2 := hB2.size
    clear hb1 hb2 HT1 HE hz1
    go_wp2_with (refine wpList_str_bytes rfl _ rfl D rfl hB2 hz2 ?_; intro cap w3 hat hz3 hb3)
    have hfl : FlB D (fun _ => none) (D.data.toList.map fun b => (b.toNat : Int)) := FlB.start D _ (by simp) fun j hj => by
      unfold byteAt
      rw [List.getD_eq_getElem?_getD, List.getElem?_map, List.getD_eq_getElem?_getD, List.getElem?_eq_getElem (by simpa using hj)]; rfl
    clear hne
    go_loopw [9, 10] (fun u v wr => ∃ (k : Nat) (E : Nat → Option Nat) (l : List Int), k ≤ m ∧ v = .int .i64 k ∧ u = .int .i64 (cntE E k : Nat) ∧ (∀ i, k ≤ i → E i = none) ∧ (∀ i p, E i = some p → p < 64) ∧ FlB D E l ∧ BytesAt wr w2.heap.size l ∧ Below w.heap.size w wr ∧ w2.heap.size < wr.heap.size) (fun _ v _ => m - (intOf v).toNat)
    case atStart => exact ⟨0, _, _, by omega, rfl, rfl, fun i _ => rfl, fun i p h => by simp at h, hfl, hat, hb3, hz3⟩
    case round =>
      clear hat hfl hb3 hz3
      obtain ⟨k, E, l, hk, rfl, rfl, hE1, hE2, hfl, hat, hb, hg⟩ := hrel
      have H1 := Lib.hid hE1
      have H2 := Lib.hid hE2
      have HF := Lib.hid hfl
      have HAt := Lib.hid hat
      have hn := HDs.out
      have hcnt : cntE E k ≤ k := cntE_le E k
      clear hE1 hE2 hfl hat
      by_cases hlt : k < m
      · have hki : (k : Int) < (m : Int) := by omega
        have hkm : (k : Int) ≤ 10 := by omega
        have hcode := HM.out.keep (w' := wr) hb.block
        clear hn
        go_wp2_with fail
        refine (HA1.out _ k hcode (by omega)).mono ?_
        rintro e w' ⟨x, rfl, hx0, hx1, rfl⟩
        by_cases hx : x = 1
        · subst hx
          clear hx0 hx1
          go_wp2_with fail
          refine (HA2.out _ k hcode (by omega)).mono ?_
          rintro e w' ⟨y, rfl, hy0, hy1, rfl⟩
          obtain ⟨p, rfl⟩ : ∃ p : Nat, y = (p : Int) := ⟨y.toNat, by omega⟩
          have hp : p < 64 := by omega
          obtain ⟨A, hA⟩ : ∃ A : Nat, A = 64 * k + p := ⟨_, rfl⟩
          have hAi : 64 * (k : Int) + (p : Int) = (A : Int) := by omega
          have hAn : A / 8 < D.size := by have := HDs.out; omega
          have i3 : (A : Int) / 8 < (D.size : Int) := by omega
          have q1 : IntKind.i64.wrap ((A : Int) / 8) = (A : Int) / 8 := IntWalk.i64_in _ (by omega)
          have q2 : (0 : Int) ≤ (A : Int) / 8 := by omega
          have q3 : ((A : Int) / 8).toNat = A / 8 := by omega
          have r1 : IntKind.i64.wrap ((A : Int) % 8) = (A : Int) % 8 := IntWalk.i64_in _ (by omega)
          have r2 : (0 : Int) ≤ (A : Int) % 8 := by omega
          have r3 : ((A : Int) % 8).toNat = A % 8 := by omega
          have r4 : IntKind.u64.wrap ((A : Int) % 8) = (A : Int) % 8 := by rw [IntKind.wrap_u64]; omega
          have hll := HF.out.1
          have hat := HAt.out (A / 8) (by omega)
          have hold := HF.out.old hAn (by rw [show A / 8 / 8 = k by omega]; exact H1.out k (Nat.le_refl _))
          rw [hold] at hat
          obtain ⟨hcell, hfree⟩ := hat
          have hyl := byteAt_le D (A / 8)
          have HX : Hid (bits .xor .u8 (byteAt D (A / 8) : Int) (2 ^ (A % 8) % 256) = ((byteAt D (A / 8) ^^^ 2 ^ (A % 8) : Nat) : Int)) := by
            show _ = _
            have e : ((2 : Int) ^ (A % 8)) = (((2 : Nat) ^ (A % 8) : Nat) : Int) := by rw [Int.natCast_pow]; rfl
            have hp : (2 : Nat) ^ (A % 8) < 2 ^ 8 := Nat.pow_lt_pow_right (by decide) (by omega)
            rw [e]
            generalize (2 : Nat) ^ (A % 8) = q at *
            rw [show (q : Int) % 256 = (q : Int) by omega, u8_xor_nat _ _ (by omega) (by omega)]
          have HAA := Lib.hid hA
          have HLL := Lib.hid hll
          clear hold hll hA hy0 hy1
          have hfl2 := HF.out.flip (k := k) (p := p) (by have := HDs.out; omega) hp (H1.out k (Nat.le_refl _))
          rw [show 8 * k + p / 8 = A / 8 by have := HAA.out; omega, show p % 8 = A % 8 by have := HAA.out; omega] at hfl2
          have hat2 := HAt.out.set_ (k := A / 8) (by have := HLL.out; omega) (bits .xor .u8 (byteAt D (A / 8) : Int) (2 ^ (A % 8) % 256))
          rw [← HX.out] at hfl2
          have HF2 := Lib.hid hfl2
          have HA3 := Lib.hid hat2
          have hb2 := Lib.hid (hb.setCell (p := ⟨w2.heap.size, A / 8, none⟩) hz2 (.int .u8 (bits .xor .u8 (byteAt D (A / 8) : Int) (2 ^ (A % 8) % 256))))
          clear hfl2 hat2
          go_wp2
          go_roundw
          case rel => exact ⟨k + 1, upd E k (some p), _, by omega, by go_num, by rw [cntE, upd_at, cntE_congr (f := E) k (fun i hi => upd_far E _ (by omega))]; go_num, fun i hi => by rw [upd_far E _ (by omega)]; exact H1.out i (by omega), fun i q h => by
            by_cases hi : i = k
            · subst hi; rw [upd_at] at h; cases h; exact hp
            · rw [upd_far E _ hi] at h; exact H2.out i q h, HF2.out, HA3.out, hb2.out, by simpa using hg⟩
          case measure => simp [intOf]; omega
        · obtain rfl : x = 0 := by omega
          go_wp2
          go_roundw
          case rel => exact ⟨k + 1, E, l, by omega, by go_num, by rw [cntE, H1.out k (Nat.le_refl _)]; rfl, fun i hi => H1.out i (by omega), H2.out, HF.out, HAt.out, hb, hg⟩
          case measure => simp [intOf]; omega
      · obtain rfl : k = m := by omega
        have hSz := HF.out.size
        have hdec := fun i (hi : i < k) => HF.out.dec HDs.out H2.out hi
        have hAll := HF.out.dif_all HDs.out H2.out k (Nat.le_refl _)
        rw [← HTT.out] at hdec
        obtain ⟨S, hS⟩ : ∃ S, S = strOfNums l := ⟨_, rfl⟩
        rw [← hS] at hSz hdec hAll
        have HDE := Lib.hid (fun (W : World) (h : MaskTab W) => implDecE_yes S t k k D (cntE E k : Nat) 0 W (by rw [hSz]; exact hn) (by omega) (by omega) (Nat.le_refl _) (fun i hi => (hdec i hi).1) (.inl ⟨rfl, (out_back hn fun i hi => (hdec i hi).2.1).symm, by rw [tot_cnt k fun i hi => (hdec i hi).2.2], rfl⟩) h)
        have HDB := Lib.hid (fun (W : World) => implDiff_yes D S W ⟨hSz.symm, by omega⟩)
        have h64 : 8 * D.size = 64 * k := by omega
        rw [h64] at HDB
        have hcv := fun (W : World) (h : BytesAt W w2.heap.size l) => h.str (cap := cap)
        rw [HF.out.1, ← hS] at hcv
        have hcv1 := hcv wr HAt.out
        have HCV := Lib.hid hcv
        have HAL := Lib.hid hAll
        have hq := str_same (rfl : D = D)
        have hcc : ((cntE E k : Nat) : Int) = ((cntE E k : Nat) : Int) := rfl
        have HTr := Lib.hid (HT.out.below hb (Nat.le_refl _))
        obtain ⟨c, hc⟩ : ∃ c, c = cntE E k := ⟨_, rfl⟩
        rw [← hc] at HDE HAL hcnt ⊢
        obtain ⟨dl, hdl⟩ : ∃ dl, dl = difL D S (64 * k) := ⟨_, rfl⟩
        rw [← hdl] at HDB HAL
        clear hSz hdec hAll hS hcv hn hcc hc hdl h64 HTT H1 H2
        go_wp2_with fail
        refine (HDE.out _ HTr.out).mono ?_
        rintro e w5 ⟨rfl, c5⟩
        have B5 := hb.trans (c5.mono hb.size)
        have hcv5 := HCV.out w5 (HAt.out.below c5 hg)
        have hc10 : (c : Int) ≤ 10 := by omega
        have hee : ((c : Int) == (c : Int)) = true := by simp
        clear hcv1 HTr HDE
        go_wp2_with fail
        refine (HDB.out _).mono ?_
        rintro e w6 ⟨dv, rfl, own, c6⟩
        have B6 := B5.trans (c6.mono B5.size)
        have hl6 := HAL.out
        rcases own.shape with ⟨rfl, h0⟩ | ⟨g, cp, rfl, _, _⟩
        · have hc0 : c = 0 := by rw [← hl6, h0]; rfl
          subst hc0
          clear h0 own hl6 HAL
          go_wp2
          go_ret
          exact ⟨rfl, B6⟩
        · rw [hl6]
          clear own hl6 HAL
          go_wp2
          go_ret
          exact ⟨rfl, B6⟩
  · go_enter Tryd.func7, Tryd.ntmps7
    go_wp2_with (go_at_call 8; refine (long_yes _ _ _ _ _ _ _ b0 b1 hl).mono ?_; rintro e w' ⟨rfl, rfl⟩)
    go_ret
    exact ⟨rfl, Below.refl _ _⟩
end Go.Proofs.YtegjppihopncoaaDoor
