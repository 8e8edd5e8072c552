/- A sealed page with a bit inverted in some of its words: the walk. -/
import Derived.Test.YthenilomgbnpeaaDoorProg
import Derived.Test.YthenilomgbnpeaaDoorData
import Derived.Test.YthenilomgbnpeaaDoorPsN
namespace Go.Proofs.YthenilomgbnpeaaDoor
open Go.RowKit
set_option linter.unusedVariables false
theorem cntE_le' (e : Nat → Option Nat) : ∀ k, cntE e k ≤ k
  | 0 => Nat.le_refl _
  | k + 1 => by
    have := cntE_le' e k
    rw [cntE]; split <;> omega
set_option maxHeartbeats 4000000 in
set_option maxRecDepth 100000 in
theorem ps_any (a0 : Option Addr) (len0 cap0 : Nat) (z0 : List Int) (a1 : Option Addr) (len1 cap1 : Nat) (z1 : List Int) (w : World) (w0 : IsRow .u8 w a0 len0 cap0 z0) (w1 : IsRow .u8 w a1 len1 cap1 z1) (hT0 : MaskTab w) :
    Calls Tryd.prog 3 #[.slice a0 len0 cap0, .slice a1 len1 cap1] w fun e w' => e = .returned (.bool true) ∧ Below w.heap.size w w' := by
  have b0 := w0.len
  have b1 := w1.len
  have HT := Lib.hid hT0
  clear hT0
  by_cases hl : len0 ≤ 1048576 ∧ len1 ≤ 1048576
  · obtain ⟨hl0, hl1⟩ := hl
    have hc0 := w0.code hl0
    have hc1 := w1.code hl1
    have HL := Lib.hid (show Calls Tryd.prog 5 #[.slice a0 len0 cap0, .slice a1 len1 cap1] w fun e w' => e = .returned (.bool false) ∧ w = w' from long_no _ _ _ _ _ _ _ hl0 hl1)
    obtain ⟨cd, hcd⟩ : ∃ v, v = Value.slice a0 len0 cap0 := ⟨_, rfl⟩
    obtain ⟨mo, hmo⟩ : ∃ v, v = Value.slice a1 len1 cap1 := ⟨_, rfl⟩
    rw [← hcd] at hc0
    rw [← hmo] at hc1
    rw [← hcd, ← hmo] at HL
    have HA := Lib.hid (fun (W : World) (hb : Below w.heap.size w W) (i : Nat) (n : Int) (h1 : i ≤ 100) (h2 : 2 ≤ n) (h3 : n ≤ 1000) => b10At_any w.heap.size mo i n W (hc1.keep hb.block) (by omega) h2 (by omega))
    have HS := Lib.hid (fun (W : World) (hb : Below w.heap.size w W) (i k : Nat) (n : Int) (h1 : i + k ≤ 100) (h2 : 2 ≤ n) (h3 : n ≤ 1000) => b10At_sum w.heap.size mo i k n W (hc1.keep hb.block) (by omega) h2 (by omega))
    have HD := Lib.hid (fun (W : World) (hb : Below w.heap.size w W) (i n : Nat) (h1 : i ≤ 100) (h2 : n ≤ 100) => b10Data_any w.heap.size cd i n W (hc0.keep hb.block) hb.size (by omega) (by omega))
    rw [← hcd, ← hmo]
    clear w0 w1 hc0 hc1 hcd hmo
    go_enter Tryd.func3, Tryd.ntmps3
    go_wp2_with fail
    refine HL.out.mono ?_
    rintro e w' ⟨rfl, rfl⟩
    go_wp2_with fail
    refine (HD.out w (Below.refl _ _) 0 64 (by omega) (by omega)).mono ?_
    rintro e w1 ⟨D, rfl, hD, B1⟩
    go_wp2_with fail
    refine (HD.out w1 B1 64 16 (by omega) (by omega)).mono ?_
    rintro e w2 ⟨S, rfl, hS, b2⟩
    have B2 := B1.trans (b2.mono B1.size)
    clear B1 b2
    go_wp2_with fail
    refine (HA.out w2 B2 0 255 (by omega) (by omega) (by omega)).mono ?_
    rintro e w' ⟨x, rfl, hx0, hx1, rfl⟩
    go_wp2_with fail
    refine (HA.out w2 B2 1 256 (by omega) (by omega) (by omega)).mono ?_
    rintro e w' ⟨y, rfl, hy0, hy1, rfl⟩
    obtain ⟨pn, hpn, hpl⟩ : ∃ pn : Nat, 256 * x + y = (pn : Int) ∧ pn ≤ 65534 := ⟨(256 * x + y).toNat, by omega, by omega⟩
    have HSL := Lib.hid (fun (W : World) (hT : MaskTab W) => implSeal_any D S pn (sealB D S pn) 0 W (.done ⟨hD, hS⟩ pn rfl hpl) (by omega) (by omega) hT)
    have hRs := sealB_size (p := pn) hD hS
    have HOP := Lib.hid (fun (T : ByteArray) (E : Nat → Option Nat) (h : FlS (sealB D S pn) E T) (hE : ∀ i p, E i = some p → p < 64) (h10 : E 10 = none) (h11 : ∀ q, E 11 = some q → q / 8 = 2) (W : World) (hT : MaskTab W) =>
      implOpen_any T pn D S (cntE E 12 : Nat) 0 W (seal_opens hD hS hpl h hE h10 h11) (by rw [h.1, hRs]; omega) hT)
    have hne : sealB D S pn ≠ erasedB := fun e => by
      have h1 := seal_mark (n := pn) hD hS
      rw [e] at h1
      exact absurd h1 (by decide +kernel)
    have HIE := Lib.hid (fun (W : World) => implIsErased_any (sealB D S pn) false W (by omega) (by simpa using hne))
    generalize sealB D S pn = R at *
    clear hne
    go_wp2_with fail
    refine (HSL.out w2 (HT.out.below B2 (Nat.le_refl _))).mono ?_
    rintro e w3 ⟨rfl, b3⟩
    have B3 := B2.trans (b3.mono B2.size)
    clear B2 b3 hx0 hx1 hy0 hy1 HSL HD HL
    have hR1 : ((R.size : Int) != 91) = false := by rw [hRs]; rfl
    go_wp2_with fail
    refine (HIE.out w3).mono ?_
    rintro e w4 ⟨rfl, b4⟩
    have B4 := B3.trans (b4.mono B3.size)
    clear B3 b4 hR1 HIE
    have hcz : cntE (fun _ => none) 12 = 0 := rfl
    have HS0 := Lib.hid (FlS.start R)
    have HRS := Lib.hid hRs
    clear hRs
    go_wp2
    go_loopw [8, 10, 11] (fun t n j wr => ∃ (k : Nat) (E : Nat → Option Nat) (T : ByteArray), k ≤ 11 ∧ j = .int .i64 k ∧ n = .int .i64 (cntE E 12 : Nat) ∧ t = .string T ∧ (∀ i, k ≤ i → i ≠ 11 → E i = none) ∧ (k ≤ 10 → E 11 = none) ∧ E 10 = none ∧ (∀ q, E 11 = some q → q / 8 = 2) ∧ (∀ i p, E i = some p → p < 64) ∧ FlS R E T ∧ Below w.heap.size w wr) (fun _ _ j _ => 11 - (intOf j).toNat)
    case atStart => exact ⟨0, fun _ => none, R, by omega, rfl, rfl, rfl, fun _ _ _ => rfl, fun _ => rfl, rfl, fun q h => by simp at h, fun i p h => by simp at h, HS0.out, B4⟩
    case round =>
      clear HS0 B4 hcz
      obtain ⟨k, E, T, hk, rfl, rfl, rfl, h1, h2, h3, h4, h5, h6, B⟩ := hrel
      have H1 := Lib.hid h1
      have H2 := Lib.hid h2
      have H3 := Lib.hid h3
      have H4 := Lib.hid h4
      have H5 := Lib.hid h5
      have H6 := Lib.hid h6
      have hTs : T.size = 91 := h6.1.trans HRS.out
      clear h1 h2 h3 h4 h5 h6
      have hcn : (cntE E 12 : Nat) ≤ 12 := cntE_le' E 12
      have HF := Lib.hid (fun (W : World) (A : Nat) (hA : A ≤ 727) => implFlipP_any T A (flipP T A) 0 W (by omega) (.done hTs A rfl hA))
      clear hTs
      obtain ⟨c, hc⟩ : ∃ c, c = cntE E 12 := ⟨_, rfl⟩
      rw [← hc] at hcn ⊢
      have HC := Lib.hid hc
      clear hc
      by_cases hlt : k < 11
      · have hki : (k : Int) < 11 := by omega
        go_wp2_with fail
        refine (HS.out wr B 2 k 64 (by omega) (by omega) (by omega)).mono ?_
        rintro e w' ⟨x, rfl, hx0, hx1, rfl⟩
        by_cases h10 : k = 10
        · subst h10
          go_wp2_with fail
          refine (HA.out wr B 12 8 (by omega) (by omega) (by omega)).mono ?_
          rintro e w' ⟨y2, rfl, hy0, hy1, rfl⟩
          obtain ⟨p, rfl⟩ := Int.eq_ofNat_of_zero_le hy0
          clear hx0 hx1 hy0
          go_wp2_with fail
          refine (HS.out wr B 20 10 3 (by omega) (by omega) (by omega)).mono ?_
          rintro e w' ⟨z, rfl, hz0, hz1, rfl⟩
          by_cases hz : z = 0
          · subst hz
            have hfc := HF.out wr (720 + p) (by omega)
            rw [Int.natCast_add] at hfc
            have HFL := Lib.hid (show Calls Tryd.prog 10 #[.string T, .int .i64 (720 + (p : Int))] wr _ from hfc)
            clear HF hfc
            have hfl := H6.out.flip (k := 11) (p := 16 + p) (by rw [HRS.out]; omega) (by omega) (H2.out (by omega))
            rw [show 64 * 11 + (16 + p) = 720 + p by omega] at hfl
            have HFF := Lib.hid hfl
            have HCC := Lib.hid (cntE_upd (p := 16 + p) (H2.out (by omega)) 12 (by omega))
            have HP := Lib.hid (show 16 + p < 64 ∧ (16 + p) / 8 = 2 by omega)
            clear hfl
            generalize flipP T (720 + p) = T2 at *
            go_wp2_with fail
            refine HFL.out.mono ?_
            rintro e w5 ⟨rfl, b5⟩
            have B5 := B.trans (b5.mono B.size)
            clear b5 B
            go_wp2
            go_roundw
            case rel => exact ⟨11, upd E 11 (some (16 + p)), T2, by omega, by go_num, by rw [HCC.out, ← HC.out]; go_num, rfl, fun i hi hi2 => by rw [upd_far E _ (by omega)]; exact H1.out i (by omega) hi2,
              fun h => by omega, by rw [upd_far E _ (by omega)]; exact H3.out, fun q h => by rw [upd_at] at h; cases h; exact HP.out.2,
              fun i q h => by
                by_cases hi : i = 11
                · subst hi; rw [upd_at] at h; cases h; exact HP.out.1
                · rw [upd_far E _ hi] at h; exact H5.out i q h, HFF.out, B5⟩
            case measure => simp [intOf]
          · have hzb : (z == 0) = false := by simpa using hz
            go_wp2
            go_roundw
            case rel => exact ⟨11, E, T, by omega, by go_num, by rw [HC.out], rfl, fun i hi hi2 => H1.out i (by omega) hi2, fun h => by omega, H3.out, H4.out, H5.out, H6.out, B⟩
            case measure => simp [intOf]
        · have hb10 : ((k : Int) == 10) = false := by simp; omega
          obtain ⟨p, rfl⟩ := Int.eq_ofNat_of_zero_le hx0
          obtain ⟨A, hA⟩ : ∃ A : Nat, A = 64 * k + p := ⟨_, rfl⟩
          have hAi : 64 * (k : Int) + (p : Int) = (A : Int) := by omega
          have hkm : (k : Int) ≤ 10 := by omega
          have hAl : (A : Int) ≤ 727 := by omega
          have HA2 := Lib.hid hA
          have HPL := Lib.hid (show p < 64 by omega)
          have HFL := Lib.hid (HF.out wr A (by omega))
          clear hA hx0 hx1
          go_wp2_with fail
          refine (HS.out wr B 20 k 3 (by omega) (by omega) (by omega)).mono ?_
          rintro e w' ⟨z, rfl, hz0, hz1, rfl⟩
          by_cases hz : z = 0
          · subst hz
            clear HF
            go_wp2_with fail
            refine HFL.out.mono ?_
            rintro e w5 ⟨rfl, b5⟩
            have B5 := B.trans (b5.mono B.size)
            clear b5 B
            have hfl := H6.out.flip (k := k) (p := p) (by have := HPL.out; rw [HRS.out]; omega) HPL.out (H1.out k (Nat.le_refl _) (by omega))
            rw [← HA2.out] at hfl
            have HFF := Lib.hid hfl
            have HCC := Lib.hid (cntE_upd (p := p) (H1.out k (Nat.le_refl _) (by omega)) 12 (by omega))
            clear hfl
            generalize flipP T A = T2 at *
            go_wp2
            go_roundw
            case rel => exact ⟨k + 1, upd E k (some p), T2, by omega, by go_num, by rw [HCC.out, ← HC.out]; go_num, rfl, fun i hi hi2 => by rw [upd_far E _ (by omega)]; exact H1.out i (by omega) hi2,
              fun h => by rw [upd_far E _ (by omega)]; exact H2.out (by omega), by rw [upd_far E _ (by omega)]; exact H3.out, fun q h => by rw [upd_far E _ (by omega)] at h; exact H4.out q h,
              fun i q h => by
                by_cases hi : i = k
                · subst hi; rw [upd_at] at h; cases h; exact HPL.out
                · rw [upd_far E _ hi] at h; exact H5.out i q h, HFF.out, B5⟩
            case measure => simp [intOf]; omega
          · have hzb : (z == 0) = false := by simpa using hz
            clear HF
            go_wp2
            go_roundw
            case rel => exact ⟨k + 1, E, T, by omega, by go_num, by rw [HC.out], rfl, fun i hi hi2 => H1.out i (by omega) hi2, fun h => H2.out (by omega), H3.out, H4.out, H5.out, H6.out, B⟩
            case measure => simp [intOf]; omega
      · obtain rfl : k = 11 := by omega
        have HOP2 := Lib.hid (HOP.out T E H6.out H5.out H3.out H4.out wr (HT.out.below B (Nat.le_refl _)))
        rw [← HC.out] at HOP2
        clear HOP HF
        go_wp2_with fail
        refine HOP2.out.mono ?_
        rintro e w5 ⟨rfl, b5⟩
        have B5 := B.trans (b5.mono B.size)
        clear b5 B
        have q1 := str_same (rfl : D = D)
        have q2 := str_same (rfl : S = S)
        go_wp2
        go_ret
        exact ⟨rfl, B5⟩
  · go_enter Tryd.func3, Tryd.ntmps3
    go_wp2_with (go_at_call 5; refine (long_yes _ _ _ _ _ _ _ b0 b1 hl).mono ?_; rintro e w' ⟨rfl, rfl⟩)
    go_ret
    exact ⟨rfl, Below.refl _ _⟩
end Go.Proofs.YthenilomgbnpeaaDoor
