/- A page that was torn, erased or destroyed: the walk. -/
import Derived.Test.YthenilomgbnpeaaDoorProg
import Derived.Test.YthenilomgbnpeaaDoorData
import Derived.Test.YthenilomgbnpeaaDoorPtN
import Derived.Test.YthenilomgbnpeaaDoorRw
namespace Go.Proofs.YthenilomgbnpeaaDoor
open Go.RowKit
set_option linter.unusedVariables false
set_option maxHeartbeats 4000000 in
set_option maxRecDepth 100000 in
theorem pt_any (a0 : Option Addr) (len0 cap0 : Nat) (z0 : List Int) (a1 : Option Addr) (len1 cap1 : Nat) (z1 : List Int) (w : World) (w0 : IsRow .u8 w a0 len0 cap0 z0) (w1 : IsRow .u8 w a1 len1 cap1 z1) (hT0 : MaskTab w) :
    Calls Tryd.prog 4 #[.slice a0 len0 cap0, .slice a1 len1 cap1] w fun e w' => e = .returned (.bool true) ∧ Below w.heap.size w w' := by
  have b0 := w0.len
  have b1 := w1.len
  have HT := Lib.hid hT0
  clear hT0
  by_cases hl : len0 ≤ 1048576 ∧ len1 ≤ 1048576
  · obtain ⟨hl0, hl1⟩ := hl
    have hc0 := w0.code hl0
    have hc1 := w1.code hl1
    have HL := Lib.hid (show Calls Tryd.prog 5 #[.slice a0 len0 cap0, .slice a1 len1 cap1] w fun e w' => e = .returned (.bool false) ∧ w = w' from long_no _ _ _ _ _ _ _ hl0 hl1)
    obtain ⟨cd, hcd⟩ : ∃ v, v = Value.slice a0 len0 cap0 := ⟨_, rfl⟩
    obtain ⟨mo, hmo⟩ : ∃ v, v = Value.slice a1 len1 cap1 := ⟨_, rfl⟩
    rw [← hcd] at hc0
    rw [← hmo] at hc1
    rw [← hcd, ← hmo] at HL
    have HA := Lib.hid (fun (W : World) (hb : Below w.heap.size w W) (i : Nat) (n : Int) (h1 : i ≤ 100) (h2 : 2 ≤ n) (h3 : n ≤ 1000) => b10At_any w.heap.size mo i n W (hc1.keep hb.block) (by omega) h2 (by omega))
    have HS := Lib.hid (fun (W : World) (hb : Below w.heap.size w W) (i k : Nat) (n : Int) (h1 : i + k ≤ 100) (h2 : 2 ≤ n) (h3 : n ≤ 1000) => b10At_sum w.heap.size mo i k n W (hc1.keep hb.block) (by omega) h2 (by omega))
    have HD := Lib.hid (fun (W : World) (hb : Below w.heap.size w W) (i n : Nat) (h1 : i ≤ 100) (h2 : n ≤ 100) => b10Data_any w.heap.size cd i n W (hc0.keep hb.block) hb.size (by omega) (by omega))
    rw [← hcd, ← hmo]
    clear w0 w1 hc0 hc1 hcd hmo
    go_enter Tryd.func4, Tryd.ntmps4
    go_wp2_with fail
    refine HL.out.mono ?_
    rintro e w' ⟨rfl, rfl⟩
    go_wp2_with fail
    refine (HD.out w (Below.refl _ _) 0 64 (by omega) (by omega)).mono ?_
    rintro e w1 ⟨D, rfl, hD, B1⟩
    go_wp2_with fail
    refine (HD.out w1 B1 64 16 (by omega) (by omega)).mono ?_
    rintro e w2 ⟨S, rfl, hS, b2⟩
    have B2 := B1.trans (b2.mono B1.size)
    clear B1 b2
    go_wp2_with fail
    refine (HA.out w2 B2 0 200 (by omega) (by omega) (by omega)).mono ?_
    rintro e w' ⟨x, rfl, hx0, hx1, rfl⟩
    obtain ⟨pn, rfl⟩ := Int.eq_ofNat_of_zero_le hx0
    have HSL := Lib.hid (fun (W : World) (hT : MaskTab W) => implSeal_any D S pn (sealB D S pn) 0 W (.done ⟨hD, hS⟩ pn rfl (by omega)) (by omega) (by omega) hT)
    have hRs := sealB_size (p := pn) hD hS
    generalize sealB D S pn = R at *
    have HTN := Lib.hid (fun (W : World) (n : Nat) (h : n ≤ 91) => implTorn_any R n (tornB R n) 0 W (by omega) (.done hRs n rfl h))
    have HFN := Lib.hid (fun (W : World) (n b : Nat) (h : n ≤ 90) (hb : b ≤ 727) => implFlipP_any (tornB R n) b (flipP (tornB R n) b) 0 W (by rw [tornB_size hRs (by omega)]; omega) (.done (tornB_size hRs (by omega)) b rfl hb))
    have HOP := Lib.hid (fun (T : ByteArray) (h : Shut T) (p : Int) (hp : 0 ≤ p ∧ p ≤ 65534) (W : World) (hT : MaskTab W) => implOpen_any T p ⟨#[]⟩ ⟨#[]⟩ 0 6 W (h.ends hp) (by have := h.1; omega) hT)
    have HS1 := Lib.hid (fun (n : Nat) (h : n ≤ 90) => shut_torn hRs h)
    have HS2 := Lib.hid (fun (n b : Nat) (h : n ≤ 90) => shut_bent hRs h b)
    have HS3 := Lib.hid shut_erased
    have HS4 := Lib.hid shut_dest
    have HAll := Lib.hid (tornB_all hRs)
    have HER := Lib.hid (fun (W : World) => (show Calls Tryd.prog 13 #[] W fun e w' => e = .returned (.string erasedB) ∧ Below W.heap.size W w' from implErased_any W))
    have HDS := Lib.hid (fun (W : World) => (show Calls Tryd.prog 14 #[] W fun e w' => e = .returned (.string destB) ∧ Below W.heap.size W w' from implDestroyed_any W))
    clear hRs
    go_wp2_with fail
    refine (HSL.out w2 (HT.out.below B2 (Nat.le_refl _))).mono ?_
    rintro e w3 ⟨rfl, b3⟩
    have B3 := B2.trans (b3.mono B2.size)
    clear B2 b3 HSL HD HL
    go_wp2_with fail
    refine (HA.out w3 B3 1 91 (by omega) (by omega) (by omega)).mono ?_
    rintro e w' ⟨kn, rfl, hk0, hk1, rfl⟩
    obtain ⟨kn, rfl⟩ := Int.eq_ofNat_of_zero_le hk0
    go_wp2_with fail
    refine (HTN.out w3 kn (by omega)).mono ?_
    rintro e w4 ⟨rfl, b4⟩
    have B4 := B3.trans (b4.mono B3.size)
    clear B3 b4
    go_wp2_with fail
    refine (HA.out w4 B4 2 3 (by omega) (by omega) (by omega)).mono ?_
    rintro e w' ⟨x, rfl, hx2, hx3, rfl⟩
    go_wp2_with fail
    refine (HA.out w4 B4 3 256 (by omega) (by omega) (by omega)).mono ?_
    rintro e w' ⟨y, rfl, hy2, hy3, rfl⟩
    obtain ⟨bn, hbn, hbl⟩ : ∃ bn : Nat, (256 * x + y) % 728 = (bn : Int) ∧ bn ≤ 727 := ⟨((256 * x + y) % 728).toNat, by omega, by omega⟩
    have HF2 := Lib.hid (fun (W : World) => HFN.out W kn bn (by omega) (by omega))
    have S1 := Lib.hid (HS1.out kn (by omega))
    have S2 := Lib.hid (HS2.out kn bn (by omega))
    generalize tornB R kn = t1 at *
    generalize flipP t1 bn = t2 at *
    have HT91 := Lib.hid (fun (W : World) => (show Calls Tryd.prog 12 #[.string R, .int .i64 91] W (PairPost R 0 W) from by have := HTN.out W 91 (by omega); rw [HAll.out] at this; exact this))
    clear HTN HFN HS1 HS2 HAll hk0 hk1
    go_wp2_with fail
    clear hx2 hx3 hy2 hy3
    refine (HF2.out w4).mono ?_
    rintro e w5 ⟨rfl, b5⟩
    have B5 := B4.trans (b5.mono B4.size)
    clear B4 b5 HF2
    go_wp2_with fail
    refine (HT91.out w5).mono ?_
    rintro e w6 ⟨rfl, b6⟩
    have B6 := B5.trans (b6.mono B5.size)
    clear B5 b6 HT91
    go_wp2_with fail
    refine (HER.out w6).mono ?_
    rintro e w7 ⟨rfl, b7⟩
    have B7 := B6.trans (b7.mono B6.size)
    clear B6 b7 HER
    go_wp2_with fail
    refine (HDS.out w7).mono ?_
    rintro e w8 ⟨rfl, b8⟩
    have B8 := B7.trans (b8.mono B7.size)
    clear B7 b8 HDS
    generalize erasedB = t3 at *
    generalize destB = t4 at *
    have hro := Rw.new w8 9 #[.string t1, .string t2, .string t3, .string t4]
    have RO := Lib.hid hro
    have HL4 : Hid (∀ k, k < 4 → ∃ T, (#[Value.string t1, Value.string t2, Value.string t3, Value.string t4] : Array Value)[k]? = some (.string T) ∧ Shut T) := Lib.hid (fun k hk => by
      have : k = 0 ∨ k = 1 ∨ k = 2 ∨ k = 3 := by omega
      rcases this with rfl | rfl | rfl | rfl
      · exact ⟨_, rfl, S1.out⟩
      · exact ⟨_, rfl, S2.out⟩
      · exact ⟨_, rfl, HS3.out⟩
      · exact ⟨_, rfl, HS4.out⟩)
    have hq := str_same (rfl : R = R)
    have hz8 := B8.size
    have BB := Lib.hid (B8.alloc B8.size (.cells #[.string t1, .string t2, .string t3, .string t4] 9))
    obtain ⟨g, hg⟩ : ∃ g, g = w8.heap.size := ⟨_, rfl⟩
    have HG := Lib.hid hg
    rw [← hg] at RO
    clear hro S1 S2 HS3 HS4 B8 hg
    go_wp2
    go_loopw [15] (fun j wr => ∃ (k : Nat), k ≤ 4 ∧ j = .int .i64 k ∧ Hid (Rw wr g 9 #[.string t1, .string t2, .string t3, .string t4]) ∧ Hid (Below w.heap.size w wr)) (fun j _ => 4 - (intOf j).toNat)
    case atStart => exact ⟨0, by omega, rfl, RO, BB⟩
    case round =>
      clear RO BB
      obtain ⟨k, hk, rfl, RO, BB⟩ := hrel
      by_cases hlt : k < 4
      · have hki : (k : Int) < 4 := by omega
        obtain ⟨T, hT4, hSh⟩ := HL4.out k hlt
        have hcell := (RO.out.cell k).trans hT4
        have HO := Lib.hid (fun (W : World) (p : Int) (hp : 0 ≤ p ∧ p ≤ 65534) (hT : MaskTab W) => HOP.out T hSh p hp W hT)
        clear hT4 hSh
        rw [HG.out] at hcell
        have HTr := Lib.hid (HT.out.below BB.out (Nat.le_refl _))
        have hz := BB.out.size
        go_wp2_with fail
        have hlt8 : w8.heap.size < wr.heap.size := by have := RO.out.lt; rw [HG.out] at this; exact this
        have HCELL := Lib.hid hcell
        go_region_held3 (fun W => Below w.heap.size w W ∧ W.cell? ⟨w8.heap.size, k, none⟩ = some (.string T))
          (first
            | exact ⟨BB.out.drew, HCELL.out⟩
            | exact ⟨BB.out.drew.trans (hb1.mono hz), (hb1.cell (p := ⟨w8.heap.size, k, none⟩) hlt8).trans HCELL.out⟩)
          (first
            | (go_at_call 7
               refine (HA.out wr.drew BB.out.drew 0 200 (by omega) (by omega) (by omega)).mono ?_
               rintro e w' ⟨p, rfl, hp0, hp1, rfl⟩)
            | (go_at_call 11
               refine (HO.out wr.drew p ⟨hp0, by omega⟩ (show MaskTab wr.drew from HTr.out)).mono ?_
               rintro e w1 ⟨rfl, hb1⟩
               have hr1 := Rw.below (show Rw wr.drew g _ _ from RO.out) hb1 RO.out.lt))
        rename_i hS1
        go_wp2
        go_roundw
        case rel => exact ⟨k + 1, by omega, by go_num, Lib.hid hr1, Lib.hid hS1.1⟩
        case measure => simp [intOf]; omega
      · obtain rfl : k = 4 := by omega
        go_wp2
        go_ret
        exact ⟨rfl, BB.out⟩
  · go_enter Tryd.func4, Tryd.ntmps4
    go_wp2_with (go_at_call 5; refine (long_yes _ _ _ _ _ _ _ b0 b1 hl).mono ?_; rintro e w' ⟨rfl, rfl⟩)
    go_ret
    exact ⟨rfl, Below.refl _ _⟩
end Go.Proofs.YthenilomgbnpeaaDoor
