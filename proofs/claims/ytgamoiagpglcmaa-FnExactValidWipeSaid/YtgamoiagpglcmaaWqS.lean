/- IsWiped, ValidWipe, in the model: the contracts. -/
import Derived.Test.YtgamoiagpglcmaaProg
import Derived.Test.YtgamoiagpglcmaaFlW
import Derived.Test.YtgamoiagpglcmaaWqN
import Derived.Test.YtgamoiagpglcmaaWpM
import Derived.Test.YtgamoiagpglcmaaEqI
import Derived.Test.YtgamoiagpglcmaaTbS
import Derived.Test.YtgamoiagpglcmaaLu
import Derived.Deep.RegionLaw
import Derived.StillTailTactics
namespace Go.Proofs.Ytgamoiagpglcmaa
open Go.RowKit
set_option linter.unusedVariables false
set_option linter.unusedSimpArgs false

theorem specEx_any (d b p fu ke op bk : Int) (off q : Bool) (A : Option Addr) (n cap : Nat) (w : World) (hn : n ≤ 1048576) (hq : q = true ↔ (0 ≤ bk ∧ bk < (n : Int))) :
    Calls Try.prog 124 #[.agg #[.int .i64 d, .int .i64 b, .int .i64 p, .slice A n cap, .int .i64 fu, .int .i64 ke, .bool off, .int .i64 op], .int .i64 bk] w fun e w' => e = .returned (.bool q) ∧ Below w.heap.size w w' := by
  have r0 := Rw.new w 79 #[.int .i64 d, .int .i64 b, .int .i64 p, .slice A n cap, .int .i64 fu, .int .i64 ke, .bool off, .int .i64 op]
  have B0 := Lib.hid ((Below.refl w.heap.size w).alloc (Nat.le_refl _) (.cells #[.int .i64 d, .int .i64 b, .int .i64 p, .slice A n cap, .int .i64 fu, .int .i64 ke, .bool off, .int .i64 op] 79))
  obtain ⟨c0, c1, c2, c3, c4, c5, c6, c7⟩ := r0.eight
  have hnm : (n : Int) ≤ 1048576 := by omega
  have HI : Hid (∀ (W : World), Calls Try.prog 83 #[.int .i64 bk, .int .i64 0, .int .i64 ((n : Int) - 1)] W fun e w' => e = .returned (.bool q) ∧ W = w') := Lib.hid (fun W => by
    by_cases h : 0 ≤ bk ∧ bk ≤ (n : Int) - 1
    · obtain rfl : q = true := hq.2 (by omega)
      exact inr_yes bk 0 ((n : Int) - 1) W h.1 h.2
    · obtain rfl : q = false := not_true hq (by omega)
      exact inr_no bk 0 ((n : Int) - 1) W h)
  clear r0 hq
  go_enter Try.func124, Try.ntmps124
  go_wp2_with fail
  refine (HI.out _).mono ?_
  rintro e w1 ⟨rfl, rfl⟩
  go_wp2
  go_ret
  exact ⟨rfl, B0.out⟩
set_option maxHeartbeats 4000000 in
set_option maxRecDepth 100000 in
theorem specIw_any (v : Value) (F : Fl) (bk : Int) (r q : Bool) (w : World) (hi : Nat) (h : FlIn w 0 hi v F) (hh : hi ≤ w.heap.size) (hr : r = true ↔ FlOk F) (hq : q = true ↔ WipedIs F r bk) (hl : FlLen F) :
    Calls Try.prog 56 #[v, .int .i64 bk] w fun e w' => e = .returned (.bool q) ∧ Below w.heap.size w w' := by
  have HV := Lib.hid (fun (W : World) (b : Below w.heap.size w W) => specValid_any v F r W 0 hi (h.same (sm b 0 hh)) (Nat.le_trans hh b.size) hr hl)
  obtain ⟨u, rfl, hb⟩ := h
  obtain ⟨A, n, cap, rfl, hlc, hcm, hlen, hA⟩ := hb
  have hl1 := hl.1
  rw [hlen] at hl1
  have hnm : (n : Int) ≤ 1048576 := by omega
  have HPG := Lib.hid (fun (e : r = true) => fun (i : Nat) (hi : i < n) (h0 : (F.blk i).nx = 0) => wiped_pages (hr.1 e) (i := i) (by rw [hlen]; exact hi) h0)
  have HLP := Lib.hid (fun (i : Nat) (hi : i < n) => hl.2 i (by rw [hlen]; exact hi))
  have HQ := Lib.hid (show q = true ↔ r = true ∧ (0 ≤ bk ∧ bk < (n : Int)) ∧ (F.blk bk.toNat).nx = 0 by rw [hq, WipedIs, Exists_, hlen])
  obtain ⟨B, hB⟩ : ∃ B, B = F.blk := ⟨_, rfl⟩
  have hA' : 0 < n → ∃ g off, A = some ⟨g, off, none⟩ ∧ 0 ≤ g ∧ g < hi ∧ ∀ i, i < n → ∃ pv, BkAt w g (off + i * 4) (B i) pv ∧ PgIn w 0 hi pv (B i).pg := by rw [hB]; exact hA
  rw [← hB] at HPG HLP HQ
  obtain ⟨qe, hqe⟩ := prop_dec' (0 ≤ bk ∧ bk < (n : Int))
  obtain ⟨d, b, p, bs, fu, ke, off, op⟩ := F
  unfold flc at *
  simp only at *
  have HEX := Lib.hid (fun (W : World) => specEx_any d b p fu ke op bk off qe A n cap W hl1 hqe)
  have r0 := Rw.new w 79 #[.int .i64 d, .int .i64 b, .int .i64 p, .slice A n cap, .int .i64 fu, .int .i64 ke, .bool off, .int .i64 op]
  have b0 := (Below.refl w.heap.size w).alloc (Nat.le_refl _) (.cells #[.int .i64 d, .int .i64 b, .int .i64 p, .slice A n cap, .int .i64 fu, .int .i64 ke, .bool off, .int .i64 op] 79)
  have R0 := Lib.hid r0
  have B0 := Lib.hid b0
  obtain ⟨c0, c1, c2, c3, c4, c5, c6, c7⟩ := r0.eight
  have HA := Lib.hid hA'
  have HH := Lib.hid hh
  have HE := Lib.hid hqe
  clear hA hA' hh hr hl hl1 hlen r0 b0 hB hq hqe
  go_enter Try.func56, Try.ntmps56
  go_wp2_with fail
  refine (HV.out _ B0.out).mono ?_
  rintro e w1 ⟨rfl, b1⟩
  have B1 := Lib.hid (B0.out.trans (b1.mono (by simp)))
  have R1 := Lib.hid (R0.out.below b1 (by simp))
  clear b1 c0 c1 c2 c3 c4 c5 c6 c7 HV R0 B0
  obtain ⟨c0, c1, c2, c3, c4, c5, c6, c7⟩ := R1.out.eight
  cases r with
  | false =>
    have HG := Lib.hid (show q = false from not_true HQ.out (fun e => by cases e.1))
    clear HQ HPG HA HEX
    go_wp2
    go_ret
    exact ⟨ret_bool HG.out.symm, B1.out⟩
  | true =>
  go_wp2_with fail
  refine (HEX.out _).mono ?_
  rintro e w2 ⟨rfl, b2⟩
  have B2 := Lib.hid (B1.out.trans (b2.mono B1.out.size))
  have R2 := Lib.hid (R1.out.below b2 R1.out.lt)
  clear b2 c0 c1 c2 c3 c4 c5 c6 c7 HEX R1 B1
  obtain ⟨c0, c1, c2, c3, c4, c5, c6, c7⟩ := R2.out.eight
  cases qe with
  | false =>
    have HG := Lib.hid (show q = false from not_true HQ.out (fun e => by have := HE.out.2 e.2.1; cases this))
    clear HQ HPG HA
    go_wp2
    go_ret
    exact ⟨ret_bool HG.out.symm, B2.out⟩
  | true =>
  have hbk := HE.out.1 rfl
  obtain ⟨k, rfl⟩ : ∃ k : Nat, bk = (k : Int) := ⟨bk.toNat, by omega⟩
  have hki : (k : Int) < (n : Int) := hbk.2
  have hkn : k < n := by omega
  obtain ⟨g, o, rfl, _, hgl, hx⟩ := HA.out (by omega)
  obtain ⟨pv, ⟨e0, e1, e2, e3⟩, hp⟩ := hx k hkn
  obtain ⟨A2, m, cap2, rfl, _, _, hm, _, hpx⟩ := hp
  have hmm := HLP.out k hkn
  have HQ2 := Lib.hid (show q = true ↔ (B k).nx = 0 by
    rw [HQ.out, Int.toNat_natCast]
    exact ⟨fun e => e.2.2, fun e => ⟨by simp, hbk, e⟩⟩)
  have HPK := Lib.hid (HPG.out (by simp) k hkn)
  unfold Blk.at at HPK
  generalize B k = X at *
  rw [hm] at hmm HPK
  have hmi : (m : Int) ≤ 1048576 := by omega
  have f1 := (B2.out.cell (p := ⟨g, o + k * 4 + 1, none⟩) (by have := HH.out; show g < _; omega)).trans e1
  have f3 := (B2.out.cell (p := ⟨g, o + k * 4 + 3, none⟩) (by have := HH.out; show g < _; omega)).trans e3
  have HPX := Lib.hid hpx
  clear hx e0 e1 e2 e3 hpx hm hbk HQ HPG HA HE HLP
  by_cases hz : X.nx = 0
  case neg =>
    have HG := Lib.hid (show q = false from not_true HQ2.out hz)
    have d1 : (X.nx != 0) = true := by simpa using hz
    clear HQ2 hz HPK
    go_wp2
    go_ret
    exact ⟨ret_bool HG.out.symm, B2.out⟩
  have d1 : (X.nx != 0) = false := by simpa using hz
  have HG := Lib.hid (show q = true from HQ2.out.2 hz)
  have HPK2 := Lib.hid (fun (j : Nat) (hj : j < m) => HPK.out hz j hj)
  clear HQ2 hz HPK
  go_wp2
  go_loop [5] (fun i => ∃ j : Nat, j ≤ m ∧ i = .int .i64 (j : Int)) (fun i => m - (intOf i).toNat)
  case atStart => exact ⟨0, by omega, rfl⟩
  case round =>
    obtain ⟨j, hj, rfl⟩ := hrel
    by_cases hlt : j < m
    · have hji : (j : Int) < (m : Int) := by omega
      obtain ⟨g2, o2, rfl, _, hg2, hy⟩ := HPX.out (by omega)
      have f5 := (B2.out.cell (p := ⟨g2, o2 + j, none⟩) (by have := HH.out; show g2 < _; omega)).trans (hy j hlt)
      have hs0 := HPK2.out j hlt
      have he : X.pg.getD j ByteArray.empty = ByteArray.empty := ByteArray.size_eq_zero_iff.1 hs0
      rw [he] at f5
      clear hy hs0 he HPK2 HPX
      go_wp2
      go_round
      case rel => exact ⟨j + 1, by omega, by go_num⟩
      case measure => simp [intOf]; omega
    · obtain rfl : j = m := by omega
      go_wp2
      go_ret
      exact ⟨ret_bool HG.out.symm, B2.out⟩
set_option maxHeartbeats 4000000 in
set_option maxRecDepth 100000 in
theorem specVw_any (v z : Value) (F : Fl) (Z : Wp) (r q : Bool) (w : World) (hi hi2 : Nat) (h : FlIn w 0 hi v F) (hz : WpIn w hi2 z Z) (hh : hi ≤ w.heap.size) (hh2 : hi2 ≤ w.heap.size) (hr : r = true ↔ FlOk F) (hq : q = true ↔ VwIs F r Z) (hl : FlLen F) (hlz : WpSz Z) :
    Calls Try.prog 61 #[v, z] w fun e w' => e = .returned (.bool q) ∧ Below w.heap.size w w' := by
  have HV := Lib.hid (fun (W : World) (b : Below w.heap.size w W) => specValid_any v F r W 0 hi (h.same (sm b 0 hh)) (Nat.le_trans hh b.size) hr hl)
  obtain ⟨u, rfl, hb⟩ := h
  obtain ⟨A, n, cap, rfl, hlc, hcm, hlen, hA⟩ := hb
  have hl1 := hl.1
  rw [hlen] at hl1
  have hnm : (n : Int) ≤ 1048576 := by omega
  obtain ⟨a0, rfl, h1⟩ := hz
  obtain ⟨A2, m, cap2, rfl⟩ := h1.slice
  have hm : Z.b.length = m := h1.len_.1
  unfold WpSz at hlz
  obtain ⟨qr, hqr⟩ := prop_dec' (Rises Z.b (n : Int))
  obtain ⟨qd, hqd⟩ := prop_dec' (0 ≤ Z.d ∧ Z.d ≤ (m : Int))
  have HQ := Lib.hid (show q = (r && qr && qd) by
    rw [Bool.eq_iff_iff, hq, VwIs, hlen, hm]
    simp only [Bool.and_eq_true, hqr, hqd]
    exact ⟨fun ⟨a, b, c⟩ => ⟨⟨a, b⟩, c⟩, fun ⟨⟨a, b⟩, c⟩ => ⟨a, b, c⟩⟩)
  have HRS := Lib.hid (fun (W : World) (B : Below w.heap.size w W) => rises_any (.slice A2 m cap2) Z.b (n : Int) qr W hi2 (h1.below B hh2) (Nat.le_trans hh2 B.size) hqr hlz)
  have HI : Hid (∀ (W : World), Calls Try.prog 83 #[.int .i64 Z.d, .int .i64 0, .int .i64 (m : Int)] W fun e w' => e = .returned (.bool qd) ∧ W = w') := Lib.hid (fun W => by
    by_cases h : 0 ≤ Z.d ∧ Z.d ≤ (m : Int)
    · obtain rfl : qd = true := hqd.2 h
      exact inr_yes _ _ _ W h.1 h.2
    · obtain rfl : qd = false := not_true hqd h
      exact inr_no _ _ _ W h)
  obtain ⟨bl, dn⟩ := Z
  obtain ⟨d, b, p, bs, fu, ke, off, op⟩ := F
  unfold flc wpc at *
  simp only at *
  have hmi : (m : Int) ≤ 1048576 := by omega
  obtain ⟨r0, r1, b0⟩ := Rw.two_new w 79 87 #[.int .i64 d, .int .i64 b, .int .i64 p, .slice A n cap, .int .i64 fu, .int .i64 ke, .bool off, .int .i64 op] #[.slice A2 m cap2, .int .i64 dn]
  have R0 := Lib.hid r0
  have R1 := Lib.hid r1
  have B0 := Lib.hid b0
  obtain ⟨c0, c1, c2, c3, c4, c5, c6, c7⟩ := r0.eight
  obtain ⟨d0, d1⟩ := r1.two_
  have hz0 : ((w.alloc (.cells #[.int .i64 d, .int .i64 b, .int .i64 p, .slice A n cap, .int .i64 fu, .int .i64 ke, .bool off, .int .i64 op] 79)).alloc (.cells #[.slice A2 m cap2, .int .i64 dn] 87)).heap.size = w.heap.size + 2 := by simp
  clear hA hh hr hl hl1 hlen r0 r1 b0 hq hqr hqd h1 hm hlz hh2
  go_enter Try.func61, Try.ntmps61
  go_wp2_with fail
  refine (HV.out _ B0.out).mono ?_
  rintro e w1 ⟨rfl, b1⟩
  rw [hz0] at b1
  have B1 := Lib.hid (B0.out.trans (b1.mono (by omega)))
  have R01 := Lib.hid (R0.out.below b1 (by omega))
  have R11 := Lib.hid (R1.out.below b1 (by omega))
  clear b1 c0 c1 c2 c3 c4 c5 c6 c7 d0 d1 HV R0 R1 B0 hz0
  obtain ⟨c0, c1, c2, c3, c4, c5, c6, c7⟩ := R01.out.eight
  obtain ⟨d0, d1⟩ := R11.out.two_
  cases r with
  | false =>
    clear HRS HI
    go_wp2
    go_ret
    exact ⟨ret_bool (by rw [HQ.out]; rfl), B1.out⟩
  | true =>
  go_wp2_with fail
  refine (HRS.out _ B1.out).mono ?_
  rintro e w2 ⟨rfl, b2⟩
  have B2 := Lib.hid (B1.out.trans (b2.mono B1.out.size))
  have R02 := Lib.hid (R01.out.below b2 R01.out.lt)
  have R12 := Lib.hid (R11.out.below b2 R11.out.lt)
  clear b2 c0 c1 c2 c3 c4 c5 c6 c7 d0 d1 HRS R01 R11 B1
  obtain ⟨c0, c1, c2, c3, c4, c5, c6, c7⟩ := R02.out.eight
  obtain ⟨d0, d1⟩ := R12.out.two_
  cases qr with
  | false =>
    clear HI
    go_wp2
    go_ret
    exact ⟨ret_bool (by rw [HQ.out]; rfl), B2.out⟩
  | true =>
    go_wp2_with fail
    refine (HI.out _).mono ?_
    rintro e w3 ⟨rfl, rfl⟩
    go_wp2
    go_ret
    exact ⟨ret_bool (by rw [HQ.out]; simp), B2.out⟩
end Go.Proofs.Ytgamoiagpglcmaa
