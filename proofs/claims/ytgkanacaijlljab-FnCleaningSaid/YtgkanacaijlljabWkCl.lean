/- The law FnCleaning, walked: every call by its contract. -/
import Derived.Test.YtgkanacaijlljabProg
import Derived.Test.YtgkanacaijlljabC2
import Derived.Test.YtgkanacaijlljabDrGr
import Derived.Test.YtgkanacaijlljabClN
import Derived.Test.YtgkanacaijlljabStG
import Derived.Test.YtgkanacaijlljabStR
import Derived.Test.YtgkanacaijlljabStP
import Derived.Deep.RegionHeld3
import Derived.Deep.QuietTactic
namespace Go.Proofs.Ytgkanacaijlljab
open Go.RowKit
set_option linter.unusedVariables false
set_option linter.unusedSimpArgs false
set_option maxHeartbeats 8000000 in
set_option maxRecDepth 100000 in
theorem wkCl (a0 : Option Addr) (len0 cap0 : Nat) (z0 : List Int) (w : World) (w0 : IsRow .u8 w a0 len0 cap0 z0) :
    Calls Try.prog 7 #[.slice a0 len0 cap0] w fun e w' => e = .returned (.bool true) ∧ Below w.heap.size w w' := by
  have b0 := w0.len
  by_cases hl : len0 ≤ 1048576
  case neg =>
    have HL := Lib.hid (big_yes a0 none len0 cap0 0 0 w b0 (by omega) (fun e => hl e.1))
    clear w0 b0 hl
    go_enter Try.func7, Try.ntmps7
    go_wp2_with fail
    refine HL.out.mono ?_
    rintro e w' ⟨rfl, rfl⟩
    go_wp2
    go_ret
    exact ⟨rfl, Below.refl _ _⟩
  have hc0 := w0.code hl
  have HL := Lib.hid (big_no a0 none len0 cap0 0 0 w hl (by omega))
  have HD := Lib.hid (drawGr_any _ w hc0)
  clear w0 hc0 b0 hl
  go_enter Try.func7, Try.ntmps7
  go_wp2_with fail
  refine HL.out.mono ?_
  rintro e w' ⟨rfl, rfl⟩
  go_wp2_with fail
  refine HD.out.mono ?_
  rintro e w1 ⟨u, L, p, rfl, hI, hlen, b1⟩
  have B1 := Lib.hid b1
  obtain ⟨r, hr⟩ := prop_dec' (StsOk L p)
  obtain ⟨v, hv⟩ : ∃ v, v = pickV L r p 1 := ⟨_, rfl⟩
  obtain ⟨x, hx⟩ : ∃ x, x = pickV L r p 2 := ⟨_, rfl⟩
  have HR := Lib.hid hr
  have HVV := Lib.hid hv
  have HXX := Lib.hid hx
  have HLN := Lib.hid hlen
  have HI := Lib.hid (fun (W : World) (b : Below w1.heap.size w1 W) => And.intro (VI.below hI b (Nat.le_refl _)) b.size)
  obtain ⟨A, cap, rfl⟩ := hI.slice
  have HEL := Lib.hid (fun (W : World) (b : Below w1.heap.size w1 W) => (VI.below hI b (Nat.le_refl _)).elem stF_len St.zero)
  have HIG := Lib.hid (fun (W : World) (b : Below w1.heap.size w1 W) => implGreedy_any _ L p r v W _ (HI.out W b).1 (HI.out W b).2 HR.out HVV.out (by have := HLN.out; omega))
  have HIC := Lib.hid (fun (W : World) (b : Below w1.heap.size w1 W) => implCost_any _ L p r x W _ (HI.out W b).1 (HI.out W b).2 HR.out HXX.out (by have := HLN.out; omega))
  have HSG := Lib.hid (fun (W : World) (b : Below w1.heap.size w1 W) => specGreedy_any _ L p r v W _ (HI.out W b).1 (HI.out W b).2 HR.out HVV.out (by have := HLN.out; omega))
  have HSC := Lib.hid (fun (W : World) (b : Below w1.heap.size w1 W) => specCost_any _ L p r x W _ (HI.out W b).1 (HI.out W b).2 HR.out HXX.out (by have := HLN.out; omega))
  have HAV := Lib.hid (fun (W : World) (b : Below w1.heap.size w1 W) => implAvg_any _ L p r _ _ W _ (HI.out W b).1 (HI.out W b).2 HR.out rfl rfl (by have := HLN.out; omega))
  have HGA := Lib.hid (fun (W : World) (b : Below w1.heap.size w1 W) => implGain_any _ L p v r _ W _ (HI.out W b).1 (HI.out W b).2 HR.out rfl (by have := HLN.out; omega))
  have HSIG := Lib.hid (show decide (v < 0) = decide (x < 0) by
    rw [HVV.out, HXX.out]
    unfold pickV
    by_cases e : r = true
    · rw [if_pos ⟨e, by omega, by omega⟩, if_pos ⟨e, by omega, by omega⟩]; exact best_sign _
    · rw [if_neg (fun q => e q.1), if_neg (fun q => e q.1)])
  have hvv : (v != v) = false := by simp
  have hxx : (x != x) = false := by simp
  have Z0 := Lib.hid (Below.refl w1.heap.size w1)
  clear hI hlen b1 hr hv hx HL HD
  go_wp2_with fail
  refine (HIG.out _ Z0.out).mono ?_
  rintro e w2 ⟨rfl, q⟩
  have Z2 := Lib.hid (Z0.out.trans (q.mono (Nat.le_refl _)))
  clear q Z0 HIG
  go_wp2_with fail
  refine (HIC.out _ Z2.out).mono ?_
  rintro e w3 ⟨rfl, q⟩
  have Z3 := Lib.hid (Z2.out.trans (q.mono Z2.out.size))
  clear q Z2 HIC
  go_wp2_with fail
  refine (HSG.out _ Z3.out).mono ?_
  rintro e w4 ⟨rfl, q⟩
  have Z4 := Lib.hid (Z3.out.trans (q.mono Z3.out.size))
  clear q Z3 HSG
  go_wp2_with fail
  refine (HSC.out _ Z4.out).mono ?_
  rintro e w5 ⟨rfl, q⟩
  have Z5 := Lib.hid (Z4.out.trans (q.mono Z4.out.size))
  clear q Z4 HSC
  by_cases h0 : v < 0
  · have d0 : decide (v < 0) = true := by simpa using h0
    have d1 : decide (x < 0) = true := by rw [← HSIG.out]; exact d0
    clear h0
    go_wp2
    go_ret
    exact ⟨rfl, B1.out.trans (Z5.out.mono B1.out.size)⟩
  have d0 : decide (v < 0) = false := by simpa using h0
  have d1 : decide (x < 0) = false := by rw [← HSIG.out]; exact d0
  have hrt : r = true := by
    by_cases e : r = true
    · exact e
    · exact absurd (HVV.out.trans (by unfold pickV; rw [if_neg (fun q => e q.1)])) (by omega)
  subst hrt
  have hok := HR.out.1 rfl
  obtain ⟨j, rfl⟩ : ∃ j : Nat, v = j := ⟨v.toNat, by omega⟩
  have hbt : bestTo L 1 p L.length = (j : Int) := by have := HVV.out; unfold pickV at this; rw [if_pos ⟨rfl, by omega, by omega⟩] at this; exact this.symm
  obtain ⟨hca, hjn, _⟩ := best_min (L := L) (p := p) L.length (by rw [hbt]; omega)
  have hall := fun (i : Nat) (hi : i < L.length) (hu : (L.getD i St.zero).u = true) => best_all hok (by rw [hbt]; omega) i hi hu
  rw [hbt, Int.toNat_natCast] at hjn hca hall
  have hsum := sum_ge (L := L) (m := (L.getD j St.zero).l) L.length hall
  obtain ⟨hp, _, hst⟩ := hok
  have hbd := sumU_bd hp.2 L.length hst
  have hsj := hst j hjn
  unfold StOk at hsj
  have hcl := HLN.out
  obtain ⟨n, hn⟩ : ∃ n, n = L.length := ⟨_, rfl⟩
  have hlv : liveV L true = sumU L n := by rw [hn]; rfl
  have huv : usedV L true = cntU L n := by rw [hn]; rfl
  have hgv : gainV L true p (j : Int) = p - (L.getD j St.zero).l := by unfold gainV; rw [if_pos ⟨rfl, by omega, by omega⟩, Int.toNat_natCast]
  rw [hlv, huv] at HAV
  rw [hgv] at HGA
  rw [← hn] at hjn hall hsum hbd hcl HEL HAV HGA ⊢
  have HAL := Lib.hid hall
  obtain ⟨s, hs⟩ : ∃ s, s = sumU L n := ⟨_, rfl⟩
  obtain ⟨c, hc⟩ : ∃ c, c = cntU L n := ⟨_, rfl⟩
  rw [← hs] at hsum hbd HAV
  rw [← hc] at hsum hbd HAV
  have hE := fun (W : World) (b : Below w1.heap.size w1 W) => (HEL.out W b).2.2 (by omega)
  obtain ⟨pb, po, rfl, hpb, -⟩ := hE w1 (Below.refl _ _)
  have HCE := Lib.hid (fun (W : World) (b : Below w1.heap.size w1 W) (i : Nat) (hi : i < n) => show W.cell? ⟨pb, po + i * 3, none⟩ = some (.int .i64 (L.getD i St.zero).l) ∧ W.cell? ⟨pb, po + i * 3 + 2, none⟩ = some (.bool (L.getD i St.zero).u) from by
    obtain ⟨pb', po', e, _, hx⟩ := hE W b
    injection e with e
    injection e with e1 e2
    subst e1 e2
    have x0 := hx i hi 0 (by omega)
    have x2 := hx i hi 2 (by omega)
    simp only [stF, List.getElem?_cons_zero, List.getElem?_cons_succ, Nat.add_zero, ← Nat.add_assoc] at x0 x2
    exact ⟨x0, x2⟩)
  obtain ⟨m, hm⟩ : ∃ m, m = (L.getD j St.zero).l := ⟨_, rfl⟩
  rw [← hm] at hsum hsj HGA HAL
  have HM := Lib.hid hm
  have HJ := Lib.hid hjn
  have hmc : 0 ≤ m * c ∧ m * c ≤ s := ⟨Int.mul_nonneg hsj.1.1 hbd.2.1, hsum⟩
  have hw1 : IntKind.i64.wrap (m * c) = m * c := IntWalk.i64_in _ (by omega)
  have hw2 : IntKind.i64.wrap (p - m) = p - m := IntWalk.i64_in _ (by omega)
  have dle : decide (m * c ≤ s) = true := by simpa using hsum
  have hpm : (p - m == p - m) = true := by simp
  have hnm : (n : Int) ≤ 9 := by omega
  have hji : (j : Int) < (n : Int) := by omega
  clear hE hall hsum hbd hst hsj hca hlv huv hgv hs hc hm hn hbt h0 hmc hp hcl HEL HVV HXX HR HI HSIG hjn
  go_wp2_with fail
  with_reducible refine (HAV.out _ Z5.out).mono ?_
  rintro e w6 ⟨rfl, q⟩
  have Z6 := Lib.hid (Z5.out.trans (q.mono Z5.out.size))
  clear q Z5 HAV
  go_wp2
  go_loopw [9] (fun i wr => ∃ k : Nat, k ≤ n ∧ i = .int .i64 k ∧ Hid (Below w1.heap.size w1 wr)) (fun i _ => n - (intOf i).toNat)
  case atStart => exact ⟨0, by omega, rfl, Z6⟩
  case round =>
    obtain ⟨k, hk, rfl, ZR⟩ := hrel
    have x0 := (HCE.out _ ZR.out j HJ.out).1
    rw [← HM.out] at x0
    by_cases hlt : k < n
    · have hki : (k : Int) < (n : Int) := by omega
      have y0 := (HCE.out _ ZR.out k hlt).1
      have y2 := (HCE.out _ ZR.out k hlt).2
      have HU := Lib.hid (HAL.out k hlt)
      generalize (L.getD k St.zero).l = t at *
      cases hu : (L.getD k St.zero).u with
      | false =>
        rw [hu] at y2
        clear HU hu
        go_wp2_with fail
        go_quiet (fail)
        go_wp2
        go_roundw
        case rel => exact ⟨k + 1, by omega, by go_num, Lib.hid ⟨ZR.out.os, ZR.out.tape, ZR.out.output, ZR.out.size, ZR.out.block⟩⟩
        case measure => simp [intOf]; omega
      | true =>
        rw [hu] at y2
        have dl : decide (t < m) = false := by have := HU.out hu; simp; omega
        clear HU hu
        go_wp2_with fail
        go_quiet (fail)
        go_wp2
        go_roundw
        case rel => exact ⟨k + 1, by omega, by go_num, Lib.hid ⟨ZR.out.os, ZR.out.tape, ZR.out.output, ZR.out.size, ZR.out.block⟩⟩
        case measure => simp [intOf]; omega
    · obtain rfl : k = n := by omega
      go_wp2_with fail
      have HK := Lib.hid (fun (W : World) (b : Below w1.heap.size w1 W) => show W.cell? ⟨pb, po + j * 3, none⟩ = some (.int .i64 m) from by rw [HM.out]; exact (HCE.out W b j HJ.out).1)
      have ZD := ZR.out.drew
      have k0 := HK.out _ ZD
      go_region_held3 (fun W => W.cell? ⟨pb, po + j * 3, none⟩ = some (.int .i64 m))
        (first
          | with_reducible exact HK.out _ ZD
          | with_reducible exact HK.out _ ZE.out)
        (first
          | (go_at_call 41
             with_reducible refine (HGA.out _ ZD).mono ?_
             rintro e w7 ⟨rfl, q⟩
             have ZE := Lib.hid (ZD.trans (q.mono ZD.size))))
      all_goals (
        go_wp2
        go_ret
        exact ⟨rfl, B1.out.trans (ZE.out.mono B1.out.size)⟩)
end Go.Proofs.Ytgkanacaijlljab
