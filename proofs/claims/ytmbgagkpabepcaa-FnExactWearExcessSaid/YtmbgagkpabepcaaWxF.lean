/- WearExcess, in the model: the contract. -/
import Derived.Test.YtmbgagkpabepcaaProg
import Derived.Test.YtmbgagkpabepcaaWxE
import Derived.Test.YtmbgagkpabepcaaWrT
import Derived.Test.YtmbgagkpabepcaaCxQm
import Derived.Deep.RegionLaw
import Derived.StillTailTactics
namespace Go.Proofs.Ytmbgagkpabepcaa
open Go.RowKit
set_option linter.unusedVariables false
set_option linter.unusedSimpArgs false

theorem gcL_len (er : List Int) (bad : List Bool) (k : Nat) : (gcL er bad k).length ≤ k := by unfold gcL; rw [cntL_length]; exact goodL_le bad k
/-- The best of the first counts, 0 of none. -/
def bestE (n : Nat) (s : Int) (L : List Int) : Int := if L = [] then 0 else exF n s (hiL L)
theorem bestE_snoc (n : Nat) (s : Int) (hn : 2 ≤ n) (L : List Int) (x : Int) : bestE n s (L ++ [x]) = max (bestE n s L) (exF n s x) := by
  have h0 := exF_nonneg n s x hn
  unfold bestE
  rw [if_neg (by simp), hiL_snoc]
  by_cases e : L = []
  · rw [if_pos e, if_pos e]; omega
  · rw [if_neg e, if_neg e, exF_max n s hn]
    congr 1
    split <;> omega
theorem bestE_bd (n : Nat) (s : Int) (hn : 2 ≤ n) (L : List Int) : 0 ≤ bestE n s L := by
  unfold bestE
  split
  · omega
  · exact exF_nonneg n s _ hn
theorem exF_le (n : Nat) (s x : Int) (hn : 2 ≤ n) (h0 : 0 ≤ s) (h1 : 0 ≤ x) (h2 : x ≤ 1000) (hN : n ≤ 1048576) : exF n s x ≤ 2000000000 := by
  have hp := prod_bd (n := n) h1 h2
  unfold exF
  exact Int.le_trans (Int.ediv_le_self _ (by omega)) (by omega)
set_option maxHeartbeats 4000000 in
set_option maxRecDepth 100000 in
theorem specExc_any (u v : Value) (er : List Int) (bad : List Bool) (r : Bool) (w : World) (hi : Nat) (hu : NI w hi u er) (hv : NB w hi v bad) (hh : hi ≤ w.heap.size) (hr : r = true ↔ CountsOk er) (h1 : er.length ≤ 1048576) (h2 : bad.length ≤ 1048576) :
    Calls Try.prog 34 #[u, v] w fun e w' => e = .returned (.int .i64 (exV (gcR er bad r))) ∧ Below w.heap.size w w' := by
  have HC := Lib.hid (fun (W : World) (b : Below w.heap.size w W) => specCounted_any u er r W hi (hu.below b hh) hr h1)
  have HGD := Lib.hid (fun (W : World) (b : Below w.heap.size w W) (k : Nat) (hk : k ≤ 1048576) => specGood_any v bad k W hi (hv.below b hh) h2 hk)
  obtain ⟨A, n, c, rfl, _, _, hn, hA⟩ := hu
  obtain ⟨A', m, c', rfl⟩ := hv.slice
  have hnm : (n : Int) ≤ 1048576 := by omega
  have HR := Lib.hid hr
  have HA := Lib.hid hA
  have HH := Lib.hid hh
  have HN := Lib.hid hn
  obtain ⟨y, hy⟩ : ∃ y, y = exV (gcR er bad r) := ⟨_, rfl⟩
  have HY := Lib.hid hy
  have B0 := Lib.hid (Below.refl w.heap.size w)
  rw [← hy]
  clear hA hr hh hn h1 h2 hv hy
  go_enter Try.func34, Try.ntmps34
  go_wp2_with fail
  refine (HC.out _ B0.out).mono ?_
  rintro e w1 ⟨rfl, rfl⟩
  cases r with
  | false =>
    have HG := Lib.hid (show y = 0 by rw [HY.out]; rfl)
    clear HY HR HA HC HGD
    go_wp2
    go_ret
    exact ⟨ret_int HG.out.symm, B0.out⟩
  | true =>
  have HOK := Lib.hid (HR.out.1 rfl)
  have HYV := Lib.hid (show y = exV (gcL er bad n) by rw [HY.out, gcR, if_pos rfl, HN.out])
  have HL := Lib.hid (fun (k : Nat) => gcL_len er bad k)
  have HIN := Lib.hid (fun (k : Nat) (hk : k ≤ n) => gcL_in (bad := bad) HOK.out k (by rw [HN.out]; exact hk))
  have HBD := Lib.hid (fun (k : Nat) => show bad.getD k false = true → gcL er bad (k + 1) = gcL er bad k from fun h => gcL_bad h)
  have HGO := Lib.hid (fun (k : Nat) => show bad.getD k false = false → gcL er bad (k + 1) = gcL er bad k ++ [er.getD k 0] from fun h => gcL_good (by rw [h]; decide))
  obtain ⟨G, hG⟩ : ∃ G, G = gcL er bad := ⟨_, rfl⟩
  have HG0 := Lib.hid (show G 0 = [] by rw [hG]; rfl)
  rw [← hG] at HYV HL HIN HBD HGO
  clear hG HR HC HY
  go_wp2
  go_loopw [5, 6, 7] (fun s q i wr => ∃ k l : Nat, ∃ z : Int, k ≤ n ∧ l ≤ k ∧ i = .int .i64 k ∧ q = .int .i64 (l : Int) ∧ s = .int .i64 z ∧ 0 ≤ z ∧ z ≤ 1000 * (l : Int) ∧ Hid (z = smK (G k) (G k).length) ∧ Hid (l = (G k).length) ∧ Hid (Below w.heap.size w wr)) (fun _ _ i _ => n - (intOf i).toNat)
  case atStart => exact ⟨0, 0, 0, by omega, by omega, rfl, rfl, rfl, by omega, by omega, Lib.hid (by rw [HG0.out]; rfl), Lib.hid (by rw [HG0.out]; rfl), B0⟩
  case round =>
    obtain ⟨k, l, z, hk, hlk, rfl, rfl, rfl, hz0, hz1, HZ, HLL, HB⟩ := hrel
    by_cases hlt : k < n
    · have hki : (k : Int) < (n : Int) := by omega
      have HGK := Lib.hid (HGD.out wr HB.out k (by omega))
      have hBD := HBD.out k
      have hGO := HGO.out k
      have hin := HOK.out k (by rw [HN.out]; exact hlt)
      obtain ⟨pb, po, rfl, hp2, hpx⟩ := HA.out (by omega)
      have e1 := (HB.out.cell (p := ⟨pb, po + k, none⟩) (by have := HH.out; show pb < _; omega)).trans (hpx k hlt)
      cases hb : bad.getD k false with
      | true =>
        rw [hb] at HGK
        have HX := Lib.hid (hBD hb)
        clear hBD hGO hpx hp2 HA hb HGD HBD HGO
        go_wp2_with fail
        refine HGK.out.mono ?_
        rintro e w2 ⟨rfl, rfl⟩
        go_wp2
        go_roundw
        case rel => exact ⟨k + 1, l, z, by omega, by omega, by go_num, rfl, rfl, hz0, hz1, by rw [HX.out]; exact HZ, by rw [HX.out]; exact HLL, HB⟩
        case measure => simp [intOf]; omega
      | false =>
        rw [hb] at HGK
        have HX := Lib.hid (hGO hb)
        have HZ1 := Lib.hid (show z + er.getD k 0 = smK (G (k + 1)) (G (k + 1)).length by rw [HX.out, smK_snoc, ← HZ.out])
        have HL1 := Lib.hid (show l + 1 = (G (k + 1)).length by rw [HX.out, List.length_append, ← HLL.out]; rfl)
        generalize er.getD k 0 = x at *
        clear hBD hGO hpx hp2 HA hb HGD HBD HGO HX
        go_wp2_with fail
        refine HGK.out.mono ?_
        rintro e w2 ⟨rfl, rfl⟩
        go_wp2
        go_roundw
        case rel => exact ⟨k + 1, l + 1, z + x, by omega, by omega, by go_num, by go_num, by go_num, by omega, by omega, HZ1, HL1, HB⟩
        case measure => simp [intOf]; omega
    · obtain rfl : k = n := by omega
      by_cases h2 : 2 ≤ l
      case neg =>
        have HG := Lib.hid (show y = 0 by rw [HYV.out, exV, if_pos (by rw [← HLL.out]; omega)])
        have d0 : decide ((l : Int) < 2) = true := by simp; omega
        clear HYV HA HGD HBD HGO HL HIN HOK
        go_wp2
        go_ret
        exact ⟨ret_int HG.out.symm, HB.out⟩
      have d0 : decide ((l : Int) < 2) = false := by simp; omega
      have HYE := Lib.hid (show y = bestE l z (G k) by
        rw [HYV.out, exV, if_neg (by rw [← HLL.out]; omega), bestE, if_neg (by intro e; have := HLL.out; rw [e] at this; simp at this; omega), ← HLL.out, HZ.out, ← HLL.out])
      clear HYV HZ HLL HL HIN
      go_wp2
      go_loopw [8, 9, 10] (fun s i _ wr' => ∃ j : Nat, ∃ b : Int, j ≤ k ∧ i = .int .i64 j ∧ s = .int .i64 b ∧ 0 ≤ b ∧ b ≤ 2000000000 ∧ Hid (b = bestE l z (G j)) ∧ Hid (Below w.heap.size w wr')) (fun _ i _ _ => k - (intOf i).toNat)
      case atStart => exact ⟨0, 0, by omega, rfl, rfl, by omega, by omega, Lib.hid (by rw [HG0.out]; rfl), HB⟩
      case round =>
        obtain ⟨j, b, hj, rfl, rfl, hb0, hb1, HBE, HB2⟩ := hrel
        by_cases hlt2 : j < k
        · have hki : (j : Int) < (k : Int) := by omega
          have HGK := Lib.hid (fun (W : World) (B : Below w.heap.size w W) => HGD.out W B j (by omega))
          have hBD := HBD.out j
          have hGO := HGO.out j
          have hin := HOK.out j (by rw [HN.out]; exact hlt2)
          obtain ⟨pb, po, rfl, hp2, hpx⟩ := HA.out (by omega)
          have e1 := (HB2.out.cell (p := ⟨pb, po + j, none⟩) (by have := HH.out; show pb < _; omega)).trans (hpx j hlt2)
          have HSN := Lib.hid (fun (h : bad.getD j false = false) => show bestE l z (G (j + 1)) = max b (exF l z (er.getD j 0)) by rw [hGO h, bestE_snoc l z h2, ← HBE.out])
          have HSB := Lib.hid (fun (h : bad.getD j false = true) => show bestE l z (G (j + 1)) = b by rw [hBD h, ← HBE.out])
          generalize er.getD j 0 = x at *
          obtain ⟨P, hP⟩ : ∃ P, P = x * ((l : Int) - 1) := ⟨_, rfl⟩
          have hp := prod_bd (n := l - 1) hin.1 hin.2
          rw [show ((l - 1 : Nat) : Int) = (l : Int) - 1 by omega, ← hP] at hp
          have hPl : x * (l : Int) = P + x := by rw [hP, Int.mul_sub, Int.mul_one]; omega
          have hw : IntKind.i64.wrap (x * ((l : Int) - 1)) = P := by rw [← hP]; exact IntWalk.i64_in _ (by omega)
          have hw' : wrap64 (x * ((l : Int) - 1)) = P := by rw [← hP]; exact IntWalk.wrap64_in _ (by omega)
          obtain ⟨N, hN⟩ : ∃ N, N = P - (z - x) := ⟨_, rfl⟩
          have HEF := Lib.hid (show exF l z x = (max N 0 + ((l : Int) - 1) - 1) / ((l : Int) - 1) by rw [exF, hPl, hN]; congr 3; omega)
          have HEL := Lib.hid (exF_le l z x h2 hz0 hin.1 hin.2 (by omega))
          have hNb : -4000000000 ≤ N ∧ N ≤ 4000000000 := by omega
          have HN2 := Lib.hid hN
          cases hbd : bad.getD j false with
          | true =>
            rw [hbd] at HGK
            simp only [Bool.not_true, Bool.not_false] at HGK
            have HX := Lib.hid (HSB.out hbd)
            clear hBD hGO hpx hp2 HA hbd HGD HBD HGO HSN HSB hP hPl HEF HEL hN
            go_wp2_with fail
            go_quiet (fail)
            go_wp2_with fail
            refine (HGK.out _ (below_drewN HB2.out _)).mono ?_
            rintro e w2 ⟨rfl, rfl⟩
            go_wp2
            go_roundw
            case rel => exact ⟨j + 1, b, by omega, by go_num, rfl, hb0, hb1, Lib.hid HX.out.symm, Lib.hid (below_drewN HB2.out _)⟩
            case measure => simp [intOf]; omega
          | false =>
            rw [hbd] at HGK
            simp only [Bool.not_true, Bool.not_false] at HGK
            have HX := Lib.hid (HSN.out hbd)
            clear hBD hGO hpx hp2 HA hbd HGD HBD HGO HSN HSB hP hPl
            by_cases hpos : 0 < N
            · have hgt : P - (z - x) > 0 := by omega
              have hgt2 : 0 < P - (z - x) := by omega
              have hgt3 : ¬ (P - (z - x) ≤ 0) := by omega
              have hd : decide (P - (z - x) > 0) = true := by simp; omega
              have hd' : decide (0 < P - (z - x)) = true := by simp; omega
              obtain ⟨Q, hQ⟩ : ∃ Q, Q = (N + (l : Int) - 2) / ((l : Int) - 1) := ⟨_, rfl⟩
              have HQ := Lib.hid (show exF l z x = Q by rw [HEF.out, hQ, show max N 0 = N by omega]; congr 1; omega)
              have hq0 : 0 ≤ Q := by rw [hQ]; exact Int.ediv_nonneg (by omega) (by omega)
              have hq1 : Q ≤ 2000000000 := by rw [← HQ.out]; exact HEL.out
              have hdiv : (P - (z - x) + (l : Int) - 2).tdiv ((l : Int) - 1) = (P - (z - x) + (l : Int) - 2) / ((l : Int) - 1) := Int.tdiv_eq_ediv_of_nonneg (by omega)
              have hqe : (P - (z - x) + (l : Int) - 2) / ((l : Int) - 1) = Q := by rw [hQ, hN]
              have hw2 : IntKind.i64.wrap ((P - (z - x) + (l : Int) - 2).tdiv ((l : Int) - 1)) = (P - (z - x) + (l : Int) - 2) / ((l : Int) - 1) := by rw [hdiv, hqe]; exact IntWalk.i64_in _ (by omega)
              clear hqe
              have hne : ((l : Int) - 1 == 0) = false := by simp; omega
              have hne2 : (l : Int) - 1 ≠ 0 := by omega
              obtain ⟨b2, hb2⟩ : ∃ b2, b2 = max b Q := ⟨_, rfl⟩
              have HB2V := Lib.hid (show b2 = bestE l z (G (j + 1)) by rw [HX.out, HQ.out]; exact hb2)
              have hb20 : 0 ≤ b2 := by omega
              have hb21 : b2 ≤ 2000000000 := by omega
              have HMX := Lib.hid (fun (W : World) => max00_any b (wrap64 ((P - (z - x) + (l : Int) - 2) / ((l : Int) - 1))) b2 W (by rw [← hN, ← hQ, IntWalk.wrap64_in _ (by omega)]; exact hb2))
              clear HEF HEL hN hQ HX hb2 HQ
              go_wp2_with fail
              go_quiet (fail)
              go_wp2_with fail
              refine (HGK.out _ (below_drewN HB2.out _)).mono ?_
              rintro e w2 ⟨rfl, rfl⟩
              go_wp2_with fail
              refine (HMX.out _).mono ?_
              rintro e w2 ⟨rfl, rfl⟩
              go_wp2
              go_roundw
              case rel => exact ⟨j + 1, b2, by omega, by go_num, rfl, hb20, hb21, HB2V, Lib.hid (below_drewN HB2.out _)⟩
              case measure => simp [intOf]; omega
            · have hle : P - (z - x) ≤ 0 := by omega
              have hle2 : ¬ (P - (z - x) > 0) := by omega
              have hd : decide (P - (z - x) > 0) = false := by simp; omega
              have hd' : decide (0 < P - (z - x)) = false := by simp; omega
              have HQ := Lib.hid (show b = bestE l z (G (j + 1)) by rw [HX.out, HEF.out, show max N 0 = 0 by omega, Int.ediv_eq_zero_of_lt (by omega) (by omega)]; omega)
              clear HEF HEL hN HX
              go_wp2_with fail
              go_quiet (fail)
              go_wp2_with fail
              refine (HGK.out _ (below_drewN HB2.out _)).mono ?_
              rintro e w2 ⟨rfl, rfl⟩
              go_wp2
              go_roundw
              case rel => exact ⟨j + 1, b, by omega, by go_num, rfl, hb0, hb1, HQ, Lib.hid (below_drewN HB2.out _)⟩
              case measure => simp [intOf]; omega
        · obtain rfl : j = k := by omega
          have HG := Lib.hid (show y = b by rw [HYE.out, HBE.out])
          clear HYE HBE HA HGD HBD HGO HOK
          go_wp2
          go_ret
          exact ⟨ret_int HG.out.symm, HB2.out⟩
end Go.Proofs.Ytmbgagkpabepcaa
