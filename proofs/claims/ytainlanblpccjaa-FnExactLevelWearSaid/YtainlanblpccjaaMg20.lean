/- The proof's own lemmas, part 21: WrT. -/
import Derived.Test.YtainlanblpccjaaProg
import Derived.Test.YtainlanblpccjaaMg14
import Derived.Test.YtainlanblpccjaaMg19
import Derived.Test.YtainlanblpccjaaMg8
import Derived.Test.YtainlanblpccjaaMg13
import Derived.BigQuiet
import Derived.Deep.QuietTactic
/- The gap between the erase counts, in the model: the contracts. -/
namespace Go.Proofs.Ytainlanblpccjaa
open Go.RowKit
set_option linter.unusedVariables false
set_option linter.unusedSimpArgs false
theorem specGood_any (v : Value) (bad : List Bool) (k : Nat) (w : World) (hi : Nat) (hv : NB w hi v bad) (h1 : bad.length ≤ 1048576) (h2 : k ≤ 1048576) :
    Calls Try.prog 109 #[v, .int .i64 (k : Int)] w fun e w' => e = .returned (.bool (!(bad.getD k false))) ∧ w = w' := by
  obtain ⟨A, n, c, rfl, _, _, hn, hA⟩ := hv
  have hnm : (n : Int) ≤ 1048576 := by omega
  by_cases h : k < n
  · obtain ⟨b, o, rfl, _, hx⟩ := hA (by omega)
    have e1 := hx k h
    have d1 : decide ((n : Int) ≤ (k : Int)) = false := by simp; omega
    have d2 : decide (n ≤ k) = false := by simp; omega
    have d3 : decide ((k : Int) ≥ (n : Int)) = false := by simp; omega
    have hki : (k : Int) < (n : Int) := by omega
    clear hA hx hn h1
    generalize bad.getD k false = t at *
    go_enter Try.func109, Try.ntmps109
    go_wp2
    go_ret
    exact ⟨rfl, rfl⟩
  · have d1 : decide ((n : Int) ≤ (k : Int)) = true := by simp; omega
    have d2 : decide (n ≤ k) = true := by simp; omega
    have d3 : decide ((k : Int) ≥ (n : Int)) = true := by simp; omega
    have e : bad.getD k false = false := by rw [List.getD_eq_getElem?_getD, List.getElem?_eq_none (by omega)]; rfl
    rw [e]
    clear hA hn h1 e
    go_enter Try.func109, Try.ntmps109
    go_wp2
    go_ret
    exact ⟨rfl, rfl⟩
theorem specCounted_any (u : Value) (er : List Int) (r : Bool) (w : World) (hi : Nat) (hu : NI w hi u er) (hr : r = true ↔ CountsOk er) (h1 : er.length ≤ 1048576) :
    Calls Try.prog 213 #[u] w fun e w' => e = .returned (.bool r) ∧ w = w' := by
  obtain ⟨A, n, c, rfl, _, _, hn, hA⟩ := hu
  unfold CountsOk at hr
  rw [hn] at hr
  have hnm : (n : Int) ≤ 1048576 := by omega
  have HR := Lib.hid hr
  have HA := Lib.hid hA
  clear hA hr hn h1
  go_enter Try.func213, Try.ntmps213
  go_wp2
  go_loop [3] (fun i => ∃ k : Nat, k ≤ n ∧ i = .int .i64 k ∧ Hid (∀ j, j < k → 0 ≤ er.getD j 0 ∧ er.getD j 0 ≤ 1000)) (fun i => n - (intOf i).toNat)
  case atStart => exact ⟨0, by omega, rfl, Lib.hid fun j hj => by omega⟩
  case round =>
    obtain ⟨k, hk, rfl, HB⟩ := hrel
    by_cases hlt : k < n
    · have hki : (k : Int) < (n : Int) := by omega
      obtain ⟨b, off, rfl, _, hx⟩ := HA.out (by omega)
      have hc := hx k hlt
      have HF := Lib.hid (fun (e : ¬ (0 ≤ er.getD k 0 ∧ er.getD k 0 ≤ 1000)) => not_true HR.out (fun f => e (f k hlt)))
      have HY := Lib.hid (fun (e : 0 ≤ er.getD k 0 ∧ er.getD k 0 ≤ 1000) => show ∀ j, j < k + 1 → 0 ≤ er.getD j 0 ∧ er.getD j 0 ≤ 1000 from fun j hj => by
        by_cases f : j = k
        · subst f; exact e
        · exact HB.out j (by omega))
      clear hx
      generalize er.getD k 0 = y at *
      by_cases he : 0 ≤ y ∧ y ≤ 1000
      · have HI := Lib.hid (fun (W : World) => inr_yes y 0 1000 W he.1 he.2)
        have HY2 := Lib.hid (HY.out he)
        clear HF HY HR HA HB he
        go_wp2_with fail
        refine (HI.out _).mono ?_
        rintro e w1 ⟨rfl, rfl⟩
        go_wp2
        go_round
        case rel => exact ⟨k + 1, by omega, by go_num, HY2⟩
        case measure => simp [intOf]; omega
      · have HI := Lib.hid (fun (W : World) => inr_no y 0 1000 W he)
        have HG := Lib.hid (HF.out he)
        clear HF HY HR HA HB he
        go_wp2_with fail
        refine (HI.out _).mono ?_
        rintro e w1 ⟨rfl, rfl⟩
        go_wp2
        go_ret
        exact ⟨ret_bool HG.out.symm, rfl⟩
    · obtain rfl : k = n := by omega
      obtain rfl : r = true := HR.out.2 HB.out
      clear HR HA HB
      go_wp2
      go_ret
      exact ⟨rfl, rfl⟩
def ExtP (a b : Int) (e : Ending) : Prop := ∃ t : Bool, e = .returned (.tuple #[.int .i64 a, .int .i64 b, .bool t])
set_option maxHeartbeats 2000000 in
theorem specExt_any (u v : Value) (er : List Int) (bad : List Bool) (w : World) (hi : Nat) (hu : NI w hi u er) (hv : NB w hi v bad) (h1 : er.length ≤ 1048576) (h2 : bad.length ≤ 1048576) :
    Calls Try.prog 214 #[u, v] w fun e w' => ExtP (loL (gcL er bad er.length)) (hiL (gcL er bad er.length)) e ∧ w = w' := by
  have HG := Lib.hid (fun (k : Nat) (h : k ≤ 1048576) => specGood_any v bad k w hi hv h2 h)
  obtain ⟨A, n, c, rfl, _, _, hn, hA⟩ := hu
  obtain ⟨A', m, c', rfl⟩ := hv.slice
  rw [hn] at h1 ⊢
  have hnm : (n : Int) ≤ 1048576 := by omega
  have HA := Lib.hid hA
  obtain ⟨G, hG⟩ : ∃ G, G = gcL er bad := ⟨_, rfl⟩
  have G0 : Hid (G 0 = []) := Lib.hid (by rw [hG]; rfl)
  have GB := Lib.hid (fun (k : Nat) (h : bad.getD k false = true) => gcL_bad (er := er) h)
  have GG := Lib.hid (fun (k : Nat) (h : ¬ bad.getD k false = true) => gcL_good (er := er) h)
  have HLO : Hid (loL [] = 0 ∧ hiL [] = 0) := Lib.hid ⟨rfl, rfl⟩
  rw [← hG] at GB GG ⊢
  clear hA hv h2 hn hG
  go_enter Try.func214, Try.ntmps214
  go_wp2
  go_loop [7, 8, 9, 10] (fun l h f i => ∃ (k : Nat) (lo hi : Int) (t : Bool), k ≤ n ∧ i = .int .i64 k ∧ l = .int .i64 lo ∧ h = .int .i64 hi ∧ f = .bool t ∧ Hid (lo = loL (G k)) ∧ Hid (hi = hiL (G k)) ∧ Hid (t = true ↔ G k ≠ [])) (fun _ _ _ i => n - (intOf i).toNat)
  case atStart => exact ⟨0, 0, 0, false, by omega, rfl, rfl, rfl, rfl, Lib.hid (by rw [G0.out, HLO.out.1]), Lib.hid (by rw [G0.out, HLO.out.2]), Lib.hid (by rw [G0.out]; simp)⟩
  case round =>
    obtain ⟨k, lo, hh, t, hk, rfl, rfl, rfl, rfl, H1, H2, H3⟩ := hrel
    by_cases hlt : k < n
    · have hki : (k : Int) < (n : Int) := by omega
      have HGK := Lib.hid (HG.out k (by omega))
      cases hb : bad.getD k false with
      | true =>
        rw [hb] at HGK
        have HX := Lib.hid (GB.out k hb)
        clear HG GB GG HA hb
        go_wp2_with fail
        refine HGK.out.mono ?_
        rintro e w1 ⟨rfl, rfl⟩
        go_wp2
        go_round
        case rel => exact ⟨k + 1, lo, hh, t, by omega, by go_num, rfl, rfl, rfl, Lib.hid (by rw [HX.out]; exact H1.out), Lib.hid (by rw [HX.out]; exact H2.out), Lib.hid (by rw [HX.out]; exact H3.out)⟩
        case measure => simp [intOf]; omega
      | false =>
        rw [hb] at HGK
        have HX := Lib.hid (GG.out k (by rw [hb]; simp))
        obtain ⟨pb, po, rfl, _, hx⟩ := HA.out (by omega)
        have e1 := hx k hlt
        have HNE := Lib.hid (show G (k + 1) ≠ [] by rw [HX.out]; simp)
        have HXL := Lib.hid (show loL (G (k + 1)) = if G k = [] then er.getD k 0 else if er.getD k 0 < loL (G k) then er.getD k 0 else loL (G k) by rw [HX.out, loL_snoc])
        have HXH := Lib.hid (show hiL (G (k + 1)) = if G k = [] then er.getD k 0 else if hiL (G k) < er.getD k 0 then er.getD k 0 else hiL (G k) by rw [HX.out, hiL_snoc])
        generalize er.getD k 0 = y at *
        rw [← H1.out] at HXL
        rw [← H2.out] at HXH
        clear HG GB GG HA hb hx HX
        cases t with
        | false =>
          have hz : G k = [] := by
            by_cases q : G k = []
            · exact q
            · have := H3.out.2 q; cases this
          have HL2 := Lib.hid (show loL (G (k + 1)) = y by rw [HXL.out, if_pos hz])
          have HH2 := Lib.hid (show hiL (G (k + 1)) = y by rw [HXH.out, if_pos hz])
          clear hz HXL HXH H1 H2 H3
          go_wp2_with fail
          refine HGK.out.mono ?_
          rintro e w1 ⟨rfl, rfl⟩
          go_wp2
          go_round
          case rel => exact ⟨k + 1, y, y, true, by omega, by go_num, rfl, rfl, rfl, Lib.hid HL2.out.symm, Lib.hid HH2.out.symm, Lib.hid ⟨fun _ => HNE.out, fun _ => rfl⟩⟩
          case measure => simp [intOf]; omega
        | true =>
          have hz : ¬ G k = [] := H3.out.1 rfl
          have HL2 := Lib.hid (show loL (G (k + 1)) = if y < lo then y else lo by rw [HXL.out, if_neg hz])
          have HH2 := Lib.hid (show hiL (G (k + 1)) = if hh < y then y else hh by rw [HXH.out, if_neg hz])
          clear hz HXL HXH H1 H2 H3
          by_cases a1 : y < lo
          · have d1 : decide (y < lo) = true := by simpa using a1
            have HL3 := Lib.hid (show loL (G (k + 1)) = y by rw [HL2.out, if_pos a1])
            clear HL2 a1
            by_cases a2 : hh < y
            · have d2 : decide (hh < y) = true := by simpa using a2
              have d3 : decide (y > hh) = true := by simpa using a2
              have HH3 := Lib.hid (show hiL (G (k + 1)) = y by rw [HH2.out, if_pos a2])
              clear HH2 a2
              go_wp2_with fail
              refine HGK.out.mono ?_
              rintro e w1 ⟨rfl, rfl⟩
              go_wp2
              go_round
              case rel => exact ⟨k + 1, y, y, true, by omega, by go_num, rfl, rfl, rfl, Lib.hid HL3.out.symm, Lib.hid HH3.out.symm, Lib.hid ⟨fun _ => HNE.out, fun _ => rfl⟩⟩
              case measure => simp [intOf]; omega
            · have d2 : decide (hh < y) = false := by simpa using a2
              have d3 : decide (y > hh) = false := by simpa using a2
              have HH3 := Lib.hid (show hiL (G (k + 1)) = hh by rw [HH2.out, if_neg a2])
              clear HH2 a2
              go_wp2_with fail
              refine HGK.out.mono ?_
              rintro e w1 ⟨rfl, rfl⟩
              go_wp2
              go_round
              case rel => exact ⟨k + 1, y, hh, true, by omega, by go_num, rfl, rfl, rfl, Lib.hid HL3.out.symm, Lib.hid HH3.out.symm, Lib.hid ⟨fun _ => HNE.out, fun _ => rfl⟩⟩
              case measure => simp [intOf]; omega
          · have d1 : decide (y < lo) = false := by simpa using a1
            have HL3 := Lib.hid (show loL (G (k + 1)) = lo by rw [HL2.out, if_neg a1])
            clear HL2 a1
            by_cases a2 : hh < y
            · have d2 : decide (hh < y) = true := by simpa using a2
              have d3 : decide (y > hh) = true := by simpa using a2
              have HH3 := Lib.hid (show hiL (G (k + 1)) = y by rw [HH2.out, if_pos a2])
              clear HH2 a2
              go_wp2_with fail
              refine HGK.out.mono ?_
              rintro e w1 ⟨rfl, rfl⟩
              go_wp2
              go_round
              case rel => exact ⟨k + 1, lo, y, true, by omega, by go_num, rfl, rfl, rfl, Lib.hid HL3.out.symm, Lib.hid HH3.out.symm, Lib.hid ⟨fun _ => HNE.out, fun _ => rfl⟩⟩
              case measure => simp [intOf]; omega
            · have d2 : decide (hh < y) = false := by simpa using a2
              have d3 : decide (y > hh) = false := by simpa using a2
              have HH3 := Lib.hid (show hiL (G (k + 1)) = hh by rw [HH2.out, if_neg a2])
              clear HH2 a2
              go_wp2_with fail
              refine HGK.out.mono ?_
              rintro e w1 ⟨rfl, rfl⟩
              go_wp2
              go_round
              case rel => exact ⟨k + 1, lo, hh, true, by omega, by go_num, rfl, rfl, rfl, Lib.hid HL3.out.symm, Lib.hid HH3.out.symm, Lib.hid ⟨fun _ => HNE.out, fun _ => rfl⟩⟩
              case measure => simp [intOf]; omega
    · obtain rfl : k = n := by omega
      have e1 := H1.out
      have e2 := H2.out
      subst e1 e2
      clear HG GB GG HA H3 H1 H2
      go_wp2
      go_ret3
      exact ⟨⟨t, rfl⟩, rfl⟩
theorem gap_bd {er : List Int} {bad : List Bool} (h : CountsOk er) : (0 ≤ hiL (gcL er bad er.length) ∧ hiL (gcL er bad er.length) ≤ 1000) ∧ (0 ≤ loL (gcL er bad er.length) ∧ loL (gcL er bad er.length) ≤ 1000) := by
  have := hiL_in (gcL er bad er.length) (gcL_in h er.length (Nat.le_refl _)) (gcL er bad er.length).length (Nat.le_refl _)
  rwa [List.take_length] at this
theorem specGap_any (u v : Value) (er : List Int) (bad : List Bool) (r : Bool) (w : World) (hi : Nat) (hu : NI w hi u er) (hv : NB w hi v bad) (hr : r = true ↔ CountsOk er) (h1 : er.length ≤ 1048576) (h2 : bad.length ≤ 1048576) :
    Calls Try.prog 164 #[u, v] w fun e w' => e = .returned (.int .i64 (gapV er bad r)) ∧ w = w' := by
  have HC := Lib.hid (specCounted_any u er r w hi hu hr h1)
  have HE := Lib.hid (specExt_any u v er bad w hi hu hv h1 h2)
  have HBD := Lib.hid (fun (e : r = true) => gap_bd (bad := bad) (hr.1 e))
  obtain ⟨A, n, c, rfl⟩ := hu.slice
  obtain ⟨A', m, c', rfl⟩ := hv.slice
  have HV := Lib.hid (show gapV er bad r = if r = true then hiL (gcL er bad er.length) - loL (gcL er bad er.length) else 0 from rfl)
  clear hu hv hr h1 h2
  generalize hiL (gcL er bad er.length) = hh at *
  generalize loL (gcL er bad er.length) = ll at *
  cases r with
  | false =>
    have HG := Lib.hid (show gapV er bad false = 0 by rw [HV.out]; rfl)
    clear HV HBD HE
    go_enter Try.func164, Try.ntmps164
    go_wp2_with fail
    refine HC.out.mono ?_
    rintro e w1 ⟨rfl, rfl⟩
    go_wp2
    go_ret
    exact ⟨ret_int HG.out.symm, rfl⟩
  | true =>
    have HG := Lib.hid (show gapV er bad true = hh - ll by rw [HV.out]; rfl)
    have hbd := HBD.out rfl
    have w1 : IntKind.i64.wrap (hh - ll) = hh - ll := IntWalk.i64_in _ (by omega)
    clear HV HBD hbd
    go_enter Try.func164, Try.ntmps164
    go_wp2_with fail
    refine HC.out.mono ?_
    rintro e w1 ⟨rfl, rfl⟩
    go_wp2_with fail
    refine HE.out.mono ?_
    rintro e w1 ⟨⟨t, rfl⟩, rfl⟩
    go_wp2
    go_ret
    exact ⟨ret_int HG.out.symm, rfl⟩
theorem specNeed_any (u v : Value) (er : List Int) (bad : List Bool) (bd : Int) (r : Bool) (w : World) (hi : Nat) (hu : NI w hi u er) (hv : NB w hi v bad) (hr : r = true ↔ CountsOk er) (h1 : er.length ≤ 1048576) (h2 : bad.length ≤ 1048576) :
    Calls Try.prog 89 #[u, v, .int .i64 bd] w fun e w' => e = .returned (.bool (decide (bd < gapV er bad r))) ∧ w = w' := by
  have HC := Lib.hid (specGap_any u v er bad r w hi hu hv hr h1 h2)
  obtain ⟨A, n, c, rfl⟩ := hu.slice
  obtain ⟨A', m, c', rfl⟩ := hv.slice
  clear hu hv hr h1 h2
  generalize gapV er bad r = g at *
  go_enter Try.func89, Try.ntmps89
  go_wp2_with fail
  refine HC.out.mono ?_
  rintro e w1 ⟨rfl, rfl⟩
  go_wp2
  go_ret
  exact ⟨rfl, rfl⟩
end Go.Proofs.Ytainlanblpccjaa
