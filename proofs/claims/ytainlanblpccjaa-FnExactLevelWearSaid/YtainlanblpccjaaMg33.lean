/- The proof's own lemmas, part 34: WrG. -/
import Derived.Test.YtainlanblpccjaaProg
import Derived.Test.YtainlanblpccjaaMg32
import Derived.Test.YtainlanblpccjaaMg20
/- The gap between the erase counts, in the program (the counts by goodCounts): the contracts. -/
namespace Go.Proofs.Ytainlanblpccjaa
open Go.RowKit
set_option linter.unusedVariables false
set_option linter.unusedSimpArgs false
theorem maxOf_hiL (l : List Int) : Lib.maxOf l = hiL l := by
  cases l with
  | nil => rfl
  | cons x r =>
    unfold Lib.maxOf hiL
    simp only [List.headD_cons, List.foldl_cons]
    rw [show max x x = x by omega]
    congr 1
    funext a b
    omega
theorem minOf_loL (l : List Int) : Lib.minOf l = loL l := by
  cases l with
  | nil => rfl
  | cons x r =>
    unfold Lib.minOf loL
    simp only [List.headD_cons, List.foldl_cons]
    rw [show min x x = x by omega]
    congr 1
    funext a b
    omega
set_option maxHeartbeats 1000000 in
theorem goodB_any (v : Value) (bad : List Bool) (n : Nat) (w : World) (hi : Nat) (hv : NB w hi v bad) (hh : hi ≤ w.heap.size) (h1 : bad.length ≤ 1048576) (h2 : n ≤ 1048576) :
    Calls Try.prog 107 #[.int .i64 (n : Int), v] w (CopyPostI (goodL bad n) w) := by
  obtain ⟨A, m, c, rfl, _, _, hm, hA⟩ := hv
  have hnm : (n : Int) ≤ 1048576 := by omega
  have hmm : (m : Int) ≤ 1048576 := by omega
  have HA := Lib.hid hA
  have HH := Lib.hid hh
  have HLE := Lib.hid (goodL_le bad)
  have HN0 := Lib.hid (fun (k : Nat) (h : bad.getD k false = true) => show goodL bad (k + 1) = goodL bad k by rw [goodL, if_pos h])
  have HN1 := Lib.hid (fun (k : Nat) (h : bad.getD k false = false) => show goodL bad (k + 1) = goodL bad k ++ [(k : Int)] by rw [goodL, if_neg (by rw [h]; simp)])
  have HOUT := Lib.hid (fun (k : Nat) (h : ¬ k < m) => show bad.getD k false = false by rw [List.getD_eq_getElem?_getD, List.getElem?_eq_none (by omega)]; rfl)
  obtain ⟨G, hG⟩ : ∃ G, G = goodL bad := ⟨_, rfl⟩
  have HG0 := Lib.hid (show G 0 = [] by rw [hG]; rfl)
  rw [← hG] at HLE HN0 HN1 ⊢
  have I0 := Lib.hid (show IntsOwn w w.heap.size (.slice none 0 0) (G 0) by rw [HG0.out]; exact World.ownsRow_nil w _ _ 1)
  have B0 := Lib.hid (Below.refl w.heap.size w)
  clear hA hh h1 hm hG
  go_enter Try.func107, Try.ntmps107
  go_wp2
  go_loopw [5, 8] (fun v i wr => ∃ k : Nat, k ≤ n ∧ i = .int .i64 k ∧ Hid (IntsOwn wr w.heap.size v (G k)) ∧ Hid (Below w.heap.size w wr)) (fun _ i _ => n - (intOf i).toNat)
  case atStart => exact ⟨0, by omega, rfl, I0, B0⟩
  case round =>
    obtain ⟨k, hk, rfl, HO, HB⟩ := hrel
    by_cases hlt : k < n
    · have hki : (k : Int) < (n : Int) := by omega
      have hlen := HLE.out k
      have hb' := HB.out
      have hz' := HB.out.size
      have hown := HO.out
      by_cases hkm : k < m
      · have hkmi : (k : Int) < (m : Int) := by omega
        obtain ⟨b, o, rfl, hb1, hx⟩ := HA.out (by omega)
        have e1 := (HB.out.cell (p := ⟨b, o + k, none⟩) (by have := HH.out; show b < _; omega)).trans (hx k hkm)
        have d1 : decide ((m : Int) ≤ (k : Int)) = false := by simp; omega
        have d2 : decide (m ≤ k) = false := by simp; omega
        have d3 : decide ((k : Int) ≥ (m : Int)) = false := by simp; omega
        clear hx
        cases hb : bad.getD k false with
        | true =>
          rw [hb] at e1
          have HX := Lib.hid (HN0.out k hb)
          clear HN0 HN1 HLE hb HOUT hb' hown HA
          go_wp2
          go_roundw
          case rel => exact ⟨k + 1, by omega, by go_num, Lib.hid (by rw [HX.out]; exact HO.out), HB⟩
          case measure => simp [intOf]; omega
        | false =>
          rw [hb] at e1
          have HX := Lib.hid (HN1.out k hb)
          clear HN0 HN1 HLE hb HOUT HA HO HB
          go_wp2_with (at_builtin; refine wpList_append_int2 rfl _ _ rfl _ _ rfl hown hb' hz' _ _ rfl (by omega) ?_; intro v' w1 hown3 hb2; clear hown hb')
          go_roundw
          case rel => exact ⟨k + 1, by omega, by go_num, Lib.hid (by rw [HX.out]; exact hown3), Lib.hid hb2⟩
          case measure => simp [intOf]; omega
      · have d1 : decide ((m : Int) ≤ (k : Int)) = true := by simp; omega
        have d2 : decide (m ≤ k) = true := by simp; omega
        have d3 : decide ((k : Int) ≥ (m : Int)) = true := by simp; omega
        have HX := Lib.hid (HN1.out k (HOUT.out k hkm))
        clear HN0 HN1 HLE HOUT HA HO HB hkm
        go_wp2_with (at_builtin; refine wpList_append_int2 rfl _ _ rfl _ _ rfl hown hb' hz' _ _ rfl (by omega) ?_; intro v' w1 hown3 hb2; clear hown hb')
        go_roundw
        case rel => exact ⟨k + 1, by omega, by go_num, Lib.hid (by rw [HX.out]; exact hown3), Lib.hid hb2⟩
        case measure => simp [intOf]; omega
    · obtain rfl : k = n := by omega
      go_wp2
      go_ret
      exact ⟨_, rfl, HO.out, HB.out⟩
/-- The counts of the good blocks, none where a count is out of range. -/
def gcR (er : List Int) (bad : List Bool) (r : Bool) : List Int := if r = true then gcL er bad er.length else []
theorem gcR_len (er : List Int) (bad : List Bool) (r : Bool) : (gcR er bad r).length ≤ er.length := by
  unfold gcR
  split
  · unfold gcL; rw [cntL_length]; exact goodL_le bad er.length
  · simp
theorem gapV_R (er : List Int) (bad : List Bool) (r : Bool) : gapV er bad r = hiL (gcR er bad r) - loL (gcR er bad r) := by
  unfold gapV gcR
  cases r
  · simp [hiL, loL]
  · simp
theorem gcR_in {er : List Int} {bad : List Bool} {r : Bool} (hr : r = true ↔ CountsOk er) : ∀ i, i < (gcR er bad r).length → 0 ≤ (gcR er bad r).getD i 0 ∧ (gcR er bad r).getD i 0 ≤ 1000 := by
  cases r with
  | false => intro i hi; simp [gcR] at hi
  | true => exact gcL_in (hr.1 rfl) er.length (Nat.le_refl _)
theorem gcR_bd {er : List Int} {bad : List Bool} {r : Bool} (hr : r = true ↔ CountsOk er) : (0 ≤ hiL (gcR er bad r) ∧ hiL (gcR er bad r) ≤ 1000) ∧ (0 ≤ loL (gcR er bad r) ∧ loL (gcR er bad r) ≤ 1000) := by
  have := hiL_in _ (gcR_in (bad := bad) hr) _ (Nat.le_refl _)
  rwa [List.take_length] at this
theorem wg1_at (w : World) : PredAt Try.prog 174 #[] (Value.int .i64) (fun x => decide (x < 0) || decide (1000 < x)) w := by
  intro W x hb
  clear hb
  show Calls Try.prog 174 #[.int .i64 x] W fun e w' => e = .returned (.bool (decide (x < 0) || decide (1000 < x))) ∧ ∃ q, w' = W.drewN q
  by_cases h1 : x < 0
  · have d1 : decide (x < 0) = true := by simpa using h1
    rw [d1]
    clear h1
    go_enter Try.func174, Try.ntmps174
    go_wp2
    go_ret
    exact ⟨rfl, 0, rfl⟩
  · have d1 : decide (x < 0) = false := by simpa using h1
    rw [d1]
    obtain ⟨t, ht⟩ : ∃ t, t = decide (1000 < x) := ⟨_, rfl⟩
    have d2 : decide (x > 1000) = t := ht.symm
    rw [← ht]
    have d3 := ht.symm
    clear h1 ht
    go_enter Try.func174, Try.ntmps174
    go_wp2
    go_ret
    exact ⟨rfl, 0, rfl⟩
theorem any_counts {er : List Int} {r : Bool} (hr : r = true ↔ CountsOk er) : (er.any fun x => decide (x < 0) || decide (1000 < x)) = !r := by
  rw [Bool.eq_iff_iff, List.any_eq_true]
  constructor
  · rintro ⟨x, hx, hp⟩
    cases r with
    | false => rfl
    | true =>
      obtain ⟨i, hi1, e⟩ := List.getElem_of_mem hx
      have := hr.1 rfl i hi1
      rw [List.getD_eq_getElem?_getD, List.getElem?_eq_getElem hi1] at this
      simp only [Option.getD_some, e] at this
      simp at hp; omega
  · intro hr0
    have hrf : r = false := by simpa using hr0
    by_cases q : ∃ i, i < er.length ∧ ¬ (0 ≤ er.getD i 0 ∧ er.getD i 0 ≤ 1000)
    · obtain ⟨i, hi1, hx⟩ := q
      refine ⟨er[i], List.getElem_mem hi1, ?_⟩
      rw [List.getD_eq_getElem?_getD, List.getElem?_eq_getElem hi1] at hx
      simp only [Option.getD_some] at hx
      simp; omega
    · exfalso
      have : r = true := hr.2 (fun i hi1 => by
        by_cases z : 0 ≤ er.getD i 0 ∧ er.getD i 0 ≤ 1000
        · exact z
        · exact absurd ⟨i, hi1, z⟩ q)
      rw [hrf] at this; cases this
theorem gcL_snocK (er : List Int) (L : List Int) (k : Nat) (h : k < L.length) : cntL er (L.take (k + 1)) = cntL er (L.take k) ++ [er.getD (L.getD k 0).toNat 0] := by
  unfold cntL
  rw [List.take_succ_eq_append_getElem h, List.map_append, List.getD_eq_getElem?_getD (l := L), List.getElem?_eq_getElem h]; rfl
set_option maxHeartbeats 2000000 in
theorem goodC_any (u v : Value) (er : List Int) (bad : List Bool) (r : Bool) (w : World) (hi : Nat) (hu : NI w hi u er) (hv : NB w hi v bad) (hh : hi ≤ w.heap.size) (hr : r = true ↔ CountsOk er) (h1 : er.length ≤ 1048576) (h2 : bad.length ≤ 1048576) :
    Calls Try.prog 113 #[u, v] w (CopyPostI (gcR er bad r) w) := by
  obtain ⟨A, n, c, rfl, _, _, hn, hA⟩ := hu
  rw [hn] at h1
  have hnm : (n : Int) ≤ 1048576 := by omega
  have HCF : Hid (Calls Try.prog 101 #[.slice A n c, .func (.func 174) #[] #[]] w fun e w' => e = .returned (.bool (!r)) ∧ ∃ q, w' = w.drewN q) := Lib.hid (by
    have HANY := any_counts hr
    rcases Nat.eq_zero_or_pos n with h0 | h0
    · subst h0
      refine (Try.slices_ContainsFunc_empty (α := Int) A c _ w).mono ?_
      rintro e w1 ⟨rfl, rfl⟩
      have : er = [] := List.eq_nil_of_length_eq_zero hn
      rw [this] at HANY
      exact ⟨ret_bool HANY, 0, rfl⟩
    · obtain ⟨b, o, rfl, _, hc⟩ := hA h0
      refine (Try.slices_ContainsFunc (Value.int .i64) _ 174 _ (fun _ _ => by kernel_rfl) b o n c er w (wg1_at w) (by omega) (by omega) (fun j hj => by rw [hc j (by omega), getBang])).mono ?_
      rintro e w1 ⟨rfl, q, rfl⟩
      rw [show er.take n = er by rw [← hn, List.take_length], HANY]
      exact ⟨rfl, q, rfl⟩)
  have HGB := Lib.hid (fun (W : World) (b : Below w.heap.size w W) => goodB_any v bad n W hi (hv.below b hh) (Nat.le_trans hh b.size) h2 h1)
  obtain ⟨A', m, c', rfl⟩ := hv.slice
  have HV := Lib.hid (show gcR er bad r = if r = true then gcL er bad n else [] by unfold gcR; rw [hn])
  have HA := Lib.hid hA
  have HH := Lib.hid hh
  have HGL := Lib.hid (goodL_le bad n)
  have HGM := Lib.hid (goodL_mem bad n)
  have HGC := Lib.hid (show gcL er bad n = cntL er (goodL bad n) from rfl)
  generalize gcR er bad r = gv at *
  clear hA hh hv hr h1 h2 hn
  cases r with
  | false =>
    have HG := Lib.hid (show gv = [] by rw [HV.out]; rfl)
    clear HV HGB HGL HGM HGC
    go_enter Try.func113, Try.ntmps113
    go_wp2_with fail
    refine HCF.out.mono ?_
    rintro e w1 ⟨rfl, q, rfl⟩
    go_wp2
    go_ret
    exact ⟨_, rfl, by rw [HG.out]; exact World.ownsRow_nil _ _ _ 1, below_drewN (Below.refl _ _) _⟩
  | true =>
    have HG := Lib.hid (show gv = gcL er bad n by rw [HV.out]; rfl)
    obtain ⟨L, hL⟩ : ∃ L, L = goodL bad n := ⟨_, rfl⟩
    rw [← hL] at HGB HGL HGM HGC
    clear HV hL
    go_enter Try.func113, Try.ntmps113
    go_wp2_with fail
    refine HCF.out.mono ?_
    rintro e w1 ⟨rfl, q, rfl⟩
    go_wp2_with fail
    refine (HGB.out _ (below_drewN (Below.refl _ _) q)).mono ?_
    rintro e w2 ⟨x, rfl, ho, hb⟩
    have HB2 := Lib.hid (show Below w.heap.size w w2 from (below_drewN (Below.refl _ _) q).trans hb)
    have HNI := Lib.hid (show NI w2 w2.heap.size x L from ho.readsR)
    have HSZ2 := Lib.hid (hb.size)
    clear HCF HGB ho hb
    obtain ⟨A2, l2, c2, rfl, _, _, hl2, hA2⟩ := HNI.out
    have hl2m : (l2 : Int) ≤ 1048576 := by have := HGL.out; omega
    have HL2 := Lib.hid hl2
    have HA2 := Lib.hid hA2
    have I0 := Lib.hid (show IntsOwn w2 w2.heap.size (.slice none 0 0) (cntL er (L.take 0)) by rw [List.take_zero]; exact World.ownsRow_nil w2 _ _ 1)
    have B0 := Lib.hid (Below.refl w2.heap.size w2)
    clear hl2 hA2 HNI
    go_wp2_with fail
    go_loopw [6, 17] (fun v i wr => ∃ k : Nat, k ≤ l2 ∧ i = .int .i64 k ∧ Hid (IntsOwn wr w2.heap.size v (cntL er (L.take k))) ∧ Hid (Below w2.heap.size w2 wr)) (fun _ i _ => l2 - (intOf i).toNat)
    case atStart => exact ⟨0, by omega, rfl, I0, B0⟩
    case round =>
      obtain ⟨k, hk, rfl, HO, HB⟩ := hrel
      by_cases hlt : k < l2
      · have hki : (k : Int) < (l2 : Int) := by omega
        obtain ⟨b, o, rfl, hb1, hx⟩ := HA2.out (by omega)
        have e1 := (HB.out.cell (p := ⟨b, o + k, none⟩) hb1).trans (hx k hlt)
        have hmem := HGM.out k (by rw [HL2.out]; exact hlt)
        have HSN := Lib.hid (gcL_snocK er L k (by rw [HL2.out]; exact hlt))
        generalize L.getD k 0 = y at *
        obtain ⟨j, rfl⟩ : ∃ j : Nat, y = j := ⟨y.toNat, by omega⟩
        rw [Int.toNat_natCast] at HSN
        have hjn : (j : Int) < (n : Int) := hmem.2
        obtain ⟨b3, o3, rfl, hb3, hx3⟩ := HA.out (by omega)
        have e3 := ((HB2.out.trans (HB.out.mono HB2.out.size)).cell (p := ⟨b3, o3 + j, none⟩) (by have := HH.out; show b3 < _; omega)).trans (hx3 j (by omega))
        generalize er.getD j 0 = z at *
        have hb' := HB.out
        have hz' := HB.out.size
        have hown := HO.out
        have hlen : (cntL er (L.take k)).length ≤ 1048576 := by rw [cntL_length, List.length_take]; omega
        clear hx hx3 hmem HA HA2 HO HB HGM
        go_wp2_with (at_builtin; refine wpList_append_int2 rfl _ _ rfl _ _ rfl hown hb' hz' _ _ rfl (by omega) ?_; intro v' w1 hown3 hb2; clear hown hb')
        go_roundw
        case rel => exact ⟨k + 1, by omega, by go_num, Lib.hid (by rw [HSN.out]; exact hown3), Lib.hid hb2⟩
        case measure => simp [intOf]; omega
      · obtain rfl : k = l2 := by omega
        have hown := HO.out
        have hfull : cntL er (L.take k) = gcL er bad n := by rw [HGC.out, ← HL2.out, List.take_length]
        rw [hfull] at hown
        have HB3 := Lib.hid (HB2.out.trans (HB.out.mono HB2.out.size))
        have hsz2 := HB2.out.size
        clear HA HA2 HGM HGL HGC HL2 hfull HB HB2 hlt
        go_wp2
        go_ret
        exact ⟨_, rfl, by rw [HG.out]; exact hown.low hsz2, HB3.out⟩
set_option maxHeartbeats 2000000 in
theorem implGap_any (u v : Value) (er : List Int) (bad : List Bool) (r : Bool) (w : World) (hi : Nat) (hu : NI w hi u er) (hv : NB w hi v bad) (hh : hi ≤ w.heap.size) (hr : r = true ↔ CountsOk er) (h1 : er.length ≤ 1048576) (h2 : bad.length ≤ 1048576) :
    Calls Try.prog 42 #[u, v] w fun e w' => e = .returned (.int .i64 (gapV er bad r)) ∧ Below w.heap.size w w' := by
  have HC := Lib.hid (goodC_any u v er bad r w hi hu hv hh hr h1 h2)
  have HLN := Lib.hid (gcR_len er bad r)
  have HBD := Lib.hid (gcR_bd (bad := bad) hr)
  have HV := Lib.hid (gapV_R er bad r)
  have HL1 := Lib.hid h1
  obtain ⟨A, n, c, rfl⟩ := hu.slice
  obtain ⟨A', m, c', rfl⟩ := hv.slice
  generalize gapV er bad r = gv at *
  generalize gcR er bad r = Y at *
  clear hu hv hr h1 h2 hh
  go_enter Try.func42, Try.ntmps42
  go_wp2_with fail
  refine HC.out.mono ?_
  rintro e wr ⟨x, rfl, hown, hb⟩
  have HB3 := Lib.hid hb
  obtain ⟨X1, X2, X3, ex, _, _, hl3, hA3⟩ := hown.readsR
  have hl3m : (X2 : Int) ≤ 1048576 := by have := HLN.out; have := HL1.out; omega
  subst ex
  clear hown hb HC HLN HL1
  by_cases h0 : 0 < X2
  · have d0 : ((X2 : Int) == 0) = false := by simp; omega
    obtain ⟨b, o, rfl, hb1, hx⟩ := hA3 h0
    have HMX := Lib.hid (Try.slices_Max_int b o X2 X3 Y wr h0 (by omega) (by omega) (fun j hj => hx j (by omega)))
    have HMN := Lib.hid (Try.slices_Min_int b o X2 X3 Y wr h0 (by omega) (by omega) (fun j hj => hx j (by omega)))
    have eY : Y.take X2 = Y := by rw [← hl3, List.take_length]
    rw [eY, maxOf_hiL] at HMX
    rw [eY, minOf_loL] at HMN
    generalize hiL Y = hh at *
    generalize loL Y = ll at *
    have hbd := HBD.out
    have w1 : IntKind.i64.wrap (hh - ll) = hh - ll := IntWalk.i64_in _ (by omega)
    clear hA3 hx hl3 eY hbd h0
    go_wp2_with fail
    refine HMX.out.mono ?_
    rintro e w3 ⟨rfl, rfl⟩
    go_wp2_with fail
    refine HMN.out.mono ?_
    rintro e w3 ⟨rfl, rfl⟩
    go_wp2
    go_ret
    exact ⟨ret_int HV.out.symm, HB3.out⟩
  · obtain rfl : X2 = 0 := by omega
    have hz : Y = [] := List.eq_nil_of_length_eq_zero hl3
    have HG2 := Lib.hid (show gv = 0 by rw [HV.out, hz]; rfl)
    clear hA3 hz hl3 h0
    go_wp2
    go_ret
    exact ⟨ret_int HG2.out.symm, HB3.out⟩
theorem implNeed_any (u v : Value) (er : List Int) (bad : List Bool) (bd : Int) (r : Bool) (w : World) (hi : Nat) (hu : NI w hi u er) (hv : NB w hi v bad) (hh : hi ≤ w.heap.size) (hr : r = true ↔ CountsOk er) (h1 : er.length ≤ 1048576) (h2 : bad.length ≤ 1048576) :
    Calls Try.prog 38 #[u, v, .int .i64 bd] w fun e w' => e = .returned (.bool (decide (bd < gapV er bad r))) ∧ Below w.heap.size w w' := by
  have HC := Lib.hid (implGap_any u v er bad r w hi hu hv hh hr h1 h2)
  obtain ⟨A, n, c, rfl⟩ := hu.slice
  obtain ⟨A', m, c', rfl⟩ := hv.slice
  clear hu hv hr h1 h2 hh
  generalize gapV er bad r = g at *
  go_enter Try.func38, Try.ntmps38
  go_wp2_with fail
  refine HC.out.mono ?_
  rintro e w1 ⟨rfl, b1⟩
  have B1 := Lib.hid b1
  clear b1
  go_wp2
  go_ret
  exact ⟨rfl, B1.out⟩
end Go.Proofs.Ytainlanblpccjaa
