/- The law FnRandomFaults, walked. -/
import Derived.Test.YtikdmkfngdihhabProg
import Derived.Test.YtikdmkfngdihhabRfI
import Derived.Test.YtikdmkfngdihhabDrF
import Derived.Test.YtikdmkfngdihhabVfS
import Derived.Deep.RegionHeld3
namespace Go.Proofs.Ytikdmkfngdihhab
open Go.RowKit
set_option linter.unusedVariables false
theorem rfSeed_mod (x : Int) : rfSeed (x.tmod 999999937) = rfSeed x := by
  unfold rfSeed
  have h := tmod_bd x
  have e : (x.tmod 999999937).tmod 999999937 = x.tmod 999999937 := by
    rcases Int.le_total 0 (x.tmod 999999937) with h0 | h0
    · exact Int.tmod_eq_of_lt h0 (by omega)
    · have e2 : x.tmod 999999937 = -(-(x.tmod 999999937)) := by omega
      rw [e2, Int.neg_tmod, Int.tmod_eq_of_lt (by omega) (by omega)]
  rw [e]
/-- What fault i of a list reads as. -/
theorem rfL_at (B p s : Int) {i n : Nat} (h : i < n) : (rfL B p s n).getD (i * 4) 0 = 1 ∧ (rfL B p s n).getD (i * 4 + 1) 0 = rfS s (i * 3 + 1) % B ∧ (rfL B p s n).getD (i * 4 + 2) 0 = rfS s (i * 3 + 2) % p ∧ (rfL B p s n).getD (i * 4 + 3) 0 = rfS s (i * 3 + 3) % 728 := by
  have e : ∀ c, c < 4 → (rfL B p s n).getD (i * 4 + c) 0 = (rfL B p s (i + 1)).getD (i * 4 + c) 0 := fun c hc => by
    rw [← rfL_take B p s (show i + 1 ≤ n by omega), List.getD_eq_getElem?_getD, List.getD_eq_getElem?_getD, List.getElem?_take, if_pos (by omega)]
  have q : ∀ c, (rfL B p s (i + 1)).getD (i * 4 + c) 0 = ([1, rfS s (i * 3 + 1) % B, rfS s (i * 3 + 2) % p, rfS s (i * 3 + 3) % 728] : List Int).getD c 0 := fun c => by
    show (rfL B p s i ++ _).getD (i * 4 + c) 0 = _
    rw [List.getD_eq_getElem?_getD, List.getElem?_append_right (by rw [rfL_length]; omega), rfL_length, show i * 4 + c - i * 4 = c by omega, ← List.getD_eq_getElem?_getD]
  have e0 := e 0 (by omega)
  rw [Nat.add_zero] at e0
  have q0 := q 0
  rw [Nat.add_zero] at q0
  exact ⟨e0.trans q0, (e 1 (by omega)).trans (q 1), (e 2 (by omega)).trans (q 2), (e 3 (by omega)).trans (q 3)⟩
theorem rf_valid {d b p : Int} (g : GeoOk d b p) (s : Int) (i : Nat) : FtOk d b p ⟨1, rfS s (i * 3 + 1) % (d * b), rfS s (i * 3 + 2) % p, rfS s (i * 3 + 3) % 728⟩ := by
  have hm := g.mul
  have hp := g.p16
  refine ⟨g, FtIn.k1.2 ⟨⟨Int.emod_nonneg _ (by omega), ?_⟩, ⟨Int.emod_nonneg _ (by omega), ?_⟩, ⟨Int.emod_nonneg _ (by omega), ?_⟩⟩⟩
  · have := Int.emod_lt_of_pos (rfS s (i * 3 + 1)) (show 0 < d * b by omega); omega
  · have := Int.emod_lt_of_pos (rfS s (i * 3 + 2)) (show 0 < p by omega); omega
  · have := Int.emod_lt_of_pos (rfS s (i * 3 + 3)) (show (0 : Int) < 728 by omega); omega
set_option maxHeartbeats 8000000 in
set_option maxRecDepth 100000 in
theorem wkRl (v : Value) (n : Nat) (w : World) (h : CodeIs w w.heap.size v) (hv : ∃ A cap, v = .slice A n cap) (hn : n ≤ 400) :
    Calls Try.prog 4 #[v] w fun e w' => e = .returned (.bool true) ∧ Below w.heap.size w w' := by
  obtain ⟨A, cap, rfl⟩ := hv
  have hnm : (n : Int) ≤ 400 := by omega
  have HD := Lib.hid (drawRf_any _ w h)
  clear h
  go_enter Try.func4, Try.ntmps4
  go_wp2_with fail
  refine HD.out.mono ?_
  rintro e w1 ⟨d, b, p, sd, ct, rfl, hsd, hct, b1⟩
  obtain ⟨m, l, c, hE⟩ := rfEnds d b p sd ct
  have hz1 := b1.size
  have b2 := (Below.refl w1.heap.size w1).alloc (Nat.le_refl _) (.cells #[.int .i64 d, .int .i64 b, .int .i64 p] 24)
  have G2 := Lib.hid (Rw.new w1 24 #[.int .i64 d, .int .i64 b, .int .i64 p])
  have B2 := Lib.hid (b1.trans (b2.mono hz1))
  have hz2 : (w1.alloc (.cells #[.int .i64 d, .int .i64 b, .int .i64 p] 24)).heap.size = w1.heap.size + 1 := by simp
  have HI := Lib.hid (fun (W : World) => implRf_any d b p sd ct m l c W hE)
  have HS := Lib.hid (fun (W : World) => specRf_any d b p sd ct m l c W hE)
  have hcc : (c != c) = false := by simp
  clear HD b1 b2
  obtain ⟨c0, c1, c2⟩ := G2.out.three
  go_wp2_with fail
  refine (HI.out _).mono ?_
  rintro e w3 ⟨u3, rfl, hu3, b3⟩
  rw [hz2] at b3 hu3
  have hz3 := b3.size
  rw [hz2] at hz3
  have G3 := Lib.hid (G2.out.below b3 (by omega))
  have B3 := Lib.hid (B2.out.trans (b3.mono (by omega)))
  have U3 := Lib.hid hu3
  obtain ⟨A3, q3, rfl⟩ := hu3.sliceOf
  clear c0 c1 c2 b3 hu3 G2 B2 hz2
  obtain ⟨c0, c1, c2⟩ := G3.out.three
  go_wp2_with fail
  refine (HS.out _).mono ?_
  rintro e w4 ⟨u4, rfl, hu4, b4⟩
  have hz4 := b4.size
  have G4 := Lib.hid (G3.out.below b4 (by omega))
  have B4 := Lib.hid (B3.out.trans (b4.mono (by omega)))
  have U4 := Lib.hid (U3.out.later b4 (Nat.le_refl _))
  obtain ⟨A4, q4, rfl⟩ := hu4.sliceOf
  clear c0 c1 c2 b4 hu4 G3 B3 U3 HI HS
  rcases hE with hg | ⟨hg, hx⟩ | ⟨hg, _, hm, h40⟩
  · go_wp2
    go_ret
    exact ⟨rfl, B4.out⟩
  · go_wp2
    go_ret
    exact ⟨rfl, B4.out⟩
  · subst hm
    have hmI : (m : Int) ≤ 40 := by omega
    have hmm : ((m : Int) != (m : Int)) = false := by simp
    have HI2 := Lib.hid (fun (W : World) => implRf_any d b p (sd.tmod 999999937) 40 40 _ 0 W (.done hg 40 rfl (by omega)))
    rw [rfSeed_mod] at HI2
    have HF := Lib.hid (fun (i : Nat) => rf_valid hg (rfSeed sd) i)
    generalize rfSeed sd = s at *
    generalize hq : d * b = q at *
    have HG := Lib.hid hg
    clear hg
    unfold I64 at hsd
    obtain ⟨c0, c1, c2⟩ := G4.out.three
    go_wp2_with fail
    refine (HI2.out _).mono ?_
    rintro e w5 ⟨u5, rfl, hu5, b5⟩
    have hz5 := b5.size
    have G5 := Lib.hid (G4.out.below b5 (by omega))
    have B5 := Lib.hid (B4.out.trans (b5.mono (by omega)))
    have U5 := Lib.hid (U4.out.later b5 (Nat.le_refl _))
    clear c0 c1 c2 b5 G4 B4 U4 HI2
    rcases hu5.shape with ⟨rfl, h0⟩ | ⟨g5, q5, rfl, _, _, hg5, hg5l⟩
    · omega
    have V5 := Lib.hid hu5
    clear hu5
    go_wp2_with fail
    go_loopw [12] (fun i wr => ∃ k : Nat, k ≤ m ∧ i = .int .i64 k ∧ Below w5.heap.size w5 wr) (fun i _ => m - (intOf i).toNat)
    case atStart => exact ⟨0, by omega, rfl, Below.refl _ _⟩
    case round =>
      obtain ⟨k, hk, rfl, hb⟩ := hrel
      have hzr := hb.size
      by_cases hlt : k < m
      · have hki : (k : Int) < (m : Int) := by omega
        have hki2 : (k : Int) < 40 := by omega
        rcases U5.out.shape with ⟨e, h0⟩ | ⟨g3, qq, e, _, _, hg3, hg3l⟩
        · omega
        injection e with e1 e2 e3
        subst e1 e3
        obtain ⟨x0, x1, x2, x3⟩ := rfL_at q p s hlt
        obtain ⟨z0, z1, z2, z3⟩ := rfL_at q p s (show k < 40 by omega)
        have HC := Lib.hid (fun (W : World) => specVf_any d b p 1 _ _ _ true W ⟨fun _ => HF.out k, fun _ => rfl⟩)
        have a0 := U5.out.cell (j := k * 4) (by omega)
        have a1 := U5.out.cell (j := k * 4 + 1) (by omega)
        have a2 := U5.out.cell (j := k * 4 + 2) (by omega)
        have a3 := U5.out.cell (j := k * 4 + 3) (by omega)
        have d0 := V5.out.cell (j := k * 4) (by omega)
        have d1 := V5.out.cell (j := k * 4 + 1) (by omega)
        have d2 := V5.out.cell (j := k * 4 + 2) (by omega)
        have d3 := V5.out.cell (j := k * 4 + 3) (by omega)
        rw [x0] at a0
        rw [x1] at a1
        rw [x2] at a2
        rw [x3] at a3
        rw [z0] at d0
        rw [z1] at d1
        rw [z2] at d2
        rw [z3] at d3
        generalize rfS s (k * 3 + 1) % q = y1 at *
        generalize rfS s (k * 3 + 2) % p = y2 at *
        generalize rfS s (k * 3 + 3) % 728 = y3 at *
        obtain ⟨t0, t1, t2⟩ := G5.out.three
        have HK := Lib.hid (fun (W : World) (hw : Below w5.heap.size w5 W) => show W.cell? ⟨g3, k * 4, none⟩ = some (.int .i64 1) ∧ W.cell? ⟨g3, k * 4 + 1, none⟩ = some (.int .i64 y1) ∧ W.cell? ⟨g3, k * 4 + 2, none⟩ = some (.int .i64 y2) ∧ W.cell? ⟨g3, k * 4 + 3, none⟩ = some (.int .i64 y3) ∧ W.cell? ⟨g5, k * 4, none⟩ = some (.int .i64 1) ∧ W.cell? ⟨g5, k * 4 + 1, none⟩ = some (.int .i64 y1) ∧ W.cell? ⟨g5, k * 4 + 2, none⟩ = some (.int .i64 y2) ∧ W.cell? ⟨g5, k * 4 + 3, none⟩ = some (.int .i64 y3) ∧ W.cell? ⟨w1.heap.size, 0, none⟩ = some (.int .i64 d) ∧ W.cell? ⟨w1.heap.size, 1, none⟩ = some (.int .i64 b) ∧ W.cell? ⟨w1.heap.size, 2, none⟩ = some (.int .i64 p) from
          ⟨(hw.cell (p := ⟨g3, k * 4, none⟩) (by show g3 < _; omega)).trans a0, (hw.cell (p := ⟨g3, k * 4 + 1, none⟩) (by show g3 < _; omega)).trans a1, (hw.cell (p := ⟨g3, k * 4 + 2, none⟩) (by show g3 < _; omega)).trans a2, (hw.cell (p := ⟨g3, k * 4 + 3, none⟩) (by show g3 < _; omega)).trans a3,
           (hw.cell (p := ⟨g5, k * 4, none⟩) (by show g5 < _; omega)).trans d0, (hw.cell (p := ⟨g5, k * 4 + 1, none⟩) (by show g5 < _; omega)).trans d1, (hw.cell (p := ⟨g5, k * 4 + 2, none⟩) (by show g5 < _; omega)).trans d2, (hw.cell (p := ⟨g5, k * 4 + 3, none⟩) (by show g5 < _; omega)).trans d3,
           (hw.cell (p := ⟨w1.heap.size, 0, none⟩) (by show w1.heap.size < _; omega)).trans t0, (hw.cell (p := ⟨w1.heap.size, 1, none⟩) (by show w1.heap.size < _; omega)).trans t1, (hw.cell (p := ⟨w1.heap.size, 2, none⟩) (by show w1.heap.size < _; omega)).trans t2⟩)
        have HBB := Lib.hid hb
        have n1 : (y1 == y1) = true := by simp
        have n2 : (y2 == y2) = true := by simp
        have n3 : (y3 == y3) = true := by simp
        clear a0 a1 a2 a3 d0 d1 d2 d3 t0 t1 t2 x0 x1 x2 x3 z0 z1 z2 z3 hb U5 V5
        go_wp2_with fail
        have kA := HK.out wr.drew HBB.out.drew
        go_region_held3 (fun W => W.cell? ⟨g3, k * 4, none⟩ = some (.int .i64 1) ∧ W.cell? ⟨g3, k * 4 + 1, none⟩ = some (.int .i64 y1) ∧ W.cell? ⟨g3, k * 4 + 2, none⟩ = some (.int .i64 y2) ∧ W.cell? ⟨g3, k * 4 + 3, none⟩ = some (.int .i64 y3) ∧ W.cell? ⟨g5, k * 4, none⟩ = some (.int .i64 1) ∧ W.cell? ⟨g5, k * 4 + 1, none⟩ = some (.int .i64 y1) ∧ W.cell? ⟨g5, k * 4 + 2, none⟩ = some (.int .i64 y2) ∧ W.cell? ⟨g5, k * 4 + 3, none⟩ = some (.int .i64 y3) ∧ W.cell? ⟨w1.heap.size, 0, none⟩ = some (.int .i64 d) ∧ W.cell? ⟨w1.heap.size, 1, none⟩ = some (.int .i64 b) ∧ W.cell? ⟨w1.heap.size, 2, none⟩ = some (.int .i64 p))
          (first
            | with_reducible exact kA
            | with_reducible exact kB)
          (first
            | (go_at_call 17
               refine (HC.out _).mono ?_
               rintro e w6 ⟨rfl, b6⟩
               have HB6 := Lib.hid (HBB.out.drew.trans (b6.mono hzr))
               have kB := HK.out w6 HB6.out
               clear b6))
        all_goals
          clear kA kB HK HC
          go_wp2
          go_roundw
          case rel => exact ⟨k + 1, by omega, by go_num, HB6.out⟩
          case measure => simp [intOf]; omega
      · obtain rfl : k = m := by omega
        go_wp2
        go_ret
        exact ⟨rfl, B5.out.trans (hb.mono (by omega))⟩
end Go.Proofs.Ytikdmkfngdihhab
