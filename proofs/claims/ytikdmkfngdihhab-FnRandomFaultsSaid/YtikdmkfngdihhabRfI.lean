/- Random faults in the program: the contract. -/
import Derived.Test.YtikdmkfngdihhabProg
import Derived.Test.YtikdmkfngdihhabRfS
namespace Go.Proofs.Ytikdmkfngdihhab
open Go.RowKit
set_option linter.unusedVariables false
theorem draw_any (g : Nat) (s m : Int) (w : World) (h : Rw w g 2 #[.int .i64 s]) (hs : RfOk s) (hm : 1 ≤ m) (hm2 : m ≤ 1000) :
    Calls Try.prog 56 #[.int .i64 m, .pointer (some ⟨g, 0, none⟩)] w fun e w' => e = .returned (.int .i64 (rfNext s % m)) ∧ Rw w' g 2 #[.int .i64 (rfNext s)] ∧ w.grownBy w' (some g) := by
  have c0 := h.cell 0
  have f0 := h.free 0
  have hn := rfNext_ok s
  have h1 := h.set_ 0 (.int .i64 (rfNext s))
  have H1 := Lib.hid h1
  have hx : (48271 * s + 11) % 999999937 = rfNext s := rfl
  unfold RfOk at hs hn
  have hm0 : m ≠ 0 := by omega
  have ht : (rfNext s).tmod m = rfNext s % m := Int.tmod_eq_emod_of_nonneg hn.1
  generalize rfNext s = s1 at *
  have HX := Lib.hid hx
  clear hx h h1
  simp at c0
  go_enter Try.func56, Try.ntmps56
  go_wp2
  rw [show (48271 * s + 11) % 999999937 = s1 from HX.out]
  go_ret
  exact ⟨rfl, H1.out, grown_set (grown_refl w (some g)) _⟩
theorem QOwn.grow {w w' : World} {B n g : Nat} {v : Value} {l : List Int} (h : QOwn w B v n l) (hg : w.grownBy w' (some g)) (hne : v.ownBlock ≠ some g) : QOwn w' B v n l := h.sames fun k e => hg.block k (h.blockOf e).2 (fun e2 => hne (by rw [e, e2]))
theorem Rw.grow {w w' : World} {g k : Nat} {t : TypeId} {cs : Array Value} (h : Rw w k t cs) (hg : w.grownBy w' (some g)) (hne : k ≠ g) : Rw w' k t cs := (hg.block k h.lt (fun e => hne (by injection e))).trans h
theorem rf_set4 (L : List Int) (k n : Nat) (x0 x1 x2 x3 : Int) (hL : L.length = k * 4) (h : k < n) :
    ((((L ++ List.replicate (n * 4 - k * 4) (0 : Int)).set (k * 4) x0).set (k * 4 + 1) x1).set (k * 4 + 2) x2).set (k * 4 + 3) x3 = L ++ [x0, x1, x2, x3] ++ List.replicate (n * 4 - (k + 1) * 4) 0 := by
  rw [show n * 4 - k * 4 = (n * 4 - (k + 1) * 4) + 1 + 1 + 1 + 1 by omega]
  simp only [List.replicate_succ]
  rw [List.set_append_right _ _ (by omega), List.set_append_right _ _ (by omega), List.set_append_right _ _ (by omega), List.set_append_right _ _ (by omega), hL, Nat.sub_self, show k * 4 + 1 - k * 4 = 1 by omega, show k * 4 + 2 - k * 4 = 2 by omega, show k * 4 + 3 - k * 4 = 3 by omega]
  simp
set_option maxHeartbeats 4000000 in
set_option maxRecDepth 100000 in
theorem implRf_any (d b p seed count : Int) (n : Nat) (l : List Int) (c : Int) (w : World) (h : RfEnds d b p seed count n l c) :
    Calls Try.prog 15 #[.agg #[.int .i64 d, .int .i64 b, .int .i64 p], .int .i64 seed, .int .i64 count] w (RfPost n l c w) := by
  obtain ⟨r, hr⟩ := prop_dec' (GeoOk d b p)
  have HV := Lib.hid (fun (W : World) => implGeo_any d b p r W hr)
  have R0 := Lib.hid (Rw.new w 24 #[.int .i64 d, .int .i64 b, .int .i64 p])
  have B0 := Lib.hid ((Below.refl w.heap.size w).alloc (Nat.le_refl _) (.cells #[.int .i64 d, .int .i64 b, .int .i64 p] 24))
  have hz : (w.alloc (.cells #[.int .i64 d, .int .i64 b, .int .i64 p] 24)).heap.size = w.heap.size + 1 := by simp
  rcases h with h | ⟨h, hc⟩ | ⟨h, _, hm, h40⟩
  · obtain rfl : r = false := (bool_of r hr).2 h
    clear hr h
    obtain ⟨c0, c1, c2⟩ := R0.out.three
    go_enter Try.func15, Try.ntmps15
    go_wp2_with fail
    refine (HV.out _).mono ?_
    rintro e w1 ⟨rfl, b1⟩
    rw [hz] at b1
    have B1 := Lib.hid (B0.out.trans (b1.mono (by omega)))
    clear b1 c0 c1 c2
    go_wp2
    go_ret2
    exact ⟨_, rfl, QOwn.nil _ _, B1.out⟩
  · obtain rfl : r = true := hr.2 h
    clear hr h
    obtain ⟨c0, c1, c2⟩ := R0.out.three
    go_enter Try.func15, Try.ntmps15
    go_wp2_with fail
    refine (HV.out _).mono ?_
    rintro e w1 ⟨rfl, b1⟩
    rw [hz] at b1
    have B1 := Lib.hid (B0.out.trans (b1.mono (by omega)))
    clear b1 c0 c1 c2
    by_cases hneg : count < 0
    · clear hc
      go_wp2
      go_ret2
      exact ⟨_, rfl, QOwn.nil _ _, B1.out⟩
    · have h40 : (40 : Int) < count := by omega
      clear hc
      go_wp2
      go_ret2
      exact ⟨_, rfl, QOwn.nil _ _, B1.out⟩
  · obtain rfl : r = true := hr.2 h
    subst hm
    have HD := Lib.hid (fun (W : World) => total_any d b p W h)
    obtain ⟨hB1, hB2⟩ := h.mul
    obtain ⟨hp1, hp2⟩ := h.p16
    have hmI : (n : Int) ≤ 40 := by omega
    clear hr h
    generalize d * b = B at *
    have hso := rfSeed_ok seed
    have hts := tmod_bd seed
    have HSE := Lib.hid (show seed.tmod 999999937 % 999999937 = rfSeed seed by unfold rfSeed; omega)
    obtain ⟨c0, c1, c2⟩ := R0.out.three
    go_enter Try.func15, Try.ntmps15
    go_wp2_with fail
    refine (HV.out _).mono ?_
    rintro e w1 ⟨rfl, b1⟩
    rw [hz] at b1
    have R1 := Lib.hid (R0.out.below b1 (by omega))
    have B1 := Lib.hid (B0.out.trans (b1.mono (by omega)))
    have hz1 := b1.size
    rw [hz] at hz1
    clear b1 c0 c1 c2
    go_wp2_with (refine wpList_make_faults rfl _ _ rfl n rfl rfl (by omega) (Below.refl (w1.heap.size + 1) _) (by simp) ?_; intro w2 hown hb)
    simp only [World.size_alloc] at hown hb
    have hz2 := hb.size
    simp only [World.size_alloc] at hz2
    have RS := Lib.hid ((Rw.new w1 2 #[.int .i64 (seed.tmod 999999937 % 999999937)]).below hb (by omega))
    have RG := Lib.hid ((R1.out.alloc (.cells #[.int .i64 (seed.tmod 999999937 % 999999937)] 2)).below hb (by omega))
    have BB := Lib.hid ((B1.out.alloc (by omega) _).trans (hb.mono (by omega)))
    clear hb
    generalize (seed.tmod 999999937) = ts at *
    generalize ts % 999999937 = st0 at *
    go_loopw [30] (fun i wr => ∃ k : Nat, k ≤ n ∧ i = .int .i64 k ∧ QOwn wr (w1.heap.size + 1) (.slice (some ⟨w1.heap.size + 1, 0, none⟩) n n) n (rfL B p (rfSeed seed) k ++ List.replicate (n * 4 - k * 4) 0) ∧
      Rw wr w1.heap.size 2 #[.int .i64 (rfS (rfSeed seed) (k * 3))] ∧ Rw wr w.heap.size 24 #[.int .i64 d, .int .i64 b, .int .i64 p] ∧ Below w.heap.size w wr) (fun i _ => n - (intOf i).toNat)
    case atStart => exact ⟨0, by omega, rfl, by simpa [rfL] using hown, by have q := RS.out; rw [show st0 = rfSeed seed from HSE.out] at q; exact q, RG.out, BB.out⟩
    case round =>
      clear HSE hts RS RG BB hown
      obtain ⟨k, hk, rfl, hown, hR, hG, hb⟩ := hrel
      have hz3 := hown.blockOf rfl
      by_cases hlt : k < n
      · have hki : (k : Int) < (n : Int) := by omega
        have ho0 := rfS_ok hso (k * 3)
        have HL := Lib.hid (show rfL B p (rfSeed seed) (k + 1) = rfL B p (rfSeed seed) k ++ [1, rfNext (rfS (rfSeed seed) (k * 3)) % B, rfNext (rfNext (rfS (rfSeed seed) (k * 3))) % p, rfNext (rfNext (rfNext (rfS (rfSeed seed) (k * 3)))) % 728] from rfl)
        have HT := Lib.hid (show rfS (rfSeed seed) ((k + 1) * 3) = rfNext (rfNext (rfNext (rfS (rfSeed seed) (k * 3)))) by rw [show (k + 1) * 3 = k * 3 + 1 + 1 + 1 by omega]; rfl)
        have HS4 := Lib.hid (fun x0 x1 x2 x3 => rf_set4 (rfL B p (rfSeed seed) k) k n x0 x1 x2 x3 (rfL_length _ _ _ _) hlt)
        generalize rfS (rfSeed seed) (k * 3) = s0 at *
        have HO0 := Lib.hid ho0
        have d0 := hown.cell (j := k * 4) (by omega)
        have f0 := hown.free (k * 4)
        have hown := hown.stored (k * 4) 1
        have hR := hR.farA (g' := w1.heap.size + 1) (k := k * 4) (by omega) (.int .i64 1)
        have hG := hG.farA (g' := w1.heap.size + 1) (k := k * 4) (by omega) (.int .i64 1)
        have hb := bset hb (g := w1.heap.size + 1) (k := k * 4) (by omega) (.int .i64 1)
        have Q1 := Lib.hid hown
        have S1 := Lib.hid hR
        have G1 := Lib.hid hG
        have BB1 := Lib.hid hb
        obtain ⟨c0, c1, c2⟩ := hG.three
        clear hown hR hG hb ho0
        go_wp2_with fail
        refine (HD.out _).mono ?_
        rintro e w3 ⟨rfl, b3⟩
        have z3 := b3.size
        simp only [World.size_setCell] at z3 b3
        have Q2 := Lib.hid (Q1.out.later b3 (by simp))
        have S2 := Lib.hid (S1.out.below b3 (by omega))
        have G2 := Lib.hid (G1.out.below b3 (by omega))
        have BB2 := Lib.hid (BB1.out.trans (b3.mono (by omega)))
        clear b3 Q1 S1 G1 BB1 c0 c1 c2 d0 f0
        go_wp2_with fail
        refine (draw_any w1.heap.size s0 B _ S2.out HO0.out (by omega) (by omega)).mono ?_
        rintro e w4 ⟨rfl, hr4, hg4⟩
        have z4 := hg4.size
        try simp only [World.size_setCell] at z4
        have q := Q2.out.grow hg4 (by simp [Value.ownBlock])
        have d1 := q.cell (j := k * 4 + 1) (by omega)
        have f1 := q.free (k * 4 + 1)
        have Q3 := Lib.hid (q.stored (k * 4 + 1) (rfNext s0 % B))
        have S3 := Lib.hid (hr4.farA (g' := w1.heap.size + 1) (k := k * 4 + 1) (by omega) (.int .i64 (rfNext s0 % B)))
        have G3 := Lib.hid ((G2.out.grow hg4 (by omega)).farA (g' := w1.heap.size + 1) (k := k * 4 + 1) (by omega) (.int .i64 (rfNext s0 % B)))
        have BB3 := Lib.hid (bset (BB2.out.grown hg4 (by first | omega | (simp; omega)) (fun j hj => by injection hj with hj; omega)) (g := w1.heap.size + 1) (k := k * 4 + 1) (by omega) (.int .i64 (rfNext s0 % B)))
        obtain ⟨c0, c1, c2⟩ := (Lib.hid (G2.out.grow hg4 (by omega))).out.three
        clear q hr4 hg4 Q2 S2 G2 BB2
        go_wp2_with fail
        refine (draw_any w1.heap.size (rfNext s0) p _ S3.out (rfNext_ok _) (by omega) (by omega)).mono ?_
        rintro e w5 ⟨rfl, hr5, hg5⟩
        have z5 := hg5.size
        try simp only [World.size_setCell] at z5
        have q := Q3.out.grow hg5 (by simp [Value.ownBlock])
        have d1 := q.cell (j := k * 4 + 2) (by omega)
        have f1 := q.free (k * 4 + 2)
        have Q4 := Lib.hid (q.stored (k * 4 + 2) (rfNext (rfNext s0) % p))
        have S4 := Lib.hid (hr5.farA (g' := w1.heap.size + 1) (k := k * 4 + 2) (by omega) (.int .i64 (rfNext (rfNext s0) % p)))
        have G4 := Lib.hid ((G3.out.grow hg5 (by omega)).farA (g' := w1.heap.size + 1) (k := k * 4 + 2) (by omega) (.int .i64 (rfNext (rfNext s0) % p)))
        have BB4 := Lib.hid (bset (BB3.out.grown hg5 (by first | omega | (simp; omega)) (fun j hj => by injection hj with hj; omega)) (g := w1.heap.size + 1) (k := k * 4 + 2) (by omega) (.int .i64 (rfNext (rfNext s0) % p)))
        obtain ⟨c0, c1, c2⟩ := (Lib.hid (G3.out.grow hg5 (by omega))).out.three
        clear q hr5 hg5 Q3 S3 G3 BB3
        go_wp2_with fail
        refine (draw_any w1.heap.size (rfNext (rfNext s0)) 728 _ S4.out (rfNext_ok _) (by omega) (by omega)).mono ?_
        rintro e w6 ⟨rfl, hr6, hg6⟩
        have z6 := hg6.size
        try simp only [World.size_setCell] at z6
        have q := Q4.out.grow hg6 (by simp [Value.ownBlock])
        have d1 := q.cell (j := k * 4 + 3) (by omega)
        have f1 := q.free (k * 4 + 3)
        have Q5 := Lib.hid (q.stored (k * 4 + 3) (rfNext (rfNext (rfNext s0)) % 728))
        have S5 := Lib.hid (hr6.farA (g' := w1.heap.size + 1) (k := k * 4 + 3) (by omega) (.int .i64 (rfNext (rfNext (rfNext s0)) % 728)))
        have G5 := Lib.hid ((G4.out.grow hg6 (by omega)).farA (g' := w1.heap.size + 1) (k := k * 4 + 3) (by omega) (.int .i64 (rfNext (rfNext (rfNext s0)) % 728)))
        have BB5 := Lib.hid (bset (BB4.out.grown hg6 (by first | omega | (simp; omega)) (fun j hj => by injection hj with hj; omega)) (g := w1.heap.size + 1) (k := k * 4 + 3) (by omega) (.int .i64 (rfNext (rfNext (rfNext s0)) % 728)))
        obtain ⟨c0, c1, c2⟩ := (Lib.hid (G4.out.grow hg6 (by omega))).out.three
        clear q hr6 hg6 Q4 S4 G4 BB4
        go_wp2
        go_roundw
        case rel =>
          have q := Q5.out
          rw [HS4.out, ← HL.out] at q
          exact ⟨k + 1, by omega, by go_num, q, by rw [HT.out]; exact S5.out, G5.out, BB5.out⟩
        case measure => simp [intOf]; omega
      · obtain rfl : k = n := by omega
        rw [Nat.sub_self, List.replicate_zero, List.append_nil] at hown
        clear hR hG
        go_wp2
        go_ret2
        exact ⟨_, rfl, hown.low (by omega), hb⟩
end Go.Proofs.Ytikdmkfngdihhab
