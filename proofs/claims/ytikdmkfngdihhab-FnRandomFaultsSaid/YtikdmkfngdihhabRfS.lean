/- Random faults, in the model and in the program: the contracts. -/
import Derived.Test.YtikdmkfngdihhabProg
import Derived.Test.YtikdmkfngdihhabRfN
import Derived.Test.YtikdmkfngdihhabFtM
import Derived.Test.YtikdmkfngdihhabGeo
import Derived.Deep.RegionLaw
import Derived.Deep.DeepCutAuto
namespace Go.Proofs.Ytikdmkfngdihhab
open Go.RowKit
set_option linter.unusedVariables false
def RfPost (n : Nat) (l : List Int) (c : Int) (w : World) (e : Ending) (w' : World) : Prop := ∃ u, e = .returned (.tuple #[u, .int .i64 c]) ∧ QOwn w' w.heap.size u n l ∧ Below w.heap.size w w'
set_option maxHeartbeats 4000000 in
set_option maxRecDepth 100000 in
theorem specRf_any (d b p seed count : Int) (n : Nat) (l : List Int) (c : Int) (w : World) (h : RfEnds d b p seed count n l c) :
    Calls Try.prog 16 #[.agg #[.int .i64 d, .int .i64 b, .int .i64 p], .int .i64 seed, .int .i64 count] w (RfPost n l c w) := by
  obtain ⟨r, hr⟩ := prop_dec' (GeoOk d b p)
  have HV := Lib.hid (fun (W : World) => specGeo_any d b p r W hr)
  have R0 := Lib.hid ((Rw.new w 24 #[.int .i64 d, .int .i64 b, .int .i64 p]).alloc (.cells #[] 35))
  have q0 := QOwn.made (w.alloc (.cells #[.int .i64 d, .int .i64 b, .int .i64 p] 24)) (B := w.heap.size + 1) (by simp)
  have Q0 := Lib.hid q0
  have B0 := Lib.hid (((Below.refl w.heap.size w).alloc (Nat.le_refl _) (.cells #[.int .i64 d, .int .i64 b, .int .i64 p] 24)).alloc (by simp) (.cells #[] 35))
  have hz : ((w.alloc (.cells #[.int .i64 d, .int .i64 b, .int .i64 p] 24)).alloc (.cells #[] 35)).heap.size = w.heap.size + 1 + 1 := by simp
  clear q0
  rcases h with h | ⟨h, hc⟩ | ⟨h, m, hm, h40⟩
  · obtain rfl : r = false := (bool_of r hr).2 h
    clear hr h
    go_enter Try.func16, Try.ntmps16
    go_wp2_with fail
    refine (HV.out _).mono ?_
    rintro e w1 ⟨rfl, b1⟩
    rw [hz] at b1
    have Q1 := Lib.hid (Q0.out.later b1 (by rw [hz]; omega))
    have B1 := Lib.hid (B0.out.trans (b1.mono (by omega)))
    clear b1
    go_wp2
    go_ret2
    simp only [World.size_alloc] at Q1
    exact ⟨_, rfl, Q1.out.low (by omega), B1.out⟩
  · obtain rfl : r = true := hr.2 h
    clear hr h
    go_enter Try.func16, Try.ntmps16
    go_wp2_with fail
    refine (HV.out _).mono ?_
    rintro e w1 ⟨rfl, b1⟩
    rw [hz] at b1
    have Q1 := Lib.hid (Q0.out.later b1 (by rw [hz]; omega))
    have B1 := Lib.hid (B0.out.trans (b1.mono (by omega)))
    clear b1
    go_wp2_with fail
    refine (inr_no count 0 40 _ hc).mono ?_
    rintro e w2 ⟨rfl, rfl⟩
    clear hc
    go_wp2
    go_ret2
    simp only [World.size_alloc] at Q1
    exact ⟨_, rfl, Q1.out.low (by omega), B1.out⟩
  · obtain rfl : r = true := hr.2 h
    subst hm
    have hB := h.mul
    have hp := h.p16
    have hmI : (n : Int) ≤ 40 := by omega
    obtain ⟨hB1, hB2⟩ := hB
    obtain ⟨hp1, hp2⟩ := hp
    obtain ⟨B, hBe⟩ : ∃ B, B = d * b := ⟨_, rfl⟩
    have hw : IntKind.i64.wrap (d * b) = B := by rw [← hBe]; exact IntWalk.i64_in _ (by omega)
    rw [← hBe] at hB1 hB2 ⊢
    clear hBe
    have hB0 : B ≠ 0 := by omega
    have hp0 : p ≠ 0 := by omega
    clear hr h
    have hso := rfSeed_ok seed
    have hts := tmod_bd seed
    have HSE := Lib.hid (show (seed.tmod 999999937 + 999999937) % 999999937 = rfSeed seed from rfl)
    go_enter Try.func16, Try.ntmps16
    go_wp2_with fail
    refine (HV.out _).mono ?_
    rintro e w1 ⟨rfl, b1⟩
    rw [hz] at b1
    have Q1 := Lib.hid (Q0.out.later b1 (by rw [hz]; omega))
    have R1 := Lib.hid (R0.out.below b1 (by omega))
    have B1 := Lib.hid (B0.out.trans (b1.mono (by omega)))
    have hs1 := b1.size
    clear b1
    go_wp2_with fail
    refine (inr_yes (n : Int) 0 40 _ (by omega) hmI).mono ?_
    rintro e w2 ⟨rfl, rfl⟩
    go_wp2
    generalize (seed.tmod 999999937) = ts at *
    generalize (ts + 999999937) % 999999937 = st0 at *
    go_loopw [8, 9, 10] (fun u s i wr => ∃ k : Nat, k ≤ n ∧ i = .int .i64 k ∧ s = .int .i64 (rfS (rfSeed seed) (k * 3)) ∧ QOwn wr (w.heap.size + 1) u k (rfL B p (rfSeed seed) k) ∧ Below (w.heap.size + 1) w1 wr) (fun _ _ i _ => n - (intOf i).toNat)
    case atStart => exact ⟨0, by omega, rfl, by rw [show st0 = rfSeed seed from HSE.out]; rfl, by have q := Q1.out; simpa [rfL] using q, Below.refl _ _⟩
    case round =>
      clear HSE hts Q1
      obtain ⟨k, hk, rfl, rfl, hown, hb⟩ := hrel
      have hz1 := hb.size
      by_cases hlt : k < n
      · have hki : (k : Int) < (n : Int) := by omega
        have ho0 := rfS_ok hso (k * 3)
        have HL := Lib.hid (show rfL B p (rfSeed seed) (k + 1) = rfL B p (rfSeed seed) k ++ [1, rfNext (rfS (rfSeed seed) (k * 3)) % B, rfNext (rfNext (rfS (rfSeed seed) (k * 3))) % p, rfNext (rfNext (rfNext (rfS (rfSeed seed) (k * 3)))) % 728] from rfl)
        have HT := Lib.hid (show rfS (rfSeed seed) ((k + 1) * 3) = rfNext (rfNext (rfNext (rfS (rfSeed seed) (k * 3)))) by rw [show (k + 1) * 3 = k * 3 + 1 + 1 + 1 by omega]; rfl)
        have R2 := Lib.hid (R1.out.below hb (by omega))
        generalize rfS (rfSeed seed) (k * 3) = s0 at *
        obtain ⟨s1, hs1⟩ : ∃ s1, s1 = rfNext s0 := ⟨_, rfl⟩
        obtain ⟨s2, hs2⟩ : ∃ s2, s2 = rfNext s1 := ⟨_, rfl⟩
        obtain ⟨s3, hs3⟩ : ∃ s3, s3 = rfNext s2 := ⟨_, rfl⟩
        have ho1 := rfNext_ok s0
        have ho2 := rfNext_ok s1
        have ho3 := rfNext_ok s2
        rw [← hs1, ← hs2, ← hs3] at HL HT
        rw [← hs1] at ho1
        rw [← hs2] at ho2
        rw [← hs3] at ho3
        unfold rfNext at hs1 hs2 hs3
        unfold RfOk at ho0 ho1 ho2 ho3
        have hm1 : s1.tmod B = s1 % B := Int.tmod_eq_emod_of_nonneg ho1.1
        have hm2 : s2.tmod p = s2 % p := Int.tmod_eq_emod_of_nonneg ho2.1
        have hm3 : s3.tmod 728 = s3 % 728 := Int.tmod_eq_emod_of_nonneg ho3.1
        have HS1 := Lib.hid hs1
        have HS2 := Lib.hid hs2
        have HS3 := Lib.hid hs3
        clear hs1 hs2 hs3
        have rb : ∀ x y z : Int, Rw (wr.alloc (.cells #[.int .i64 1, .int .i64 x, .int .i64 y, .int .i64 z] 35)).drew wr.heap.size 35 #[.int .i64 1, .int .i64 x, .int .i64 y, .int .i64 z] := fun x y z => Rw.new wr _ _
        have HRB := Lib.hid rb
        have OW := Lib.hid (fun (x y z : Int) => show QOwn (wr.alloc (.cells #[.int .i64 1, .int .i64 x, .int .i64 y, .int .i64 z] 35)).drew (w.heap.size + 1) u8 k (rfL B p (rfSeed seed) k) from hown.later ((Below.refl _ wr).alloc (Nat.le_refl _) _).drew (Nat.le_refl _))
        have HB := Lib.hid (fun (x y z : Int) => show Below (w.heap.size + 1) w1 (wr.alloc (.cells #[.int .i64 1, .int .i64 x, .int .i64 y, .int .i64 z] 35)).drew from (hb.alloc (by omega) _).drew)
        have HZ := Lib.hid (fun (x y z : Int) => show w.heap.size + 1 ≤ (wr.alloc (.cells #[.int .i64 1, .int .i64 x, .int .i64 y, .int .i64 z] 35)).drew.heap.size by simp; omega)
        clear rb hown hb
        obtain ⟨c0, c1, c2⟩ := R2.out.three
        go_wp2_with fail
        simp only [← HS1.out, ← HS2.out, ← HS3.out]
        go_region_law (refine step_append_fault rfl (.tmp 43) (.tmp 58) rfl u8 k (rfL B p (rfSeed seed) k) (by simp [Act.eval]) (OW.out _ _ _) (HB.out _ _ _) (HZ.out _ _ _) wr.heap.size 1 1 (s1 % B) (s2 % p) (s3 % 728) (by simp [Act.eval]) (HRB.out _ _ _) (by omega) ?_; intro v' w2 hown' hb')
        all_goals
          rw [← HL.out] at hown'
          go_wp2
          go_roundw
          case rel => exact ⟨k + 1, by omega, by go_num, by rw [HT.out], hown', hb'⟩
          case measure => simp [intOf]; omega
      · obtain rfl : k = n := by omega
        go_wp2
        go_ret2
        exact ⟨_, rfl, hown.low (by omega), B1.out.trans (hb.mono (by omega))⟩
end Go.Proofs.Ytikdmkfngdihhab
