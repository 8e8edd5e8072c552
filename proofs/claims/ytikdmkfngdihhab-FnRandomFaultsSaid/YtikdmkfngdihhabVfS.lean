/- Which faults are valid, in the model: the contract. -/
import Derived.Test.YtikdmkfngdihhabProg
import Derived.Test.YtikdmkfngdihhabVfN
import Derived.Test.YtikdmkfngdihhabGeo
import Derived.Test.YtikdmkfngdihhabEqI
namespace Go.Proofs.Ytikdmkfngdihhab
open Go.RowKit
set_option linter.unusedVariables false
theorem inr_r (n l h : Int) (r : Bool) (w : World) (hr : r = true ↔ (l ≤ n ∧ n ≤ h)) : Calls Try.prog 59 #[.int .i64 n, .int .i64 l, .int .i64 h] w fun e w' => e = .returned (.bool r) ∧ w = w' := by
  cases r
  · exact inr_no _ _ _ _ (fun e => by have := hr.2 e; cases this)
  · exact inr_yes _ _ _ _ (hr.1 rfl).1 (hr.1 rfl).2
set_option maxHeartbeats 8000000 in
set_option maxRecDepth 100000 in
theorem specVf_any (d b p k B P T : Int) (r : Bool) (w : World) (hr : r = true ↔ FtOk d b p ⟨k, B, P, T⟩) :
    Calls Try.prog 17 #[.agg #[.int .i64 d, .int .i64 b, .int .i64 p], .agg #[.int .i64 k, .int .i64 B, .int .i64 P, .int .i64 T]] w fun e w' => e = .returned (.bool r) ∧ Below w.heap.size w w' := by
  obtain ⟨rg, hg⟩ := prop_dec' (GeoOk d b p)
  obtain ⟨x1, h1⟩ := prop_dec' (0 ≤ B ∧ B ≤ d * b - 1)
  obtain ⟨x2, h2⟩ := prop_dec' (0 ≤ P ∧ P ≤ p - 1)
  obtain ⟨x3, h3⟩ := prop_dec' (0 ≤ T ∧ T ≤ 727)
  obtain ⟨x4, h4⟩ := prop_dec' (0 ≤ P ∧ P ≤ 1000000)
  obtain ⟨x5, h5⟩ := prop_dec' (0 ≤ T ∧ T ≤ 91)
  have HG := Lib.hid (fun (W : World) => specGeo_any d b p rg W hg)
  have H1 := Lib.hid (fun (W : World) => inr_r B 0 (d * b - 1) x1 W h1)
  have H2 := Lib.hid (fun (W : World) => inr_r P 0 (p - 1) x2 W h2)
  have H3 := Lib.hid (fun (W : World) => inr_r T 0 727 x3 W h3)
  have H4 := Lib.hid (fun (W : World) => inr_r P 0 1000000 x4 W h4)
  have H5 := Lib.hid (fun (W : World) => inr_r T 0 91 x5 W h5)
  obtain ⟨r0, r1, b0⟩ := Rw.two_new w 24 35 #[.int .i64 d, .int .i64 b, .int .i64 p] #[.int .i64 k, .int .i64 B, .int .i64 P, .int .i64 T]
  have R0 := Lib.hid r0
  have R1 := Lib.hid r1
  have B0 := Lib.hid b0
  clear r0 r1 b0
  by_cases g : GeoOk d b p
  case neg =>
    obtain rfl : rg = false := (bool_of rg hg).2 g
    obtain rfl : r = false := not_true hr (fun e => g e.1)
    clear hr hg g h1 h2 h3 h4 h5 H1 H2 H3 H4 H5
    go_enter Try.func17, Try.ntmps17
    go_wp2_with fail
    refine (HG.out _).mono ?_
    rintro e w1 ⟨rfl, b1⟩
    simp only [World.size_alloc] at b1
    have B1 := Lib.hid (B0.out.trans (b1.mono (by omega)))
    clear b1
    go_wp2
    go_ret
    exact ⟨rfl, B1.out⟩
  obtain rfl : rg = true := hg.2 g
  obtain ⟨hq1, hq2⟩ := g.mul
  have hp := g.p16
  have hr : r = true ↔ FtIn (d * b) p ⟨k, B, P, T⟩ := by rw [hr]; exact ⟨fun e => e.2, fun e => ⟨g, e⟩⟩
  clear g hg
  generalize hq : d * b = q at *
  have hw : IntKind.i64.wrap (d * b) = q := by rw [hq]; exact IntWalk.i64_in _ (by omega)
  have X1 := Lib.hid h1
  have X2 := Lib.hid h2
  have X3 := Lib.hid h3
  have X4 := Lib.hid h4
  have X5 := Lib.hid h5
  clear h1 h2 h3 h4 h5 hq
  go_enter Try.func17, Try.ntmps17
  go_wp2_with fail
  refine (HG.out _).mono ?_
  rintro e w1 ⟨rfl, b1⟩
  simp only [World.size_alloc] at b1
  have B1 := Lib.hid (B0.out.trans (b1.mono (by omega)))
  obtain ⟨c0, c1, c2⟩ := (Lib.hid (R0.out.below b1 (by omega))).out.three
  obtain ⟨d0, d1, d2, d3⟩ := (Lib.hid (R1.out.below b1 (by omega))).out.four
  clear b1 R0 R1 B0
  go_wp2_with fail
  refine (H1.out _).mono ?_
  rintro e w2 ⟨rfl, rfl⟩
  go_wp2_with fail
  refine (H2.out _).mono ?_
  rintro e w2 ⟨rfl, rfl⟩
  go_wp2_with fail
  refine (H3.out _).mono ?_
  rintro e w2 ⟨rfl, rfl⟩
  have HR := Lib.hid hr
  clear hr
  rcases kinds k with rfl | rfl | rfl | rfl | rfl | hk
  case inr.inr.inr.inr.inr =>
    obtain rfl : r = false := not_true HR.out (FtIn.kn hk)
    obtain ⟨k1, k2, k3, k4, k5⟩ := hk
    have e1 : (k == 1) = false := by simpa using k1
    have e2 : (k == 2) = false := by simpa using k2
    have e3 : (k == 3) = false := by simpa using k3
    have e4 : (k == 4) = false := by simpa using k4
    have e5 : (k == 5) = false := by simpa using k5
    clear HR
    go_wp2
    go_ret
    exact ⟨rfl, B1.out⟩
  case inl =>
    have hv := HR.out
    rw [FtIn.k1, ← X1.out, ← X2.out, ← X3.out] at hv
    have hv : r = (x1 && x2 && x3) := by rw [Bool.eq_iff_iff, hv]; simp [and_assoc]
    subst hv
    clear HR
    cases x1 <;> cases x2 <;> cases x3
    all_goals
      go_wp2
      go_ret
      exact ⟨rfl, B1.out⟩
  case inr.inl =>
    have hv := HR.out
    rw [FtIn.k2, ← X1.out, ← X2.out, ← X3.out] at hv
    have hv : r = (x1 && x2 && x3) := by rw [Bool.eq_iff_iff, hv]; simp [and_assoc]
    subst hv
    clear HR
    cases x1 <;> cases x2 <;> cases x3
    all_goals
      go_wp2
      go_ret
      exact ⟨rfl, B1.out⟩
  case inr.inr.inl =>
    have hv := HR.out
    rw [FtIn.k3, ← X1.out, ← X3.out] at hv
    have hv : r = (x1 && x3 && (P == 0)) := by rw [Bool.eq_iff_iff, hv]; simp [and_assoc]
    subst hv
    clear HR
    cases x1 <;> cases x3
    all_goals
      go_wp2
      go_ret
      exact ⟨by simp, B1.out⟩
  case inr.inr.inr.inl =>
    have hv := HR.out
    rw [FtIn.k4, ← X1.out] at hv
    have hv : r = (x1 && (P == 0) && (T == 0)) := by rw [Bool.eq_iff_iff, hv]; simp [and_assoc]
    have HV := Lib.hid hv
    clear HR hv
    by_cases hP : P = 0
    · have eP : (P == 0) = true := by simpa using hP
      have HP := Lib.hid eP
      clear hP
      cases x1
      all_goals
        go_wp2
        go_ret
        exact ⟨ret_bool (by rw [HV.out, HP.out]; simp), B1.out⟩
    · have eP : (P == 0) = false := by simpa using hP
      have HP := Lib.hid eP
      clear hP
      cases x1
      all_goals
        go_wp2
        go_ret
        exact ⟨ret_bool (by rw [HV.out, HP.out]; simp), B1.out⟩
  case inr.inr.inr.inr.inl =>
    have hv := HR.out
    rw [FtIn.k5, ← X4.out, ← X5.out] at hv
    have hv : r = ((B == 0) && x4 && x5) := by rw [Bool.eq_iff_iff, hv]; simp [and_assoc]
    have HV := Lib.hid hv
    clear HR hv
    by_cases hB : B = 0
    · have eB : (B == 0) = true := by simpa using hB
      have HP := Lib.hid eB
      clear hB
      go_wp2_with fail
      refine (H4.out _).mono ?_
      rintro e w2 ⟨rfl, rfl⟩
      cases x4
      · go_wp2
        go_ret
        exact ⟨ret_bool (by rw [HV.out, HP.out]; simp), B1.out⟩
      · go_wp2_with fail
        refine (H5.out _).mono ?_
        rintro e w2 ⟨rfl, rfl⟩
        go_wp2
        go_ret
        exact ⟨ret_bool (by rw [HV.out, HP.out]; simp), B1.out⟩
    · have eB : (B == 0) = false := by simpa using hB
      have HP := Lib.hid eB
      clear hB
      go_wp2
      go_ret
      exact ⟨ret_bool (by rw [HV.out, HP.out]; simp), B1.out⟩
end Go.Proofs.Ytikdmkfngdihhab
