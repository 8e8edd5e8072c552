/- Which blocks and pages a geometry has, in the program: the contracts. -/
import Derived.Test.YtgamoiagpglcmaaProg
import Derived.Test.YtgamoiagpglcmaaGeo
namespace Go.Proofs.Ytgamoiagpglcmaa
open Go.RowKit
set_option linter.unusedVariables false
theorem geoBlock_any (d b p x : Int) (r : Bool) (w : World) (hg : GeoOk d b p) (hr : r = true ↔ (0 ≤ x ∧ x < d * b)) : Calls Try.prog 128 #[.agg #[.int .i64 d, .int .i64 b, .int .i64 p], .int .i64 x] w fun e w' => e = .returned (.bool r) ∧ Below w.heap.size w w' := by
  have B0 := Lib.hid ((Below.refl w.heap.size w).alloc (Nat.le_refl _) (.cells #[.int .i64 d, .int .i64 b, .int .i64 p] 76))
  have HT := Lib.hid (fun (W : World) => total_any d b p W hg)
  generalize d * b = H at *
  clear hg
  by_cases h1 : 0 ≤ x
  case neg =>
    obtain rfl : r = false := (bool_of r hr).2 (fun e => h1 e.1)
    have d1 : decide (0 ≤ x) = false := by simp; omega
    have d1' : decide (x ≥ 0) = false := by simp; omega
    clear hr h1
    go_enter Try.func128, Try.ntmps128
    go_wp2
    go_ret
    exact ⟨rfl, B0.out⟩
  have d1 : decide (0 ≤ x) = true := by simp; omega
  have d1' : decide (x ≥ 0) = true := by simp; omega
  have HR := Lib.hid (show r = decide (x < H) by rw [Bool.eq_iff_iff, hr]; simp only [decide_eq_true_eq]; exact ⟨fun e => e.2, fun e => ⟨h1, e⟩⟩)
  clear hr h1
  go_enter Try.func128, Try.ntmps128
  go_wp2_with fail
  refine (HT.out _).mono ?_
  rintro e w1 ⟨rfl, b1⟩
  have B1 := Lib.hid (B0.out.trans (b1.mono (by simp)))
  clear b1
  go_wp2
  go_ret
  exact ⟨ret_bool HR.out.symm, B1.out⟩
theorem geoPage_any (d b p x y : Int) (r : Bool) (w : World) (hg : GeoOk d b p) (hr : r = true ↔ ((0 ≤ x ∧ x < d * b) ∧ (0 ≤ y ∧ y < p))) : Calls Try.prog 217 #[.agg #[.int .i64 d, .int .i64 b, .int .i64 p], .int .i64 x, .int .i64 y] w fun e w' => e = .returned (.bool r) ∧ Below w.heap.size w w' := by
  have B0 := Lib.hid ((Below.refl w.heap.size w).alloc (Nat.le_refl _) (.cells #[.int .i64 d, .int .i64 b, .int .i64 p] 76))
  have R0 := Lib.hid (Rw.new w 76 #[.int .i64 d, .int .i64 b, .int .i64 p])
  obtain ⟨rb, hrb⟩ := prop_dec' (0 ≤ x ∧ x < d * b)
  have HB := Lib.hid (fun (W : World) => geoBlock_any d b p x rb W hg hrb)
  clear hg
  cases rb with
  | false =>
    have hb : ¬ (0 ≤ x ∧ x < d * b) := fun e => by have := hrb.2 e; cases this
    obtain rfl : r = false := (bool_of r hr).2 (fun e => hb e.1)
    clear hr hb hrb
    go_enter Try.func217, Try.ntmps217
    go_wp2_with fail
    refine (HB.out _).mono ?_
    rintro e w1 ⟨rfl, b1⟩
    have B1 := Lib.hid (B0.out.trans (b1.mono (by simp)))
    clear b1
    go_wp2
    go_ret
    exact ⟨rfl, B1.out⟩
  | true =>
    have hb : 0 ≤ x ∧ x < d * b := hrb.1 rfl
    have HR := Lib.hid (show r = (decide (0 ≤ y) && decide (y < p)) by rw [Bool.eq_iff_iff, hr]; simp only [Bool.and_eq_true, decide_eq_true_eq]; exact ⟨fun e => e.2, fun e => ⟨hb, e⟩⟩)
    clear hr hb hrb
    by_cases h1 : 0 ≤ y
    · have d1 : decide (0 ≤ y) = true := by simp; omega
      have d1' : decide (y ≥ 0) = true := by simp; omega
      have HR := Lib.hid (show r = decide (y < p) by rw [HR.out, d1, Bool.true_and])
      go_enter Try.func217, Try.ntmps217
      go_wp2_with fail
      refine (HB.out _).mono ?_
      rintro e w1 ⟨rfl, b1⟩
      have B1 := Lib.hid (B0.out.trans (b1.mono (by simp)))
      obtain ⟨a0, a1, a2⟩ := (R0.out.below b1 (by simp)).three
      clear b1
      go_wp2
      go_ret
      exact ⟨ret_bool HR.out.symm, B1.out⟩
    · have d1 : decide (0 ≤ y) = false := by simp; omega
      have d1' : decide (y ≥ 0) = false := by simp; omega
      have HR := Lib.hid (show r = false by rw [HR.out, d1, Bool.false_and])
      go_enter Try.func217, Try.ntmps217
      go_wp2_with fail
      refine (HB.out _).mono ?_
      rintro e w1 ⟨rfl, b1⟩
      have B1 := Lib.hid (B0.out.trans (b1.mono (by simp)))
      obtain ⟨a0, a1, a2⟩ := (R0.out.below b1 (by simp)).three
      clear b1
      go_wp2
      go_ret
      exact ⟨ret_bool HR.out.symm, B1.out⟩
end Go.Proofs.Ytgamoiagpglcmaa
