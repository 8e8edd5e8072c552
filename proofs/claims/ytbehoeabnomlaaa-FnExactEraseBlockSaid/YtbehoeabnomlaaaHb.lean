/- Which blocks and pages a geometry has, in the program: the contracts. -/
import Derived.Test.YtbehoeabnomlaaaProg
import Derived.Test.YtbehoeabnomlaaaGeo
namespace Go.Proofs.Ytbehoeabnomlaaa
open Go.RowKit
set_option linter.unusedVariables false
theorem geoBlock_any (d b p x : Int) (r : Bool) (w : World) (hg : GeoOk d b p) (hr : r = true ↔ (0 ≤ x ∧ x < d * b)) : Calls Try.prog 103 #[.agg #[.int .i64 d, .int .i64 b, .int .i64 p], .int .i64 x] w fun e w' => e = .returned (.bool r) ∧ Below w.heap.size w w' := by
  have B0 := Lib.hid ((Below.refl w.heap.size w).alloc (Nat.le_refl _) (.cells #[.int .i64 d, .int .i64 b, .int .i64 p] 51))
  have HT := Lib.hid (fun (W : World) => total_any d b p W hg)
  generalize d * b = H at *
  clear hg
  by_cases h1 : 0 ≤ x
  case neg =>
    obtain rfl : r = false := (bool_of r hr).2 (fun e => h1 e.1)
    have d1 : decide (0 ≤ x) = false := by simp; omega
    have d1' : decide (x ≥ 0) = false := by simp; omega
    clear hr h1
    go_enter Try.func103, Try.ntmps103
    go_wp2
    go_ret
    exact ⟨rfl, B0.out⟩
  have d1 : decide (0 ≤ x) = true := by simp; omega
  have d1' : decide (x ≥ 0) = true := by simp; omega
  have HR := Lib.hid (show r = decide (x < H) by rw [Bool.eq_iff_iff, hr]; simp only [decide_eq_true_eq]; exact ⟨fun e => e.2, fun e => ⟨h1, e⟩⟩)
  clear hr h1
  go_enter Try.func103, Try.ntmps103
  go_wp2_with fail
  refine (HT.out _).mono ?_
  rintro e w1 ⟨rfl, b1⟩
  have B1 := Lib.hid (B0.out.trans (b1.mono (by simp)))
  clear b1
  go_wp2
  go_ret
  exact ⟨ret_bool HR.out.symm, B1.out⟩
end Go.Proofs.Ytbehoeabnomlaaa
