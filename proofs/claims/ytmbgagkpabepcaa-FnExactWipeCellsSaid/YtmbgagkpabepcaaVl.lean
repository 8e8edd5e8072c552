/- How many logical pages there may be, in the program: the contract. -/
import Derived.Test.YtmbgagkpabepcaaProg
import Derived.Test.YtmbgagkpabepcaaEqI
namespace Go.Proofs.Ytmbgagkpabepcaa
open Go.RowKit
set_option linter.unusedVariables false
theorem validLogical_any (n : Int) (r : Bool) (w : World) (hr : r = true ↔ (1 ≤ n ∧ n ≤ 48)) : Calls Try.prog 111 #[.int .i64 n] w fun e w' => e = .returned (.bool r) ∧ w = w' := by
  by_cases h1 : 1 ≤ n
  case neg =>
    obtain rfl : r = false := not_true hr (fun e => h1 e.1)
    have d1 : decide (1 ≤ n) = false := by simp; omega
    have d1' : decide (n ≥ 1) = false := by simp; omega
    clear hr
    go_enter Try.func111, Try.ntmps111
    go_wp2
    go_ret
    exact ⟨rfl, rfl⟩
  have d1 : decide (1 ≤ n) = true := by simp; omega
  have d1' : decide (n ≥ 1) = true := by simp; omega
  obtain rfl : r = decide (n ≤ 48) := by
    rw [Bool.eq_iff_iff, hr]; simp only [decide_eq_true_eq]; exact ⟨fun e => e.2, fun e => ⟨h1, e⟩⟩
  clear hr
  go_enter Try.func111, Try.ntmps111
  go_wp2
  go_ret
  exact ⟨rfl, rfl⟩
end Go.Proofs.Ytmbgagkpabepcaa
