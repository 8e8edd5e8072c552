/- The greater of two integers, in the model: the contract. -/
import Derived.Test.YtmbgagkpabepcaaProg
import Derived.Test.YtmbgagkpabepcaaWords
import Derived.Deep.RegionLaw
import Derived.StillTailTactics
namespace Go.Proofs.Ytmbgagkpabepcaa
open Go.RowKit
set_option linter.unusedVariables false
set_option linter.unusedSimpArgs false

theorem max00_any (a b m : Int) (w : World) (hm : m = max a b) : Calls Try.prog 64 #[.int .i64 a, .int .i64 b] w fun e w' => e = .returned (.int .i64 m) ∧ w = w' := by
  by_cases h : a > b
  · have d1 : decide (a > b) = true := by simpa using h
    have d2 : decide (b < a) = true := by simpa using h
    obtain rfl : m = a := by omega
    clear h hm
    go_enter Try.func64, Try.ntmps64
    go_wp2
    go_ret
    exact ⟨rfl, rfl⟩
  · have d1 : decide (a > b) = false := by simpa using h
    have d2 : decide (b < a) = false := by simpa using h
    obtain rfl : m = b := by omega
    clear h hm
    go_enter Try.func64, Try.ntmps64
    go_wp2
    go_ret
    exact ⟨rfl, rfl⟩
end Go.Proofs.Ytmbgagkpabepcaa
