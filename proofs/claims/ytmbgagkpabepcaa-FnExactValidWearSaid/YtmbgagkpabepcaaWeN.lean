/- Plain data: Wear. -/
import Derived.Test.YtmbgagkpabepcaaTbN
namespace Go.Proofs.Ytmbgagkpabepcaa
open Go.RowKit
set_option linter.unusedVariables false
structure We where
  e : List Int
  b : List Bool
  c : List Int
  n : Int
def We.zero : We := ⟨[], [], [], 0⟩
instance : Inhabited We := ⟨We.zero⟩
/-- It fits. -/
def WeSz (M : We) : Prop := M.e.length + M.b.length + M.c.length ≤ 1048576
theorem We.zero_sz : WeSz We.zero := by unfold WeSz We.zero; simp
end Go.Proofs.Ytmbgagkpabepcaa
