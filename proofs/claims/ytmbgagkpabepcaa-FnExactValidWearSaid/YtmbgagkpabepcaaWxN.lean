/- States of the blocks as plain data: which are valid. No program in it. -/
import Derived.Test.YtmbgagkpabepcaaWeN
namespace Go.Proofs.Ytmbgagkpabepcaa
open Go.RowKit
set_option linter.unusedVariables false
/-- One block's values are valid. -/
def WlOk (e : List Int) (b : List Bool) (c : List Int) (i : Nat) : Prop := (0 ≤ e.getD i 0 ∧ e.getD i 0 ≤ 1000) ∧ (0 ≤ c.getD i 0 ∧ c.getD i 0 ≤ 2) ∧ (c.getD i 0 = 0 ∨ b.getD i false = false)
def WeOk (M : We) : Prop := (1 ≤ M.e.length ∧ M.e.length ≤ 36) ∧ M.b.length = M.e.length ∧ M.c.length = M.e.length ∧ (1 ≤ M.n ∧ M.n ≤ 100) ∧ ∀ i, i < M.e.length → WlOk M.e M.b M.c i
end Go.Proofs.Ytmbgagkpabepcaa
