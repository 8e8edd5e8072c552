/- Plain data: Cells. -/
import Derived.Test.YtmbgagkpabepcaaTbN
namespace Go.Proofs.Ytmbgagkpabepcaa
open Go.RowKit
set_option linter.unusedVariables false
structure Ce where
  c : List Int
def Ce.zero : Ce := ⟨[]⟩
instance : Inhabited Ce := ⟨Ce.zero⟩
/-- It fits. -/
def CeSz (M : Ce) : Prop := M.c.length ≤ 1048576
theorem Ce.zero_sz : CeSz Ce.zero := by unfold CeSz Ce.zero; simp
end Go.Proofs.Ytmbgagkpabepcaa
