/- The laws' helper eqFlash: of what reads alike the answer is true. -/
import Derived.Test.YtmbgagkpabepcaaProg
import Derived.Test.YtmbgagkpabepcaaFlA
import Derived.StillTailTactics
namespace Go.Proofs.Ytmbgagkpabepcaa
open Go.RowKit
set_option linter.unusedVariables false

/-! Comparisons: of what reads alike the answer is true. -/
end Go.Proofs.Ytmbgagkpabepcaa
