/- The first block in an order, in the program: the contracts. -/
import Derived.Test.YtmbgagkpabepcaaProg
import Derived.Test.YtmbgagkpabepcaaWrN
import Derived.Test.YtmbgagkpabepcaaShelf
import Derived.Test.YtmbgagkpabepcaaEqI
import Derived.Test.YtmbgagkpabepcaaBoo
import Derived.Test.YtmbgagkpabepcaaRw
import Derived.Test.YtmbgagkpabepcaaFlO
import Derived.BigQuiet
import Derived.Deep.QuietTactic
import Derived.StillTailTactics
import Derived.Lib.Hide
namespace Go.Proofs.Ytmbgagkpabepcaa
open Go.RowKit
set_option linter.unusedVariables false
set_option linter.unusedSimpArgs false
end Go.Proofs.Ytmbgagkpabepcaa
