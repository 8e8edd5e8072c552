/- Which write counters are valid, in the program: the contracts. -/
import Derived.Test.YtmbgagkpabepcaaProg
import Derived.Test.YtmbgagkpabepcaaHtM
import Derived.Test.YtmbgagkpabepcaaEqI
import Derived.Test.YtmbgagkpabepcaaVl
import Derived.Test.YtmbgagkpabepcaaOwnR
namespace Go.Proofs.Ytmbgagkpabepcaa
open Go.RowKit
set_option linter.unusedVariables false
set_option linter.unusedSimpArgs false
end Go.Proofs.Ytmbgagkpabepcaa
