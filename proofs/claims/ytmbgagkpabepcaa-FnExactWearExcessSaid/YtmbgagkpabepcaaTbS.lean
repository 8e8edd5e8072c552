/- Which tables of bad blocks are valid, in the model: the contracts. -/
import Derived.Test.YtmbgagkpabepcaaProg
import Derived.Test.YtmbgagkpabepcaaOwnR
import Derived.Test.YtmbgagkpabepcaaEqI
import Derived.Test.YtmbgagkpabepcaaTbA
import Derived.Test.YtmbgagkpabepcaaFlO
namespace Go.Proofs.Ytmbgagkpabepcaa
open Go.RowKit
set_option linter.unusedVariables false
set_option linter.unusedSimpArgs false
/-- The cells of a table as numbers and slices. -/
def tb6 (d b p sp : Int) (A : Option Addr) (n c : Nat) (A' : Option Addr) (n' c' : Nat) : Array Value := #[.int .i64 d, .int .i64 b, .int .i64 p, .int .i64 sp, .slice A n c, .slice A' n' c']
end Go.Proofs.Ytmbgagkpabepcaa
