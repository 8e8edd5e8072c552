/- NewHeat, in the program and in the model: the contracts. -/
import Derived.Test.YtmbgagkpabepcaaProg
import Derived.Test.YtmbgagkpabepcaaHtI
import Derived.Test.YtmbgagkpabepcaaHtS
import Derived.Laws.MakeOwn
namespace Go.Proofs.Ytmbgagkpabepcaa
open Go.RowKit
set_option linter.unusedVariables false
set_option linter.unusedSimpArgs false
def HtPost (M : Ht) (c : Int) (w : World) (e : Ending) (w' : World) : Prop := ∃ u, e = .returned (.tuple #[u, .int .i64 c]) ∧ HtOwn w' w.heap.size w'.heap.size u M ∧ Below w.heap.size w w'
def HtPost1 (M : Ht) (w : World) (e : Ending) (w' : World) : Prop := ∃ u, e = .returned u ∧ HtOwn w' w.heap.size w'.heap.size u M ∧ Below w.heap.size w w'
end Go.Proofs.Ytmbgagkpabepcaa
