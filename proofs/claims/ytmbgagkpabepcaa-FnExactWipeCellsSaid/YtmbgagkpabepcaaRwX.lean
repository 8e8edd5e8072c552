/- More of a known row: one cell; seven. -/
import Derived.Test.YtmbgagkpabepcaaProg
import Derived.Test.YtmbgagkpabepcaaRw
namespace Go.Proofs.Ytmbgagkpabepcaa
open Go.RowKit
theorem Rw.one {w : World} {g : Nat} {t : TypeId} {a : Value} (h : Rw w g t #[a]) : w.cell? ⟨g, 0, none⟩ = some a := h.cell 0
end Go.Proofs.Ytmbgagkpabepcaa
