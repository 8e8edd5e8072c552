/- Error correction in the program: the correction of a single error. -/
import Derived.Test.YteigdjocjcjkiaaDoorProg
import Derived.Test.YteigdjocjcjkiaaDoorCwI
import Derived.Lib.Strings
import Derived.Lib.Slices
import Derived.Lib.Small
import Derived.Lib.Walk
import Derived.Lib.BitFns
namespace Go.Proofs.YteigdjocjcjkiaaDoor
open Go.RowKit

theorem pow_all : ∀ p : Fin 72, (p.val &&& (p.val - 1) = 0 → 64 ≤ bitAt p.val) ∧ (p.val &&& (p.val - 1) ≠ 0 → bitAt p.val < 64 ∧ bitAt p.val + Lib.bitLen p.val + 1 = p.val ∧ 1 ≤ p.val) := by decide +kernel
def CorPost (R : Nat) (w : World) (e : Ending) (w' : World) : Prop := ∃ Y, e = .returned (.agg (cw Y)) ∧ lo Y = R ∧ Below w.heap.size w w'
end Go.Proofs.YteigdjocjcjkiaaDoor
