/- Plain facts on the fixed-size encoding. -/
import Derived.Test.YtnobgapdidpafaaDoorBits
import Derived.WalkKit
namespace Go.Proofs.YtnobgapdidpafaaDoor
open Go.RowKit

/-- The bytes of the first k. -/
def encF (n : Int) : Nat → List Int
  | 0 => []
  | k + 1 => encF n k ++ [IntKind.u8.wrap (n / 2 ^ (8 * k))]
theorem encF_length (n : Int) : ∀ k, (encF n k).length = k
  | 0 => rfl
  | k + 1 => by simp [encF, encF_length n k]

end Go.Proofs.YtnobgapdidpafaaDoor
