/- The exclusive or of two texts, in the model. -/
import Derived.Test.YthenilomgbnpeaaDoorProg
import Derived.Test.YthenilomgbnpeaaDoorWords
import Derived.Test.YthenilomgbnpeaaDoorBytes
import Derived.Test.YthenilomgbnpeaaDoorBits
import Derived.ProofKit
namespace Go.Proofs.YthenilomgbnpeaaDoor
open Go.RowKit

/-- The first k bytes of the exclusive or. -/
def xorL (a b : ByteArray) : Nat → List Int
  | 0 => []
  | k + 1 => xorL a b k ++ [((byteAt a k ^^^ byteAt b k : Nat) : Int)]
theorem xorL_length (a b : ByteArray) : ∀ k, (xorL a b k).length = k
  | 0 => rfl
  | k + 1 => by simp [xorL, xorL_length a b k]

end Go.Proofs.YthenilomgbnpeaaDoor
