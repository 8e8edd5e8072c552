/- A bit of a codeword inverted, in the model; valid words: the contracts. -/
import Derived.Test.YthenilomgbnpeaaDoorProg
import Derived.Test.YthenilomgbnpeaaDoorLfsr
import Derived.Test.YthenilomgbnpeaaDoorWordN
import Derived.Test.YthenilomgbnpeaaDoorEccN
import Derived.Test.YthenilomgbnpeaaDoorBytes
import Derived.ProofKit
import Derived.Lib.Hide
import Derived.Deep.DeepMust
namespace Go.Proofs.YthenilomgbnpeaaDoor
open Go.RowKit

theorem nums_wStr (x : Nat) : ((wStr x).data.toList.map fun b => (b.toNat : Int)) = wL x := by
  apply List.ext_getElem
  · have := wStr_size x
    simp only [List.length_map, wL_length]
    simpa using this
  · intro k h1 h2
    have h2' : k < 8 := by rw [wL_length] at h2; exact h2
    have e1 := wStr_at x h2'
    have e2 := wL_at x h2'
    rw [List.getD_eq_getElem?_getD, List.getElem?_eq_getElem h2] at e2
    simp only [Option.getD_some] at e2
    rw [e2, ← e1]
    unfold byteAt
    rw [List.getD_eq_getElem?_getD, List.getElem?_eq_getElem (by simpa using h1)]
    simp
def FlipPost (X b : Nat) (w : World) (e : Ending) (w' : World) : Prop := e = .returned (.tuple #[.string (wStr (lo (X ^^^ 2 ^ b))), .int .i64 (hi (X ^^^ 2 ^ b) : Nat)]) ∧ Below w.heap.size w w'
end Go.Proofs.YthenilomgbnpeaaDoor
