/- The bits in which two texts differ, in the model and in the program: the contracts. -/
import Derived.Test.YthenilomgbnpeaaDoorProg
import Derived.Test.YthenilomgbnpeaaDoorInts
import Derived.Test.YthenilomgbnpeaaDoorBits
namespace Go.Proofs.YthenilomgbnpeaaDoor
open Go.RowKit

/-- Do the texts differ in bit i? -/
def difB (a b : ByteArray) (i : Nat) : Bool := (byteAt a (i / 8) ^^^ byteAt b (i / 8)) / 2 ^ (i % 8) % 2 == 1
def difL (a b : ByteArray) : Nat → List Int
  | 0 => []
  | k + 1 => if difB a b k then difL a b k ++ [(k : Int)] else difL a b k
theorem difL_le (a b : ByteArray) : ∀ k, (difL a b k).length ≤ k
  | 0 => Nat.le_refl _
  | k + 1 => by
    have := difL_le a b k
    rw [difL]; split
    · simp; omega
    · omega
theorem and1_u8 (x : Nat) (h : x < 256) : bits .and .u8 (x : Int) 1 = ((x % 2 : Nat) : Int) := by
  have := u8_and_nat x 1 h (by omega); rw [Nat.and_one_is_mod] at this; exact this
theorem dif_val (a b : ByteArray) (i : Nat) (ha : i / 8 < a.size) (hb : i / 8 < b.size) :
    (bits .and .u8 (bits .xor .u8 (a[i / 8].toNat : Int) (b[i / 8].toNat : Int) / 2 ^ (i % 8)) 1 == 1) = difB a b i := by
  have h1 := byteAt_le a (i / 8)
  have h2 := byteAt_le b (i / 8)
  have hx : byteAt a (i / 8) ^^^ byteAt b (i / 8) < 2 ^ 8 := Nat.xor_lt_two_pow (by omega) (by omega)
  have hd : (byteAt a (i / 8) ^^^ byteAt b (i / 8)) / 2 ^ (i % 8) ≤ byteAt a (i / 8) ^^^ byteAt b (i / 8) := Nat.div_le_self _ _
  rw [byteAt_eq ha, byteAt_eq hb, u8_xor_nat _ _ (by omega) (by omega)]
  unfold difB
  have e : (((byteAt a (i / 8) ^^^ byteAt b (i / 8) : Nat) : Int) / 2 ^ (i % 8)) = (((byteAt a (i / 8) ^^^ byteAt b (i / 8)) / 2 ^ (i % 8) : Nat) : Int) := by rw [Int.natCast_ediv, Int.natCast_pow]; rfl
  rw [e]
  generalize (byteAt a (i / 8) ^^^ byteAt b (i / 8)) / 2 ^ (i % 8) = q at *
  rw [and1_u8 q (by omega)]
  rw [Bool.eq_iff_iff]
  simp
  omega
def DiffPost (l : List Int) (w : World) (e : Ending) (w' : World) : Prop := ∃ v, e = .returned v ∧ IntsOwn w' w.heap.size v l ∧ Below w.heap.size w w'
def Alike (a b : ByteArray) : Prop := a.size = b.size ∧ a.size ≤ 256
end Go.Proofs.YthenilomgbnpeaaDoor
