/- Plain facts on the keystream: the states of the register one after the other, eight bits a byte. -/
import Derived.Test.YthenilomgbnpeaaDoorBits
import Derived.WalkKit
namespace Go.Proofs.YthenilomgbnpeaaDoor
open Go.RowKit

/-- The state k steps on. -/
def stepI (s : Nat) : Nat → Nat
  | 0 => s
  | k + 1 => stepN (stepI s k)
theorem stepI_lt (s : Nat) (h : s < 65536) : ∀ k, stepI s k < 65536
  | 0 => h
  | k + 1 => stepN_lt _ (stepI_lt s h k)
theorem stepI_add (s j : Nat) : ∀ k, stepI s (j + k) = stepI (stepI s j) k
  | 0 => rfl
  | k + 1 => by rw [← Nat.add_assoc]; show stepN _ = stepN _; rw [stepI_add s j k]
/-- The number of the first k bits from a state on. -/
def keyP (s : Nat) : Nat → Nat
  | 0 => 0
  | k + 1 => keyP s k + stepI s k % 2 * 2 ^ k
theorem keyP_lt (s : Nat) : ∀ k, keyP s k < 2 ^ k
  | 0 => by simp [keyP]
  | k + 1 => by
    have h := keyP_lt s k
    have h2 : stepI s k % 2 * 2 ^ k ≤ 1 * 2 ^ k := Nat.mul_le_mul_right _ (by omega)
    rw [keyP, Nat.pow_succ]
    omega
theorem keyP_or (s k : Nat) : keyP s k ||| stepI s k % 2 * 2 ^ k = keyP s (k + 1) := by
  have := Nat.two_pow_add_eq_or_of_lt (keyP_lt s k) (stepI s k % 2)
  rw [Nat.or_comm, Nat.mul_comm (stepI s k % 2), ← this, keyP, Nat.add_comm, Nat.mul_comm]
theorem bit_lt (x : Nat) {k : Nat} (h : k < 8) : x % 2 * 2 ^ k < 256 := by
  have h1 : x % 2 * 2 ^ k ≤ 1 * 2 ^ k := Nat.mul_le_mul_right _ (by omega)
  have h2 : (2 : Nat) ^ k ≤ 2 ^ 7 := Nat.pow_le_pow_right (by decide) (by omega)
  omega
theorem keyP_256 (s : Nat) {k : Nat} (h : k ≤ 8) : keyP s k < 256 := by
  have h1 := keyP_lt s k
  have h2 : (2 : Nat) ^ k ≤ 2 ^ 8 := Nat.pow_le_pow_right (by decide) h
  omega
theorem cast_bit (x k : Nat) : ((x % 2 : Nat) : Int) * 2 ^ k = ((x % 2 * 2 ^ k : Nat) : Int) := by
  rw [Int.natCast_mul, Int.natCast_pow]; rfl
/-- One round of the model's inner loop. -/
theorem key_spec (s k : Nat) (hk : k < 8) (h : stepI s k < 65536) :
    bits .or .i64 ((keyP s k : Nat) : Int) (wrap64 (bits .and .i64 ((stepI s k : Nat) : Int) 1 * 2 ^ k)) = ((keyP s (k + 1) : Nat) : Int) := by
  have h1 := bit_lt (stepI s k) hk
  have h2 := keyP_256 s (k := k) (by omega)
  rw [and1_i64 _ (by omega), cast_bit, IntWalk.wrap64_in _ (by omega), i64_or_nat _ _ (by omega) (by omega), keyP_or]
/-- One round of the program's inner loop. -/
theorem key_impl (s k : Nat) (hk : k < 8) (h : stepI s k < 65536) :
    bits .or .u8 ((keyP s k : Nat) : Int) (bits .and .u16 ((stepI s k : Nat) : Int) 1 % 256 * 2 ^ k % 256) = ((keyP s (k + 1) : Nat) : Int) := by
  have h1 := bit_lt (stepI s k) hk
  have h2 := keyP_256 s (k := k) (by omega)
  rw [and1_u16 _ h, show (((stepI s k % 2 : Nat) : Int)) % 256 = ((stepI s k % 2 : Nat) : Int) by omega, cast_bit, show (((stepI s k % 2 * 2 ^ k : Nat) : Int)) % 256 = ((stepI s k % 2 * 2 ^ k : Nat) : Int) by omega,
    u8_or_nat _ _ h2 h1, keyP_or]
theorem set_mid (l r : List Int) (x y : Int) (k : Nat) (h : l.length = k) : (l ++ x :: r).set k y = l ++ y :: r := by
  rw [List.set_append_right _ _ (by omega), h, Nat.sub_self, List.set_cons_zero]
/-- The bytes of the stream. -/
def streamL (s : Nat) : Nat → List Int
  | 0 => []
  | n + 1 => streamL s n ++ [((keyP (stepI s (8 * n)) 8 : Nat) : Int)]
theorem streamL_length (s : Nat) : ∀ n, (streamL s n).length = n
  | 0 => rfl
  | n + 1 => by simp [streamL, streamL_length s n]
end Go.Proofs.YthenilomgbnpeaaDoor
