/- Plain facts on the checksum's register: one bit at a time, and four bits by the table. -/
import Derived.Test.YtnobgapdidpafaaDoorBits
import Derived.WalkKit
namespace Go.Proofs.YtnobgapdidpafaaDoor
open Go.RowKit

def crcN (s : Nat) : Nat := if s % 2 = 1 then s / 2 ^^^ 3988292384 else s / 2
def crcI (s : Nat) : Nat → Nat
  | 0 => s
  | k + 1 => crcN (crcI s k)
theorem crcN_lt (s : Nat) (h : s < 4294967296) : crcN s < 4294967296 := by
  unfold crcN; split
  · exact Nat.xor_lt_two_pow (n := 32) (by omega) (by omega)
  · omega
theorem crcI_lt (s : Nat) (h : s < 4294967296) : ∀ k, crcI s k < 4294967296
  | 0 => h
  | k + 1 => crcN_lt _ (crcI_lt s h k)
theorem crc_swap (a b c : Nat) : a ^^^ b ^^^ c = a ^^^ c ^^^ b := by rw [Nat.xor_assoc, Nat.xor_comm b c, ← Nat.xor_assoc]
theorem crcN_xor (x y : Nat) : crcN (x ^^^ y) = crcN x ^^^ crcN y := by
  have h := @Nat.xor_mod_two_eq_one x y
  unfold crcN
  rw [Nat.xor_div_two]
  by_cases hx : x % 2 = 1
  · by_cases hy : y % 2 = 1
    · rw [if_neg (by rw [h]; simp [hx, hy]), if_pos hx, if_pos hy, ← Nat.xor_assoc, crc_swap (x / 2) 3988292384 (y / 2), Nat.xor_assoc (x / 2 ^^^ y / 2), Nat.xor_self, Nat.xor_zero]
    · rw [if_pos (by rw [h]; simp [hx, hy]), if_pos hx, if_neg hy, crc_swap]
  · by_cases hy : y % 2 = 1
    · rw [if_pos (by rw [h]; simp [hx, hy]), if_neg hx, if_pos hy, Nat.xor_assoc]
    · rw [if_neg (by rw [h]; simp [hx, hy]), if_neg hx, if_neg hy]
theorem crcI_xor (x y : Nat) : ∀ k, crcI (x ^^^ y) k = crcI x k ^^^ crcI y k
  | 0 => rfl
  | k + 1 => by show crcN _ = crcN _ ^^^ crcN _; rw [crcI_xor x y k, crcN_xor]
theorem crcI_add (s j : Nat) : ∀ k, crcI s (j + k) = crcI (crcI s j) k
  | 0 => rfl
  | k + 1 => by rw [← Nat.add_assoc]; show crcN _ = crcN _; rw [crcI_add s j k]
theorem crcN_even (z : Nat) : crcN (2 * z) = z := by
  unfold crcN; rw [if_neg (by omega)]; omega
theorem crcI_16 (z : Nat) : crcI (16 * z) 4 = z := by
  show crcN (crcN (crcN (crcN (16 * z)))) = z
  rw [show 16 * z = 2 * (2 * (2 * (2 * z))) by omega, crcN_even, crcN_even, crcN_even, crcN_even]
/-- The table. -/
def crcT : List Int := [0, 498536548, 997073096, 651767980, 1994146192, 1802195444, 1303535960, 1342533948, 3988292384, 4027552580, 3604390888, 3412177804, 2607071920, 2262029012, 2685067896, 3183342108]
theorem crcT_at : ∀ k, k < 16 → crcT.getD k 0 = ((crcI k 4 : Nat) : Int) := by
  have h : ∀ k : Fin 16, crcT.getD k.val 0 = ((crcI k.val 4 : Nat) : Int) := by decide +kernel
  intro k hk; exact h ⟨k, hk⟩
theorem split16 (x : Nat) : 16 * (x / 16) ^^^ x % 16 = x := by
  have hr : x % 16 < 2 ^ 4 := by omega
  apply Nat.eq_of_testBit_eq
  intro j
  have h1 := Nat.testBit_two_pow_mul_add (x / 16) hr j
  have h2 := Nat.testBit_two_pow_mul_add (x / 16) (show 0 < 2 ^ 4 by decide) j
  rw [Nat.add_zero] at h2
  rw [show (2 : Nat) ^ 4 = 16 from rfl] at h1 h2
  rw [Nat.div_add_mod] at h1
  rw [Nat.testBit_xor, h2, h1]
  by_cases hj : j < 4
  · simp [hj]
  · rw [if_neg hj, if_neg hj, Nat.testBit_lt_two_pow (Nat.lt_of_lt_of_le hr (Nat.pow_le_pow_right (by decide) (by omega)))]
    simp
theorem crc4 (x : Nat) : x / 16 ^^^ crcI (x % 16) 4 = crcI x 4 := by
  conv => rhs; rw [← split16 x]
  rw [crcI_xor, crcI_16]
/-- The register after the first k bytes. -/
def ckF (s : ByteArray) : Nat → Nat
  | 0 => 4294967295
  | k + 1 => crcI (ckF s k ^^^ byteAt s k) 8
theorem ckF_lt (s : ByteArray) : ∀ k, ckF s k < 4294967296
  | 0 => by rw [ckF]; omega
  | k + 1 => crcI_lt _ (Nat.xor_lt_two_pow (n := 32) (ckF_lt s k) (by have := byteAt_le s k; omega)) 8
theorem and15_u32 (x : Nat) (h : x < 4294967296) : bits .and .u32 (x : Int) 15 = ((x % 16 : Nat) : Int) := by
  have := u32_and_nat x 15 h (by omega)
  rw [show (15 : Nat) = 2 ^ 4 - 1 from rfl, Nat.and_two_pow_sub_one_eq_mod] at this
  exact this
theorem nib_u32 (x : Nat) (h : x < 4294967296) : bits .xor .u32 ((x : Int) / 16) ((crcI (x % 16) 4 : Nat) : Int) = ((crcI x 4 : Nat) : Int) := by
  have := u32_xor_nat (x / 16) (crcI (x % 16) 4) (by omega) (crcI_lt _ (by omega) 4)
  rw [crc4] at this
  rw [← this]; simp
theorem xor_crc_i64 (s : Nat) (h : s < 4294967296) : bits .xor .i64 ((s : Int) / 2) 3988292384 = ((s / 2 ^^^ 3988292384 : Nat) : Int) := by
  have := i64_xor_nat (s / 2) 3988292384 (by omega) (by omega); rw [← this]; simp
end Go.Proofs.YtnobgapdidpafaaDoor
