/- Plain facts on the checksum's register: a burst of at most 32 bits changes it. -/
import Derived.Test.YtfnccbanmgfkeabDoorCrcN
namespace Go.Proofs.YtfnccbanmgfkeabDoor
open Go.RowKit

theorem crcI_shift (y : Nat) : ∀ m, crcI (2 ^ m * y) m = y
  | 0 => by show 2 ^ 0 * y = y; omega
  | m + 1 => by
    show crcN (crcI (2 ^ (m + 1) * y) m) = y
    rw [Nat.pow_succ, Nat.mul_assoc, crcI_shift (2 * y) m, crcN_even]
theorem crcN_ne (s : Nat) (h : s < 4294967296) (h0 : s ≠ 0) : crcN s ≠ 0 := by
  unfold crcN
  split
  · intro e
    have : s / 2 = 3988292384 := by
      have := congrArg (· ^^^ 3988292384) e
      simpa [Nat.xor_assoc] using this
    omega
  · omega
theorem crcI_ne (s : Nat) (h : s < 4294967296) (h0 : s ≠ 0) : ∀ k, crcI s k ≠ 0
  | 0 => h0
  | k + 1 => crcN_ne _ (crcI_lt s h k) (crcI_ne s h h0 k)
theorem mulXor (a r n : Nat) (h : r < 2 ^ n) : r ^^^ 2 ^ n * a = r + 2 ^ n * a := by
  apply Nat.eq_of_testBit_eq
  intro j
  have h1 := Nat.testBit_two_pow_mul_add a h j
  have h2 := Nat.testBit_two_pow_mul_add a (Nat.two_pow_pos n) j
  rw [Nat.add_zero] at h2
  rw [Nat.add_comm r, h1, Nat.testBit_xor, h2]
  by_cases hj : j < n
  · simp [hj]
  · rw [if_neg hj, if_neg hj, Nat.testBit_lt_two_pow (Nat.lt_of_lt_of_le h (Nat.pow_le_pow_right (by decide) (by omega)))]
    simp
theorem modNext (X k : Nat) : X % 2 ^ (8 * (k + 1)) = X % 2 ^ (8 * k) ^^^ 2 ^ (8 * k) * (X / 2 ^ (8 * k) % 256) := by
  rw [mulXor _ _ _ (Nat.mod_lt _ (Nat.two_pow_pos _)), show 8 * (k + 1) = 8 * k + 8 by omega, Nat.pow_add, Nat.mod_mul]
/-- The registers' difference is that of the difference's bits. -/
theorem ckF_diff (s t : ByteArray) (X n : Nat) (hb : ∀ j, j < n → byteAt t j = byteAt s j ^^^ (X / 2 ^ (8 * j) % 256)) : ∀ k, k ≤ n → ckF t k = ckF s k ^^^ crcI (X % 2 ^ (8 * k)) (8 * k)
  | 0, _ => by
    show 4294967295 = 4294967295 ^^^ crcI (X % 2 ^ (8 * 0)) 0
    show 4294967295 = 4294967295 ^^^ X % 2 ^ (8 * 0)
    rw [Nat.mul_zero, Nat.pow_zero, Nat.mod_one, Nat.xor_zero]
  | k + 1, hk => by
    have ih := ckF_diff s t X n hb k (by omega)
    have e1 : crcI (X % 2 ^ (8 * (k + 1))) (8 * (k + 1)) = crcI (crcI (X % 2 ^ (8 * k)) (8 * k) ^^^ X / 2 ^ (8 * k) % 256) 8 := by
      rw [modNext, show 8 * (k + 1) = 8 * k + 8 by omega, crcI_add, crcI_xor, crcI_shift]
    rw [e1, ckF, ckF, ih, hb k (by omega), ← crcI_xor]
    congr 1
    rw [Nat.xor_assoc, Nat.xor_assoc, ← Nat.xor_assoc (crcI _ _), Nat.xor_comm (crcI _ _) (byteAt s k), Nat.xor_assoc]
theorem ckF_burst (s t : ByteArray) (B f n : Nat) (hB : B < 4294967296) (hf : f ≤ 8 * n) (hfit : 2 ^ f * B < 2 ^ (8 * n))
    (hb : ∀ j, j < n → byteAt t j = byteAt s j ^^^ (2 ^ f * B / 2 ^ (8 * j) % 256)) : ckF t n = ckF s n ↔ B = 0 := by
  have h := ckF_diff s t (2 ^ f * B) n hb n (Nat.le_refl _)
  rw [Nat.mod_eq_of_lt hfit, show 8 * n = f + (8 * n - f) by omega, crcI_add, crcI_shift] at h
  rw [h]
  constructor
  · intro e
    by_cases h0 : B = 0
    · exact h0
    · exfalso
      apply crcI_ne B hB h0 (8 * n - f)
      have := congrArg (ckF s n ^^^ ·) e
      simpa [← Nat.xor_assoc] using this
  · rintro rfl
    have : ∀ k, crcI 0 k = 0 := fun k => by
      induction k with
      | zero => rfl
      | succ k ih => show crcN (crcI 0 k) = 0; rw [ih]; rfl
    rw [this, Nat.xor_zero]

/-- The bytes of a text with a burst at bit f. -/
def burst (s : ByteArray) (f B : Nat) : List Int := (List.range s.size).map fun j => ((byteAt s j ^^^ (2 ^ f * B / 2 ^ (8 * j) % 256) : Nat) : Int)
theorem burst_length (s : ByteArray) (f B : Nat) : (burst s f B).length = s.size := by simp [burst]
theorem burst_getD (s : ByteArray) (f B j : Nat) (h : j < s.size) : (burst s f B).getD j 0 = ((byteAt s j ^^^ (2 ^ f * B / 2 ^ (8 * j) % 256) : Nat) : Int) := by
  simp [burst, List.getD_eq_getElem?_getD, h]
theorem two_at (p j : Nat) : 2 ^ p / 2 ^ (8 * j) % 256 = if p / 8 = j then 2 ^ (p % 8) else 0 := by
  by_cases h1 : p < 8 * j
  · rw [Nat.div_eq_of_lt (Nat.pow_lt_pow_right (by decide) h1), if_neg (by omega)]
  · rw [Nat.pow_div (by omega) (by decide)]
    by_cases h2 : p / 8 = j
    · rw [if_pos h2, show p - 8 * j = p % 8 by omega, Nat.mod_eq_of_lt]
      calc 2 ^ (p % 8) ≤ 2 ^ 7 := Nat.pow_le_pow_right (by decide) (by omega)
        _ < 256 := by decide
    · rw [if_neg h2, show p - 8 * j = 8 + (p - 8 * j - 8) by omega, Nat.pow_add]
      exact Nat.mul_mod_right _ _
theorem burst_set (s : ByteArray) (f B i : Nat) : (burst s f B).set ((f + i) / 8) ((byteAt s ((f + i) / 8) ^^^ (2 ^ f * B / 2 ^ (8 * ((f + i) / 8)) % 256) ^^^ 2 ^ ((f + i) % 8) : Nat) : Int) = burst s f (B ^^^ 2 ^ i) := by
  have e : 2 ^ f * (B ^^^ 2 ^ i) = 2 ^ f * B ^^^ 2 ^ (f + i) := by
    rw [Nat.pow_add]
    apply Nat.eq_of_testBit_eq
    intro j
    simp only [Nat.testBit_xor, Nat.testBit_two_pow_mul]
    by_cases hj : f ≤ j <;> simp [hj]
  have hstep : ∀ j, 2 ^ f * (B ^^^ 2 ^ i) / 2 ^ (8 * j) % 256 = (2 ^ f * B / 2 ^ (8 * j) % 256) ^^^ (if (f + i) / 8 = j then 2 ^ ((f + i) % 8) else 0) := by
    intro j
    rw [e, Nat.xor_div_two_pow, show (256 : Nat) = 2 ^ 8 from rfl, Nat.xor_mod_two_pow, show (2 : Nat) ^ 8 = 256 from rfl, two_at]
  apply List.ext_getElem
  · simp [burst]
  · intro j h1 h2
    rw [List.getElem_set]
    have hj : j < s.size := by simpa [burst] using h2
    split
    · rename_i hq
      subst hq
      simp only [burst, List.getElem_map, List.getElem_range]
      rw [hstep, if_pos rfl, Nat.xor_assoc]
    · rename_i hq
      simp only [burst, List.getElem_map, List.getElem_range]
      rw [hstep, if_neg hq, Nat.xor_zero]
theorem burst_ne (B i : Nat) (h : B < 2 ^ i) : B ^^^ 2 ^ i ≠ 0 ∧ B ^^^ 2 ^ i < 2 ^ (i + 1) := by
  have := mulXor 1 B i h
  rw [Nat.mul_one] at this
  rw [this]
  have := Nat.two_pow_pos i
  rw [Nat.pow_succ]
  omega
end Go.Proofs.YtfnccbanmgfkeabDoor
