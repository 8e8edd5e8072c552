/- The register's period is 65535, and a step back undoes a step. -/
import Derived.Test.YtopehpnelfbboaaMatN
namespace Go.Proofs.Ytopehpnelfbboaa
open Go.RowKit

theorem back_step (s : Nat) (h : s < 65536) : backN (stepN s) = s := by
  by_cases ho : s % 2 = 1
  · rw [stepN_odd ho]
    have hb : 32768 ≤ s / 2 ^^^ 46080 := by
      have e : s / 2 ^^^ 46080 = 32768 + (s / 2 ^^^ 13312) := by
        have h1 : s / 2 ^^^ 13312 < 2 ^ 15 := Nat.xor_lt_two_pow (by omega) (by omega)
        have h2 := Nat.two_pow_add_eq_or_of_lt h1 1
        rw [Nat.mul_one] at h2
        rw [show (32768 : Nat) = 2 ^ 15 from rfl, h2]
        apply Nat.eq_of_testBit_eq
        intro i
        rw [show (46080 : Nat) = 2 ^ 15 ^^^ 13312 from rfl]
        simp only [Nat.testBit_xor, Nat.testBit_or, Nat.testBit_two_pow]
        by_cases hi : 15 = i
        · subst hi
          rw [Nat.testBit_lt_two_pow (show s / 2 < 2 ^ 15 by omega), Nat.testBit_lt_two_pow (show 13312 < 2 ^ 15 by omega)]
          simp
        · simp [hi]
      omega
    rw [backN_hi hb, Nat.xor_assoc, Nat.xor_self, Nat.xor_zero]
    have := Nat.two_pow_add_eq_or_of_lt (i := 1) (b := 1) (by omega) (s / 2)
    rw [Nat.pow_one, Nat.mul_comm] at this
    omega
  · rw [stepN_even ho, backN_lo (by omega)]
    omega
theorem step_pos {s : Nat} (h : s < 65536) (h1 : 1 ≤ s) : 1 ≤ stepN s := by
  rcases Nat.eq_zero_or_pos (stepN s) with h0 | h0
  · have := back_step s h
    rw [h0] at this
    have e : backN 0 = 0 := rfl
    omega
  · exact h0
theorem stepI_pos {s : Nat} (h : s < 65536) (h1 : 1 ≤ s) : ∀ k, 1 ≤ stepI s k
  | 0 => h1
  | k + 1 => step_pos (stepI_lt s h k) (stepI_pos h h1 k)

/-- A map told by its columns, at s. -/
def appL (l : List Nat) (s : Nat) : Nat := (l.zipIdx.foldl (fun a p => if s / 2 ^ p.2 % 2 = 1 then a ^^^ p.1 else a) 0)
def sqL (l : List Nat) : List Nat := l.map (appL l)
def colsN (m : Nat) : List Nat := (List.range 16).map fun b => stepI (2 ^ b) m
theorem appL_cols (m s : Nat) (h : s < 65536) : appL (colsN m) s = stepI s m := by
  have h16 := appF_step m s 16
  rw [Nat.mod_eq_of_lt h] at h16
  rw [← h16]
  rfl
theorem sq_cols (m : Nat) : sqL (colsN m) = colsN (m + m) := by
  unfold sqL
  conv => rhs; unfold colsN
  conv => lhs; arg 2; unfold colsN
  rw [List.map_map]
  apply List.map_congr_left
  intro b hb
  have hb16 : b < 16 := by simpa using hb
  simp only [Function.comp_apply]
  rw [appL_cols m _ (stepI_lt _ (two_pow_lt hb16) m), stepI_add]
theorem cols_pow : ∀ k, (Nat.repeat sqL k (colsN 1)) = colsN (2 ^ k)
  | 0 => rfl
  | k + 1 => by show sqL (Nat.repeat sqL k _) = _; rw [cols_pow k, sq_cols, Nat.pow_succ]; congr 1; omega
theorem cols_back : Nat.repeat sqL 16 (colsN 1) = colsN 1 := by decide +kernel
theorem period (s : Nat) (h : s < 65536) : stepI s 65535 = s := by
  have h1 : stepI s 65536 = stepI s 1 := by
    rw [← appL_cols 65536 s h, ← appL_cols 1 s h, show (65536 : Nat) = 2 ^ 16 from rfl, ← cols_pow 16, cols_back]
  have h2 : stepN (stepI s 65535) = stepN s := h1
  have h3 := back_step _ (stepI_lt s h 65535)
  rw [h2, back_step s h] at h3
  exact h3.symm
/-- Two jumps, one after the other, are one jump. -/
theorem jump_jump (s a b : Nat) (h : s < 65536) (ha : a < 256) (hb : b < 256) : stepI (stepI s (a % 65535)) (256 * b % 65535) = stepI s ((a + 256 * b) % 65535) := by
  rw [Nat.mod_eq_of_lt (show a < 65535 by omega), Nat.mod_eq_of_lt (show 256 * b < 65535 by omega), ← stepI_add]
  by_cases e : a + 256 * b = 65535
  · rw [e, period s h]; rfl
  · rw [Nat.mod_eq_of_lt (by omega)]
end Go.Proofs.Ytopehpnelfbboaa
