/- Plain facts on bits of integers: Go's and, or, exclusive or on int64 and uint16, as operations on natural numbers; one step of the register on natural numbers. -/
import Derived.Test.YtnobgapdidpafaaDoorWords
import Derived.WalkKit
namespace Go.Proofs.YtnobgapdidpafaaDoor
open Go.RowKit

theorem wrap_i64_nat (a : Nat) (h : a < 2 ^ 63) : IntKind.i64.wrap (a : Int) = a := IntWalk.i64_in _ (by omega)
theorem ofInt_i64 (a : Nat) (ha : a < 2 ^ 63) : (BitVec.ofInt 64 (a : Int)).toNat = a := by
  rw [BitVec.ofInt_natCast, BitVec.toNat_ofNat]; exact Nat.mod_eq_of_lt (by omega)
theorem i64_and_nat (a b : Nat) (ha : a < 2 ^ 63) (hb : b < 2 ^ 63) : bits .and .i64 (a : Int) (b : Int) = ((a &&& b : Nat) : Int) := by
  have hx : a &&& b < 2 ^ 63 := Nat.and_lt_two_pow _ (by omega)
  show IntKind.i64.wrap ((BitVec.ofInt 64 (a : Int) &&& BitVec.ofInt 64 (b : Int)).toNat : Int) = _
  rw [BitVec.toNat_and, ofInt_i64 a ha, ofInt_i64 b hb, wrap_i64_nat _ hx]
theorem i64_or_nat (a b : Nat) (ha : a < 2 ^ 63) (hb : b < 2 ^ 63) : bits .or .i64 (a : Int) (b : Int) = ((a ||| b : Nat) : Int) := by
  have hx : a ||| b < 2 ^ 63 := Nat.or_lt_two_pow (by omega) (by omega)
  show IntKind.i64.wrap ((BitVec.ofInt 64 (a : Int) ||| BitVec.ofInt 64 (b : Int)).toNat : Int) = _
  rw [BitVec.toNat_or, ofInt_i64 a ha, ofInt_i64 b hb, wrap_i64_nat _ hx]
theorem i64_xor_nat (a b : Nat) (ha : a < 2 ^ 63) (hb : b < 2 ^ 63) : bits .xor .i64 (a : Int) (b : Int) = ((a ^^^ b : Nat) : Int) := by
  have hx : a ^^^ b < 2 ^ 63 := Nat.xor_lt_two_pow (by omega) (by omega)
  show IntKind.i64.wrap ((BitVec.ofInt 64 (a : Int) ^^^ BitVec.ofInt 64 (b : Int)).toNat : Int) = _
  rw [BitVec.toNat_xor, ofInt_i64 a ha, ofInt_i64 b hb, wrap_i64_nat _ hx]

theorem and1_i64 (a : Nat) (ha : a < 2 ^ 63) : bits .and .i64 (a : Int) 1 = ((a % 2 : Nat) : Int) := by
  have := i64_and_nat a 1 ha (by omega); rw [Nat.and_one_is_mod] at this; exact this
theorem and1_u16 (a : Nat) (ha : a < 65536) : bits .and .u16 (a : Int) 1 = ((a % 2 : Nat) : Int) := by
  have := u16_and_nat a 1 ha (by omega); rw [Nat.and_one_is_mod] at this; exact this

/-- One step of the register. -/
def stepN (s : Nat) : Nat := if s % 2 = 1 then s / 2 ^^^ 46080 else s / 2
theorem stepN_lt (s : Nat) (h : s < 65536) : stepN s < 65536 := by
  unfold stepN; split
  · exact Nat.xor_lt_two_pow (n := 16) (by omega) (by omega)
  · omega
theorem stepN_odd {s : Nat} (h : s % 2 = 1) : stepN s = s / 2 ^^^ 46080 := by rw [stepN, if_pos h]
theorem stepN_even {s : Nat} (h : ¬ s % 2 = 1) : stepN s = s / 2 := by rw [stepN, if_neg h]
theorem xor_step_u16 (s : Nat) (h : s < 65536) : bits .xor .u16 ((s : Int) / 2) 46080 = ((s / 2 ^^^ 46080 : Nat) : Int) := by
  have := u16_xor_nat (s / 2) 46080 (by omega) (by omega); rw [← this]; simp
theorem xor_step_i64 (s : Nat) (h : s < 65536) : bits .xor .i64 ((s : Int) / 2) 46080 = ((s / 2 ^^^ 46080 : Nat) : Int) := by
  have := i64_xor_nat (s / 2) 46080 (by omega) (by omega); rw [← this]; simp

/-- The state before. -/
def backN (s : Nat) : Nat := if 32768 ≤ s then (s ^^^ 46080) * 2 ||| 1 else s * 2
theorem backN_hi {s : Nat} (h : 32768 ≤ s) : backN s = (s ^^^ 46080) * 2 ||| 1 := by rw [backN, if_pos h]
theorem backN_lo {s : Nat} (h : ¬ 32768 ≤ s) : backN s = s * 2 := by rw [backN, if_neg h]
theorem xor_back (s : Nat) (h : s < 65536) : s ^^^ 46080 < 65536 := Nat.xor_lt_two_pow (n := 16) (by omega) (by omega)
theorem back_val (s : Nat) (h : s < 65536) : bits .or .i64 (wrap64 (bits .xor .i64 (s : Int) 46080 * 2)) 1 = (((s ^^^ 46080) * 2 ||| 1 : Nat) : Int) := by
  have hx := i64_xor_nat s 46080 (by omega) (by omega)
  have hl := xor_back s h
  have e : bits .xor .i64 (s : Int) 46080 = ((s ^^^ 46080 : Nat) : Int) := hx
  rw [e, IntWalk.wrap64_in _ (by omega)]
  have := i64_or_nat ((s ^^^ 46080) * 2) 1 (by omega) (by omega)
  rw [← this]; simp
theorem and_top (s : Nat) (h : s < 65536) : bits .and .i64 (s : Int) 32768 = ((s / 32768 * 32768 : Nat) : Int) := by
  have := i64_and_nat s 32768 (by omega) (by omega)
  have e : s &&& 32768 = s / 32768 * 32768 := by
    apply Nat.eq_of_testBit_eq
    intro i
    rw [Nat.testBit_and, show (32768 : Nat) = 2 ^ 15 from rfl, Nat.testBit_two_pow]
    by_cases hc : 32768 ≤ s
    · rw [show s / 2 ^ 15 * 2 ^ 15 = 2 ^ 15 by omega, Nat.testBit_two_pow]
      by_cases hi : 15 = i
      · subst hi
        have : s.testBit 15 = true := by rw [Nat.testBit_eq_decide_div_mod_eq]; simp; omega
        simp [this]
      · simp [hi]
    · rw [show s / 2 ^ 15 * 2 ^ 15 = 0 by omega, Nat.zero_testBit]
      by_cases hi : 15 = i
      · subst hi
        rw [Nat.testBit_lt_two_pow (by omega)]; rfl
      · simp [hi]
  rw [← e, ← this]; rfl
end Go.Proofs.YtnobgapdidpafaaDoor
