/- Plain facts on the register's linear maps: a map is told by the images of the sixteen powers of two. -/
import Derived.Test.YtopehpnelfbboaaKeyN
namespace Go.Proofs.Ytopehpnelfbboaa
open Go.RowKit

theorem stepN_zero : stepN 0 = 0 := rfl
theorem xor_swap (a b c : Nat) : a ^^^ b ^^^ c = a ^^^ c ^^^ b := by rw [Nat.xor_assoc, Nat.xor_comm b c, ← Nat.xor_assoc]
theorem stepN_xor (x y : Nat) : stepN (x ^^^ y) = stepN x ^^^ stepN y := by
  have h := @Nat.xor_mod_two_eq_one x y
  unfold stepN
  rw [Nat.xor_div_two]
  by_cases hx : x % 2 = 1
  · by_cases hy : y % 2 = 1
    · rw [if_neg (by rw [h]; simp [hx, hy]), if_pos hx, if_pos hy, ← Nat.xor_assoc, xor_swap (x / 2) 46080 (y / 2), Nat.xor_assoc (x / 2 ^^^ y / 2), Nat.xor_self, Nat.xor_zero]
    · rw [if_pos (by rw [h]; simp [hx, hy]), if_pos hx, if_neg hy, xor_swap]
  · by_cases hy : y % 2 = 1
    · rw [if_pos (by rw [h]; simp [hx, hy]), if_neg hx, if_pos hy, Nat.xor_assoc]
    · rw [if_neg (by rw [h]; simp [hx, hy]), if_neg hx, if_neg hy]
theorem stepI_zero : ∀ k, stepI 0 k = 0
  | 0 => rfl
  | k + 1 => by show stepN _ = 0; rw [stepI_zero k]; rfl
theorem stepI_xor (x y : Nat) : ∀ k, stepI (x ^^^ y) k = stepI x k ^^^ stepI y k
  | 0 => rfl
  | k + 1 => by show stepN _ = stepN _ ^^^ stepN _; rw [stepI_xor x y k, stepN_xor]
/-- The image of the lowest k bits of s, the columns given by M. -/
def appF (M : Nat → Nat) (s : Nat) : Nat → Nat
  | 0 => 0
  | k + 1 => if s / 2 ^ k % 2 = 1 then appF M s k ^^^ M k else appF M s k
theorem appF_step (m s : Nat) : ∀ k, appF (fun b => stepI (2 ^ b) m) s k = stepI (s % 2 ^ k) m
  | 0 => by simp [appF, Nat.mod_one, stepI_zero]
  | k + 1 => by
    rw [appF, appF_step m s k, Nat.mod_pow_succ]
    have hlt : s % 2 ^ k < 2 ^ k := Nat.mod_lt _ (Nat.two_pow_pos k)
    by_cases h : s / 2 ^ k % 2 = 1
    · rw [if_pos h, h, Nat.mul_one, ← stepI_xor]
      congr 1
      have := Nat.two_pow_add_eq_or_of_lt hlt 1
      rw [Nat.mul_one] at this
      rw [Nat.add_comm, this]
      apply Nat.eq_of_testBit_eq
      intro i
      rw [Nat.testBit_xor, Nat.testBit_or, Nat.testBit_two_pow]
      by_cases hi : k = i
      · subst hi; rw [Nat.testBit_lt_two_pow hlt]; simp
      · simp [hi]
    · rw [if_neg h, show s / 2 ^ k % 2 = 0 by omega, Nat.mul_zero, Nat.add_zero]
/-- The columns of the map 'm steps'. -/
def cols (m : Nat) : List Int := (List.range 16).map fun b => ((stepI (2 ^ b) m : Nat) : Int)
theorem cols_length (m : Nat) : (cols m).length = 16 := by simp [cols]
theorem cols_get (m : Nat) {k : Nat} (h : k < 16) : (cols m).getD k 0 = ((stepI (2 ^ k) m : Nat) : Int) := by
  unfold cols
  rw [List.getD_eq_getElem?_getD, List.getElem?_map, List.getElem?_range h]; rfl
theorem appF_lt (m s k : Nat) (h : s < 65536) : appF (fun b => stepI (2 ^ b) m) s k < 65536 := by
  rw [appF_step]; exact stepI_lt _ (Nat.lt_of_le_of_lt (Nat.mod_le _ _) h) m
theorem bit_u16 (s k : Nat) (h : s < 65536) : bits .and .u16 ((s : Int) / 2 ^ k) 1 = ((s / 2 ^ k % 2 : Nat) : Int) := by
  have e : ((s : Int) / 2 ^ k) = ((s / 2 ^ k : Nat) : Int) := by rw [Int.natCast_ediv, Int.natCast_pow]; rfl
  rw [e, and1_u16 _ (Nat.lt_of_le_of_lt (Nat.div_le_self _ _) h)]
theorem bit_i64 (s k : Nat) (h : s < 65536) : bits .and .i64 ((s : Int) / 2 ^ k) 1 = ((s / 2 ^ k % 2 : Nat) : Int) := by
  have e : ((s : Int) / 2 ^ k) = ((s / 2 ^ k : Nat) : Int) := by rw [Int.natCast_ediv, Int.natCast_pow]; rfl
  rw [e, and1_i64 _ (Nat.lt_of_le_of_lt (Nat.div_le_self _ _) (by omega))]
theorem two_pow_lt {k : Nat} (h : k < 16) : 2 ^ k < 65536 := by
  have : (2 : Nat) ^ k < 2 ^ 16 := (Nat.pow_lt_pow_iff_right (by decide)).2 h
  omega
/-- The first k columns, zeros behind them. -/
def colsK (m k : Nat) : List Int := (cols m).take k ++ List.replicate (16 - k) 0
theorem colsK_length (m : Nat) {k : Nat} (h : k ≤ 16) : (colsK m k).length = 16 := by simp [colsK, cols_length]; omega
theorem colsK_all (m : Nat) : colsK m 16 = cols m := by simp [colsK, List.take_of_length_le (Nat.le_of_eq (cols_length m))]
theorem colsK_zero (m : Nat) : colsK m 0 = List.replicate 16 0 := rfl
theorem colsK_set (m : Nat) {k : Nat} (h : k < 16) : (colsK m k).set k ((stepI (2 ^ k) m : Nat) : Int) = colsK m (k + 1) := by
  have hl : ((cols m).take k).length = k := by simp [cols_length]; omega
  unfold colsK
  rw [List.set_append_right _ _ (by omega), hl, Nat.sub_self, show 16 - k = (16 - (k + 1)) + 1 by omega, List.replicate_succ, List.set_cons_zero]
  have hk : k < (cols m).length := by rw [cols_length]; exact h
  have hg := cols_get m h
  rw [List.getD_eq_getElem?_getD, List.getElem?_eq_getElem hk] at hg
  simp only [Option.getD_some] at hg
  rw [List.take_succ_eq_append_getElem hk, hg, List.append_assoc]
  rfl
end Go.Proofs.Ytopehpnelfbboaa
