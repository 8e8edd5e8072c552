/- Plain facts on words of eight bytes: the number of a text, the text of a number, a bit inverted. -/
import Derived.Test.YthenilomgbnpeaaDoorFixN
namespace Go.Proofs.YthenilomgbnpeaaDoor
open Go.RowKit

/-- The number of the bytes f 0, f 1, .. below k. -/
def wN (f : Nat → Nat) : Nat → Nat
  | 0 => 0
  | k + 1 => wN f k + f k * 256 ^ k
theorem wN_lt {f : Nat → Nat} (h : ∀ j, f j < 256) : ∀ k, wN f k < 256 ^ k
  | 0 => by simp [wN]
  | k + 1 => by
    have := wN_lt h k
    have h2 : f k * 256 ^ k ≤ 255 * 256 ^ k := Nat.mul_le_mul_right _ (by have := h k; omega)
    rw [wN, Nat.pow_succ]; omega
theorem wN_at {f : Nat → Nat} (h : ∀ j, f j < 256) : ∀ k j, j < k → wN f k / 256 ^ j % 256 = f j
  | 0, j, hj => by omega
  | k + 1, j, hj => by
    have hp : 0 < 256 ^ j := Nat.pow_pos (by decide)
    by_cases hjk : j < k
    · have e : 256 ^ k = 256 ^ j * (256 * 256 ^ (k - j - 1)) := by
        rw [show (256 : Nat) * 256 ^ (k - j - 1) = 256 ^ (k - j) by rw [Nat.mul_comm, ← Nat.pow_succ]; congr 1; omega, ← Nat.pow_add]; congr 1; omega
      rw [wN, e, show f k * (256 ^ j * (256 * 256 ^ (k - j - 1))) = 256 ^ j * (256 * (f k * 256 ^ (k - j - 1))) by
        rw [Nat.mul_left_comm, Nat.mul_left_comm (f k)], Nat.add_mul_div_left _ _ hp, Nat.add_mul_mod_self_left]
      exact wN_at h k j hjk
    · obtain rfl : j = k := by omega
      rw [wN, Nat.add_mul_div_right _ _ hp, Nat.div_eq_of_lt (wN_lt h j), Nat.zero_add]
      exact Nat.mod_eq_of_lt (h j)
theorem wN_congr {f g : Nat → Nat} : ∀ k, (∀ j, j < k → f j = g j) → wN f k = wN g k
  | 0, _ => rfl
  | k + 1, h => by rw [wN, wN, wN_congr k (fun j hj => h j (by omega)), h k (by omega)]
theorem wN_digits (x : Nat) : ∀ k, wN (fun j => x / 256 ^ j % 256) k = x % 256 ^ k
  | 0 => by rw [Nat.pow_zero, Nat.mod_one]; rfl
  | k + 1 => by rw [wN, wN_digits x k, Nat.mod_pow_succ, Nat.mul_comm]
/-- A number is known by its bytes. -/
theorem bytes_ext {x y : Nat} (hx : x < 2 ^ 64) (hy : y < 2 ^ 64) (h : ∀ j, j < 8 → x / 256 ^ j % 256 = y / 256 ^ j % 256) : x = y := by
  have e := wN_congr (f := fun j => x / 256 ^ j % 256) (g := fun j => y / 256 ^ j % 256) 8 h
  rw [wN_digits, wN_digits, Nat.mod_eq_of_lt (by rw [show (256 : Nat) ^ 8 = 2 ^ 64 by decide]; exact hx), Nat.mod_eq_of_lt (by rw [show (256 : Nat) ^ 8 = 2 ^ 64 by decide]; exact hy)] at e
  exact e

/-- The number of a text's first eight bytes. -/
def wordN (s : ByteArray) : Nat := wN (byteAt s) 8
theorem byteAt_lt (s : ByteArray) (k : Nat) : byteAt s k < 256 := by have := byteAt_le s k; omega
theorem wordN_lt (s : ByteArray) : wordN s < 2 ^ 64 := wN_lt (byteAt_lt s) 8
theorem wordN_at (s : ByteArray) {j : Nat} (h : j < 8) : wordN s / 256 ^ j % 256 = byteAt s j := wN_at (byteAt_lt s) 8 j h
theorem bit_byte (x b : Nat) : x / 2 ^ b % 2 = x / 256 ^ (b / 8) % 256 / 2 ^ (b % 8) % 2 := by
  have e : x / 2 ^ b = x / 256 ^ (b / 8) / 2 ^ (b % 8) := by
    rw [show (256 : Nat) ^ (b / 8) = 2 ^ (8 * (b / 8)) by rw [Nat.pow_mul], Nat.div_div_eq_div_mul, ← Nat.pow_add]
    congr 2; omega
  rw [e]
  generalize x / 256 ^ (b / 8) = y
  have h := Nat.mod_lt b (show 0 < 8 by decide)
  generalize b % 8 = r at *
  match r, h with
  | 0, _ => simp only [Nat.pow_zero]; omega
  | 1, _ => omega
  | 2, _ => omega
  | 3, _ => omega
  | 4, _ => omega
  | 5, _ => omega
  | 6, _ => omega
  | 7, _ => omega
theorem wordN_bit (s : ByteArray) {b : Nat} (h : b < 64) : wordN s / 2 ^ b % 2 = byteAt s (b / 8) / 2 ^ (b % 8) % 2 := by
  rw [bit_byte, wordN_at s (by omega)]
theorem xor_byte (x y j : Nat) : (x ^^^ y) / 256 ^ j % 256 = (x / 256 ^ j % 256) ^^^ (y / 256 ^ j % 256) := by
  rw [show (256 : Nat) ^ j = 2 ^ (8 * j) by rw [Nat.pow_mul], Nat.xor_div_two_pow]
  exact Nat.xor_mod_two_pow (n := 8)
theorem two_byte (b j : Nat) : 2 ^ b / 256 ^ j % 256 = if j = b / 8 then 2 ^ (b % 8) else 0 := by
  rw [show (256 : Nat) ^ j = 2 ^ (8 * j) by rw [Nat.pow_mul]]
  by_cases h1 : b < 8 * j
  · rw [Nat.div_eq_of_lt (Nat.pow_lt_pow_right (by decide) h1), if_neg (by omega)]
  · rw [Nat.pow_div (by omega) (by decide)]
    by_cases h2 : j = b / 8
    · rw [if_pos h2, show b - 8 * j = b % 8 by omega, Nat.mod_eq_of_lt]
      exact Nat.pow_lt_pow_right (n := 8) (by decide) (by omega)
    · rw [if_neg h2, show b - 8 * j = 8 + (b - 8 * j - 8) by omega, Nat.pow_add]
      exact Nat.mul_mod_right ..

theorem str_ext {s t : ByteArray} (hs : s.size = t.size) (h : ∀ j, j < s.size → byteAt s j = byteAt t j) : s = t := by
  apply ByteArray.ext
  apply Array.toList_inj.1
  apply List.ext_getElem
  · simpa using hs
  · intro k h1 h2
    have h1' : k < s.size := by simpa using h1
    have := h k h1'
    unfold byteAt at this
    rw [List.getD_eq_getElem?_getD, List.getElem?_eq_getElem h1, List.getD_eq_getElem?_getD, List.getElem?_eq_getElem h2] at this
    simpa using UInt8.toNat_inj.1 this
theorem nums_at (l : List Int) (k : Nat) (hk : k < l.length) (hb : ∀ x ∈ l, 0 ≤ x ∧ x < 256) : (byteAt (strOfNums l) k : Int) = l.getD k 0 := by
  have := byteAt_app l ByteArray.empty k hk hb
  rwa [ByteArray.append_empty] at this
/-- The eight bytes of a number. -/
def wL (x : Nat) : List Int := (List.range 8).map fun j => ((x / 256 ^ j % 256 : Nat) : Int)
theorem wL_length (x : Nat) : (wL x).length = 8 := by simp [wL]
theorem wL_at (x : Nat) {j : Nat} (h : j < 8) : (wL x).getD j 0 = ((x / 256 ^ j % 256 : Nat) : Int) := by simp [wL, List.getD_eq_getElem?_getD, h]
theorem wL_ok (x : Nat) : ∀ y ∈ wL x, 0 ≤ y ∧ y < 256 := by
  intro y hy
  simp only [wL, List.mem_map] at hy
  obtain ⟨j, _, rfl⟩ := hy
  omega
/-- The text of a number. -/
def wStr (x : Nat) : ByteArray := strOfNums (wL x)
theorem wStr_size (x : Nat) : (wStr x).size = 8 := by unfold wStr; rw [strOfNums_size, wL_length]
theorem wStr_at (x : Nat) {j : Nat} (h : j < 8) : byteAt (wStr x) j = x / 256 ^ j % 256 := by
  have := nums_at (wL x) j (by rw [wL_length]; exact h) (wL_ok x)
  rw [wL_at x h] at this
  exact Int.ofNat_inj.1 this
theorem wStr_word {x : Nat} (h : x < 2 ^ 64) : wordN (wStr x) = x :=
  bytes_ext (wordN_lt _) h fun j hj => by rw [wordN_at _ hj, wStr_at _ hj]
theorem word_wStr {s : ByteArray} (h : s.size = 8) : wStr (wordN s) = s :=
  str_ext (by rw [wStr_size, h]) fun j hj => by rw [wStr_size] at hj; rw [wStr_at _ hj, wordN_at _ hj]
theorem wStr_inj {x y : Nat} (hx : x < 2 ^ 64) (hy : y < 2 ^ 64) (h : wStr x = wStr y) : x = y := by
  rw [← wStr_word hx, ← wStr_word hy, h]
/-- The bytes with a bit inverted are those of the number with it inverted. -/
theorem wL_flip (x b : Nat) : (wL x).set (b / 8) ((x / 256 ^ (b / 8) % 256 ^^^ 2 ^ (b % 8) : Nat) : Int) = wL (x ^^^ 2 ^ b) := by
  apply List.ext_getElem
  · simp [wL_length]
  · intro k h1 h2
    rw [wL_length] at h2
    have e1 := wL_at x h2
    have e2 := wL_at (x ^^^ 2 ^ b) h2
    rw [List.getD_eq_getElem?_getD, List.getElem?_eq_getElem (by rw [wL_length]; exact h2)] at e1 e2
    simp only [Option.getD_some] at e1 e2
    rw [List.getElem_set, e2, xor_byte, two_byte]
    by_cases hk : b / 8 = k
    · rw [if_pos hk, if_pos hk.symm, ← hk]
    · rw [if_neg hk, if_neg (fun e => hk e.symm), e1, Nat.xor_zero]
/-- What EncodeFixed makes of the integer with these bits. -/
theorem encF_word {x : Nat} (h : x < 2 ^ 64) : encF (wrap64 (x : Int)) 8 = wL x := by
  have hn1 : -9223372036854775808 ≤ wrap64 (x : Int) := by unfold wrap64; omega
  have hn2 : wrap64 (x : Int) ≤ 9223372036854775807 := by unfold wrap64; omega
  have hm : (wrap64 (x : Int) % 18446744073709551616).toNat = x := by unfold wrap64; omega
  apply List.ext_getElem
  · rw [encF_length, wL_length]
  · intro k h1 h2
    rw [wL_length] at h2
    have e1 := encF_getD (wrap64 (x : Int)) 8 k h2
    have e2 := wL_at x h2
    rw [List.getD_eq_getElem?_getD, List.getElem?_eq_getElem h1] at e1
    rw [List.getD_eq_getElem?_getD, List.getElem?_eq_getElem (by rw [wL_length]; exact h2)] at e2
    simp only [Option.getD_some] at e1 e2
    rw [e1, e2, u8_wrap_mod, enc_byte _ hn1 hn2 k h2, hm]
/-- What DecodeFixed makes of a word. -/
theorem fix_word (s : ByteArray) : fixF s 8 = wrap64 (wordN s : Int) := by
  have := fix_bytes s (wordN s) (wordN_lt s) (fun k hk => (wordN_at s hk).symm) 8 (by omega)
  rw [this, Nat.mod_eq_of_lt (by rw [show (256 : Nat) ^ 8 = 2 ^ 64 by decide]; exact wordN_lt s)]
end Go.Proofs.YthenilomgbnpeaaDoor
