/- Plain facts on the exclusive or of texts: what it does twice is undone; with zeros it changes nothing. -/
import Derived.Test.YthenilomgbnpeaaDoorScr
namespace Go.Proofs.YthenilomgbnpeaaDoor
open Go.RowKit

theorem xorL_getD (a b : ByteArray) : ∀ (n k : Nat), k < n → (xorL a b n).getD k 0 = ((byteAt a k ^^^ byteAt b k : Nat) : Int)
  | 0, k, h => by omega
  | n + 1, k, h => by
    rw [xorL]
    by_cases hk : k < n
    · have := xorL_getD a b n k hk
      rw [List.getD_eq_getElem?_getD] at this ⊢
      rw [List.getElem?_append_left (by rw [xorL_length]; exact hk)]
      exact this
    · obtain rfl : k = n := by omega
      rw [List.getD_eq_getElem?_getD, List.getElem?_append_right (by rw [xorL_length]; omega), xorL_length, Nat.sub_self]
      rfl
theorem xorL_eq (a b : ByteArray) (n : Nat) (l : List Int) (hl : l.length = n) (h : ∀ k, k < n → l.getD k 0 = ((byteAt a k ^^^ byteAt b k : Nat) : Int)) : xorL a b n = l := by
  apply List.ext_getElem
  · rw [xorL_length, hl]
  · intro k h1 h2
    have e1 := xorL_getD a b n k (by omega)
    have e2 := h k (by omega)
    rw [List.getD_eq_getElem?_getD, List.getElem?_eq_getElem h1] at e1
    rw [List.getD_eq_getElem?_getD, List.getElem?_eq_getElem h2] at e2
    simp only [Option.getD_some] at e1 e2
    rw [e1, e2]
theorem byteAt_str (l : List Int) (k : Nat) (hk : k < l.length) (h0 : 0 ≤ l.getD k 0) (h1 : l.getD k 0 < 256) : (byteAt (strOfNums l) k : Int) = l.getD k 0 := by
  unfold byteAt
  rw [strOfNums_data, List.getD_eq_getElem?_getD, List.getElem?_map, List.getElem?_eq_getElem hk]
  rw [List.getD_eq_getElem?_getD, List.getElem?_eq_getElem hk] at h0 h1 ⊢
  simp only [Option.map_some, Option.getD_some] at h0 h1 ⊢
  rw [UInt8.toNat_ofNat']
  omega
theorem xor_byte_lt (a b : ByteArray) (k : Nat) : byteAt a k ^^^ byteAt b k < 256 :=
  Nat.xor_lt_two_pow (n := 8) (by have := byteAt_le a k; omega) (by have := byteAt_le b k; omega)
theorem byteAt_xor (a b : ByteArray) (n k : Nat) (hk : k < n) : byteAt (strOfNums (xorL a b n)) k = byteAt a k ^^^ byteAt b k := by
  have e := xorL_getD a b n k hk
  have hl := xor_byte_lt a b k
  have := byteAt_str (xorL a b n) k (by rw [xorL_length]; exact hk) (by rw [e]; omega) (by rw [e]; omega)
  omega
theorem str_nums (s : ByteArray) : strOfNums (nums s) = s := by
  apply ByteArray.ext
  apply Array.toList_inj.1
  rw [strOfNums_data]
  unfold nums
  rw [List.map_map]
  simp [Function.comp_def]
/-- Scrambling twice. -/
theorem twice_back (s key : ByteArray) : strOfNums (xorL (strOfNums (xorL s key s.size)) key s.size) = s := by
  have : xorL (strOfNums (xorL s key s.size)) key s.size = nums s := by
    refine xorL_eq _ _ _ _ (nums_length s) fun k hk => ?_
    rw [nums_get s k hk, byteAt_xor s key s.size k hk, Nat.xor_assoc, Nat.xor_self, Nat.xor_zero]
  rw [this, str_nums]
/-- Scrambling zeros. -/
theorem zeros_key (key : ByteArray) (n : Nat) (h : key.size = n) : strOfNums (xorL (strOfNums (List.replicate n 0)) key n) = key := by
  have : xorL (strOfNums (List.replicate n 0)) key n = nums key := by
    refine xorL_eq _ _ _ _ (by rw [nums_length, h]) fun k hk => ?_
    rw [nums_get key k (by omega)]
    have hz : (List.replicate n (0 : Int)).getD k 0 = 0 := by rw [List.getD_eq_getElem?_getD, List.getElem?_replicate, if_pos hk]; rfl
    have hb := byteAt_str (List.replicate n (0 : Int)) k (by simpa using hk) (by rw [hz]; omega) (by rw [hz]; omega)
    rw [hz] at hb
    rw [show byteAt (strOfNums (List.replicate n 0)) k = 0 by omega, Nat.zero_xor]
  rw [this, str_nums]
end Go.Proofs.YthenilomgbnpeaaDoor
