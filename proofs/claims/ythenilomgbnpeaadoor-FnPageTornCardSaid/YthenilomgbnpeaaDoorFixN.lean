/- Plain facts on the fixed-size encoding: eight bytes give the integer back. -/
import Derived.Test.YthenilomgbnpeaaDoorCodN
import Derived.Test.YthenilomgbnpeaaDoorFixed
namespace Go.Proofs.YthenilomgbnpeaaDoor
open Go.RowKit

theorem or_wrap (a b : Nat) (ha : a < 2 ^ 64) (hb : b < 2 ^ 64) : bits .or .i64 (wrap64 (a : Int)) (wrap64 (b : Int)) = wrap64 ((a ||| b : Nat) : Int) := by
  have e : ∀ x : Nat, x < 2 ^ 64 → (BitVec.ofInt 64 (wrap64 (x : Int))).toNat = x := by
    intro x hx
    rw [BitVec.toNat_ofInt]
    unfold wrap64
    omega
  have h1 : bits .or .i64 (wrap64 (a : Int)) (wrap64 (b : Int)) = IntKind.i64.wrap ((BitVec.ofInt 64 (wrap64 (a : Int)) ||| BitVec.ofInt 64 (wrap64 (b : Int))).toNat : Int) := rfl
  rw [h1, BitVec.toNat_or, e a ha, e b hb]
  exact IntWalk.i64_left _
theorem fix_bytes (s : ByteArray) (U : Nat) (hU : U < 2 ^ 64) (hb : ∀ k, k < 8 → byteAt s k = U / 256 ^ k % 256) : ∀ k, k ≤ 8 → fixF s k = wrap64 ((U % 256 ^ k : Nat) : Int)
  | 0, _ => by rw [Nat.pow_zero, Nat.mod_one, fixF]; unfold wrap64; omega
  | k + 1, hk => by
    have ih := fix_bytes s U hU hb k (by omega)
    have e256 : (256 : Nat) ^ k = 2 ^ (8 * k) := by rw [Nat.pow_mul]
    have hp : (256 : Nat) ^ k ≤ 256 ^ 7 := Nat.pow_le_pow_right (by decide) (by omega)
    have h7 : (256 : Nat) ^ 7 = 72057594037927936 := by decide
    have hlt : U % 256 ^ k < 2 ^ (8 * k) := by rw [← e256]; exact Nat.mod_lt _ (Nat.pow_pos (by decide))
    have hby : U / 256 ^ k % 256 * 256 ^ k ≤ 255 * 256 ^ k := Nat.mul_le_mul_right _ (by omega)
    have ec : ((byteAt s k : Nat) : Int) * 2 ^ (8 * k) = ((U / 256 ^ k % 256 * 256 ^ k : Nat) : Int) := by
      rw [hb k (by omega), Int.natCast_mul, e256, Int.natCast_pow]; rfl
    rw [fixF, ih, ec, or_wrap _ _ (by omega) (by omega)]
    congr 2
    have := Nat.two_pow_add_eq_or_of_lt hlt (U / 256 ^ k % 256)
    rw [Nat.mod_pow_succ, Nat.or_comm, Nat.mul_comm (U / 256 ^ k % 256), Nat.add_comm]
    rw [← e256] at this
    exact this.symm
theorem encF_getD (n : Int) : ∀ (m k : Nat), k < m → (encF n m).getD k 0 = IntKind.u8.wrap (n / 2 ^ (8 * k))
  | 0, k, h => by omega
  | m + 1, k, h => by
    rw [encF]
    by_cases hk : k < m
    · have := encF_getD n m k hk
      rw [List.getD_eq_getElem?_getD] at this ⊢
      rw [List.getElem?_append_left (by rw [encF_length]; exact hk)]
      exact this
    · obtain rfl : k = m := by omega
      rw [List.getD_eq_getElem?_getD, List.getElem?_append_right (by rw [encF_length]; omega), encF_length, Nat.sub_self]
      rfl
theorem u8_wrap_mod (x : Int) : IntKind.u8.wrap x = x % 256 := by rw [IntKind.wrap_u8']
theorem enc_byte (n : Int) (h1 : -9223372036854775808 ≤ n) (h2 : n ≤ 9223372036854775807) (k : Nat) (hk : k < 8) : n / 2 ^ (8 * k) % 256 = (((n % 18446744073709551616).toNat / 256 ^ k % 256 : Nat) : Int) := by
  match k, hk with
  | 0, _ => simp only [Nat.mul_zero, Int.pow_zero, Nat.pow_zero]; omega
  | 1, _ => rw [show (2 : Int) ^ (8 * 1) = 256 by decide, show (256 : Nat) ^ 1 = 256 by decide]; omega
  | 2, _ => rw [show (2 : Int) ^ (8 * 2) = 65536 by decide, show (256 : Nat) ^ 2 = 65536 by decide]; omega
  | 3, _ => rw [show (2 : Int) ^ (8 * 3) = 16777216 by decide, show (256 : Nat) ^ 3 = 16777216 by decide]; omega
  | 4, _ => rw [show (2 : Int) ^ (8 * 4) = 4294967296 by decide, show (256 : Nat) ^ 4 = 4294967296 by decide]; omega
  | 5, _ => rw [show (2 : Int) ^ (8 * 5) = 1099511627776 by decide, show (256 : Nat) ^ 5 = 1099511627776 by decide]; omega
  | 6, _ => rw [show (2 : Int) ^ (8 * 6) = 281474976710656 by decide, show (256 : Nat) ^ 6 = 281474976710656 by decide]; omega
  | 7, _ => rw [show (2 : Int) ^ (8 * 7) = 72057594037927936 by decide, show (256 : Nat) ^ 7 = 72057594037927936 by decide]; omega
theorem fix_back (n : Int) (h1 : -9223372036854775808 ≤ n) (h2 : n ≤ 9223372036854775807) : fixF (strOfNums (encF n 8)) 8 = n := by
  obtain ⟨U, hU⟩ : ∃ U, U = (n % 18446744073709551616).toNat := ⟨_, rfl⟩
  have hUl : U < 2 ^ 64 := by omega
  have hb : ∀ k, k < 8 → byteAt (strOfNums (encF n 8)) k = U / 256 ^ k % 256 := by
    intro k hk
    have e := encF_getD n 8 k hk
    have e2 := enc_byte n h1 h2 k hk
    rw [u8_wrap_mod, e2, ← hU] at e
    have hs := byteAt_app (encF n 8) ByteArray.empty k (by rw [encF_length]; exact hk) (by
      intro x hx
      obtain ⟨j, hj, rfl⟩ := List.mem_iff_getElem.1 hx
      have := encF_getD n 8 j (by rw [encF_length] at hj; exact hj)
      rw [List.getD_eq_getElem?_getD, List.getElem?_eq_getElem hj, u8_wrap_mod] at this
      simp only [Option.getD_some] at this
      omega)
    rw [ByteArray.append_empty, e] at hs
    omega
  have := fix_bytes _ U hUl hb 8 (by omega)
  rw [this, Nat.mod_eq_of_lt (by rw [show (256 : Nat) ^ 8 = 2 ^ 64 by decide]; exact hUl)]
  unfold wrap64
  omega

/-- A text with its length before it, whatever follows. -/
theorem str_back (w r : ByteArray) (h : w.size < 2 ^ 63) : (strOfNums (uv w.size) ++ w ++ r).extract (uv w.size).length ((uv w.size).length + w.size) = w := by
  apply ByteArray.ext
  apply Array.toList_inj.1
  rw [ByteArray.data_extract, Array.toList_extract, ByteArray.data_append, ByteArray.data_append, Array.toList_append, Array.toList_append, strOfNums_data]
  have e : (uv w.size).length = ((uv w.size).map fun n => UInt8.ofNat n.toNat).length := by simp
  have hw : w.data.toList.length = w.size := by simp
  rw [List.append_assoc]
  simp only [List.extract_eq_take_drop]
  rw [e, List.drop_left, show ((uv w.size).map fun n => UInt8.ofNat n.toNat).length + w.size - ((uv w.size).map fun n => UInt8.ofNat n.toNat).length = w.data.toList.length by omega, List.take_left]
end Go.Proofs.YthenilomgbnpeaaDoor
