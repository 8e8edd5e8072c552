/- Plain facts: with the parity in a lost unit's place the sum is that unit; a parity brought up to date. -/
import Derived.Test.YtegjppihopncoaaParN
namespace Go.Proofs.Ytegjppihopncoaa
open Go.RowKit

theorem xorAll_set : ∀ (L : List ByteArray) (k j : Nat) (p : ByteArray), k < L.length → xorAll (L.set k p) j = xorAll L j ^^^ (byteAt (L.getD k ByteArray.empty) j ^^^ byteAt p j)
  | [], k, j, p, h => by simp at h
  | u :: L, 0, j, p, _ => by
    rw [List.set_cons_zero, xorAll, xorAll]
    show byteAt p j ^^^ xorAll L j = (byteAt u j ^^^ xorAll L j) ^^^ (byteAt u j ^^^ byteAt p j)
    rw [Nat.xor_comm (byteAt u j) (xorAll L j), Nat.xor_assoc, ← Nat.xor_assoc (byteAt u j) (byteAt u j), Nat.xor_self, Nat.zero_xor, Nat.xor_comm]
  | u :: L, k + 1, j, p, h => by
    rw [List.set_cons_succ, xorAll, xorAll, xorAll_set L k j p (by simpa using h), Nat.xor_assoc]; rfl
theorem Units.set_ {L : List ByteArray} {m k : Nat} {p : ByteArray} (h : Units L m) (hp : p.size = m) : Units (L.set k p) m := by
  obtain ⟨h1, h2, h3, h4⟩ := h
  refine ⟨by simpa using h1, by simpa using h2, h3, fun i hi => ?_⟩
  rw [List.length_set] at hi
  rw [List.getD_eq_getElem?_getD, List.getElem?_set]
  by_cases e : k = i
  · rw [if_pos e, if_pos (by omega)]; exact hp
  · rw [if_neg e]
    have := h4 i hi
    rw [List.getD_eq_getElem?_getD] at this
    exact this
theorem lost_back {L : List ByteArray} {m k : Nat} (h : Units L m) (hk : k < L.length) : sumS (L.set k (sumS L m)) m = L.getD k ByteArray.empty := by
  have hs := h.2.2.2 k hk
  refine str_ext2 (by rw [sumS_size, hs]) fun j hj => ?_
  rw [sumS_size] at hj
  rw [sumS_at _ hj, xorAll_set L k j _ hk, sumS_at _ hj, Nat.xor_comm (byteAt _ j) (xorAll L j), ← Nat.xor_assoc, Nat.xor_self, Nat.zero_xor]
theorem set_now {L : List ByteArray} {m k : Nat} (n : ByteArray) (hk : k < L.length) : sumS [sumS L m, L.getD k ByteArray.empty, n] m = sumS (L.set k n) m := by
  refine str_ext2 (by rw [sumS_size, sumS_size]) fun j hj => ?_
  rw [sumS_size] at hj
  rw [sumS_at _ hj, sumS_at _ hj, xorAll_set L k j n hk, xorAll, xorAll, xorAll, xorAll, sumS_at _ hj, Nat.xor_zero]
theorem three_units {a b c : ByteArray} {m : Nat} (hm : m ≤ 256) (ha : a.size = m) (hb : b.size = m) (hc : c.size = m) : Units [a, b, c] m := by
  refine ⟨by simp, by simp, hm, fun i hi => ?_⟩
  match i, hi with
  | 0, _ => exact ha
  | 1, _ => exact hb
  | 2, _ => exact hc
theorem set_set_ (L : List ByteArray) (k : Nat) (a b : ByteArray) : (L.set k a).set k b = L.set k b := by rw [List.set_set]
end Go.Proofs.Ytegjppihopncoaa
