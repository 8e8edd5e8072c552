/- Plain facts on the codec: what the decoders answer at what the encoders made, bytes behind it or not. -/
import Derived.Test.YthenilomgbnpeaaDoorUvN
import Derived.Test.YthenilomgbnpeaaDoorEncN
namespace Go.Proofs.YthenilomgbnpeaaDoor
open Go.RowKit

theorem byteAt_app (l : List Int) (r : ByteArray) (k : Nat) (hk : k < l.length) (hb : ∀ x ∈ l, 0 ≤ x ∧ x < 256) : (byteAt (strOfNums l ++ r) k : Int) = l.getD k 0 := by
  have h1 := hb _ (List.getElem_mem hk)
  unfold byteAt
  rw [ByteArray.data_append, Array.toList_append, strOfNums_data, List.getD_eq_getElem?_getD, List.getElem?_append_left (by simpa using hk), List.getElem?_map, List.getD_eq_getElem?_getD, List.getElem?_eq_getElem hk]
  simp only [Option.map_some, Option.getD_some]
  rw [UInt8.toNat_ofNat']
  omega

def Reads (t : ByteArray) (i x : Nat) : Prop := ∀ j, j < (uv x).length → (byteAt t (i + j) : Int) = (uv x).getD j 0
theorem reads_small {t : ByteArray} {i x : Nat} (h : Reads t i x) (hx : x < 128) : byteAt t i = x := by
  have := h 0 (by rw [uv_small hx]; simp)
  rw [uv_small hx] at this
  simp at this
  omega
theorem reads_big {t : ByteArray} {i x : Nat} (h : Reads t i x) (hx : ¬ x < 128) : byteAt t i = x % 128 + 128 ∧ Reads t (i + 1) (x / 128) := by
  constructor
  · have := h 0 (by rw [uv_big hx]; simp)
    rw [uv_big hx] at this
    simp at this
    omega
  · intro j hj
    have := h (j + 1) (by rw [uv_big hx]; simpa using hj)
    rw [uv_big hx] at this
    rw [show i + 1 + j = i + (j + 1) by omega, this]
    simp
theorem acc_reads (t : ByteArray) : ∀ (f x i : Nat), x < 128 ^ f → Reads t i x → acc t (i + (uv x).length) = acc t i + x * 128 ^ i
  | 0, x, i, hf, h => by
    have hx : x < 128 := by simp at hf; omega
    have hb := reads_small h hx
    rw [uv_small hx]
    show acc t (i + 1) = _
    rw [acc, hb, Nat.mod_eq_of_lt hx]
  | f + 1, x, i, hf, h => by
    by_cases hx : x < 128
    · have hb := reads_small h hx
      rw [uv_small hx]
      show acc t (i + 1) = _
      rw [acc, hb, Nat.mod_eq_of_lt hx]
    · obtain ⟨hb, hr⟩ := reads_big h hx
      have ih := acc_reads t f (x / 128) (i + 1) (by rw [Nat.div_lt_iff_lt_mul (by decide)]; rw [Nat.pow_succ] at hf; exact hf) hr
      rw [uv_big hx, List.length_cons, show i + ((uv (x / 128)).length + 1) = i + 1 + (uv (x / 128)).length by omega, ih, acc, hb]
      have e1 : (x % 128 + 128) % 128 = x % 128 := by omega
      have e2 : x / 128 * 128 ^ (i + 1) = (128 * (x / 128)) * 128 ^ i := by rw [Nat.pow_succ, Nat.mul_comm (128 ^ i), ← Nat.mul_assoc, Nat.mul_comm (x / 128)]
      rw [e1, e2, Nat.add_assoc, ← Nat.add_mul, show x % 128 + 128 * (x / 128) = x by omega]
theorem decF_reads (t : ByteArray) : ∀ (f x i : Nat), (uv x).length ≤ f → i + (uv x).length ≤ t.size → i + (uv x).length ≤ 9 → Reads t i x → uv (acc t (i + (uv x).length)) = takeB t (i + (uv x).length) → decF t f i = i + (uv x).length
  | 0, x, i, hf, _, _, _, _ => by have := uv_pos x; omega
  | f + 1, x, i, hf, hs, h9, h, hc => by
    by_cases hx : x < 128
    · have hb := reads_small h hx
      rw [uv_small hx] at hs h9 hc ⊢
      exact decF_yes (by simp at hs; omega) (by simp at h9; omega) (by omega) hc
    · obtain ⟨hb, hr⟩ := reads_big h hx
      have hp := uv_pos (x / 128)
      rw [uv_big hx, List.length_cons] at hf hs h9 hc ⊢
      rw [decF_next (by omega) (by omega) (by omega)]
      have e : i + ((uv (x / 128)).length + 1) = i + 1 + (uv (x / 128)).length := by omega
      rw [e] at hs h9 hc ⊢
      exact decF_reads t f (x / 128) (i + 1) (by omega) hs h9 hr hc
theorem uv_bytes9 {n : Nat} (h : n < 2 ^ 63) : ∀ x ∈ uv n, 0 ≤ x ∧ x < 256 :=
  uv_bytes 9 n (by rw [show (128 : Nat) ^ 9 = 2 ^ 63 by decide]; exact h)
theorem size_app (a b : ByteArray) : (a ++ b).size = a.size + b.size := ByteArray.size_append
theorem takeB_app (l : List Int) (r : ByteArray) (hb : ∀ x ∈ l, 0 ≤ x ∧ x < 256) : takeB (strOfNums l ++ r) l.length = l := by
  apply List.ext_getElem
  · rw [takeB_length (by rw [size_app, strOfNums_size]; omega)]
  · intro k h1 h2
    have hb2 := hb _ (List.getElem_mem h2)
    unfold takeB
    simp only [ByteArray.data_append, Array.toList_append, strOfNums_data]
    rw [List.getElem_map, List.getElem_take, List.getElem_append_left (by simpa using h2), List.getElem_map, UInt8.toNat_ofNat']
    omega
/-- The decoder answers the number, whatever follows. -/
theorem dec_enc (n : Nat) (r : ByteArray) (h : n < 2 ^ 63) : decUv (strOfNums (uv n) ++ r) = (uv n).length ∧ acc (strOfNums (uv n) ++ r) (uv n).length = n := by
  have hl := uv_len h
  have hr : Reads (strOfNums (uv n) ++ r) 0 n := fun j hj => by rw [Nat.zero_add]; exact byteAt_app _ _ _ hj (uv_bytes9 h)
  have ha := acc_reads (strOfNums (uv n) ++ r) 9 n 0 (by rw [show (128 : Nat) ^ 9 = 2 ^ 63 by decide]; exact h) hr
  rw [Nat.zero_add, Nat.pow_zero, Nat.mul_one] at ha
  have h0 : acc (strOfNums (uv n) ++ r) 0 = 0 := rfl
  rw [h0, Nat.zero_add] at ha
  refine ⟨?_, ha⟩
  have := decF_reads (strOfNums (uv n) ++ r) 10 n 0 (by omega) (by rw [size_app, strOfNums_size]; omega) (by omega) hr (by rw [Nat.zero_add, ha, takeB_app _ _ (uv_bytes9 h)])
  rw [Nat.zero_add] at this
  exact this
/-- What the decoder accepts is the encoding. -/
theorem dec_ok (s : ByteArray) : ∀ f i, 0 < decF s f i → uv (acc s (decF s f i)) = takeB s (decF s f i)
  | 0, i, h => by simp [decF] at h
  | f + 1, i, h => by
    unfold decF at h ⊢
    by_cases h1 : i < s.size ∧ i < 9
    · rw [if_pos h1] at h ⊢
      by_cases h2 : byteAt s i < 128
      · rw [if_pos h2] at h ⊢
        by_cases h3 : uv (acc s (i + 1)) = takeB s (i + 1)
        · rw [if_pos h3]; exact h3
        · rw [if_neg h3] at h; omega
      · rw [if_neg h2] at h ⊢
        exact dec_ok s f (i + 1) h
    · rw [if_neg h1] at h; omega
end Go.Proofs.YthenilomgbnpeaaDoor
