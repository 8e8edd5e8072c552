/- Plain facts on data of several words. -/
import Derived.Test.YthenilomgbnpeaaDoorWordN
import Derived.Test.YthenilomgbnpeaaDoorEccN
namespace Go.Proofs.YthenilomgbnpeaaDoor
open Go.RowKit

/-- Word k of a text. -/
def wd (s : ByteArray) (k : Nat) : ByteArray := s.extract (8 * k) (8 * k + 8)
def wdN (s : ByteArray) (k : Nat) : Nat := wordN (wd s k)
theorem wd_size {s : ByteArray} {k : Nat} (h : 8 * k + 8 ≤ s.size) : (wd s k).size = 8 := by
  unfold wd; rw [ByteArray.size_extract]; omega
theorem wd_wStr {s : ByteArray} {k : Nat} (h : 8 * k + 8 ≤ s.size) : wd s k = wStr (wdN s k) := (word_wStr (wd_size h)).symm
theorem wdN_lt (s : ByteArray) (k : Nat) : wdN s k < 2 ^ 64 := wordN_lt _
theorem byteAt_extract (s : ByteArray) (a b j : Nat) (h : a + j < b) : byteAt (s.extract a b) j = byteAt s (a + j) := by
  unfold byteAt
  rw [ByteArray.data_extract, Array.toList_extract, List.extract_eq_take_drop, List.getD_eq_getElem?_getD, List.getD_eq_getElem?_getD, List.getElem?_take, if_pos (by omega), List.getElem?_drop]
theorem wd_at (s : ByteArray) (k : Nat) {j : Nat} (hj : j < 8) : byteAt (wd s k) j = byteAt s (8 * k + j) := byteAt_extract s _ _ j (by omega)
/-- The check bytes of the first k words. -/
def chkL (s : ByteArray) : Nat → List Int
  | 0 => []
  | k + 1 => chkL s k ++ [((chkN (wdN s k) : Nat) : Int)]
theorem chkL_length (s : ByteArray) : ∀ k, (chkL s k).length = k
  | 0 => rfl
  | k + 1 => by simp [chkL, chkL_length s k]
theorem chkL_at (s : ByteArray) : ∀ n k, k < n → (chkL s n).getD k 0 = ((chkN (wdN s k) : Nat) : Int)
  | 0, k, h => by omega
  | n + 1, k, h => by
    have hl := chkL_length s n
    rw [chkL, List.getD_eq_getElem?_getD]
    by_cases hk : k < n
    · have := chkL_at s n k hk
      rw [List.getD_eq_getElem?_getD] at this
      rw [List.getElem?_append_left (by omega)]; exact this
    · obtain rfl : k = n := by omega
      rw [List.getElem?_append_right (by omega), hl, Nat.sub_self]; rfl
theorem chkL_ok (s : ByteArray) : ∀ n, ∀ x ∈ chkL s n, 0 ≤ x ∧ x < 256
  | 0, x, h => by cases h
  | n + 1, x, h => by
    rw [chkL, List.mem_append] at h
    rcases h with h | h
    · exact chkL_ok s n x h
    · simp at h; subst h
      have := chkN_lt (wdN s n); omega
/-- The number of word k and its check byte. -/
def cwX (s t : ByteArray) (k : Nat) : Nat := wdN s k + 2 ^ 64 * byteAt t k
theorem cwX_lt (s t : ByteArray) (k : Nat) : cwX s t k < 2 ^ 72 := by
  have h1 := wdN_lt s k
  have h2 := byteAt_lt t k
  unfold cwX; omega
theorem cwX_lo (s t : ByteArray) (k : Nat) : lo (cwX s t k) = wdN s k := lo_of _ (wdN_lt s k)
theorem cwX_hi (s t : ByteArray) (k : Nat) : hi (cwX s t k) = byteAt t k := hi_of _ (wdN_lt s k)
/-- Can it be decoded? Its word, how many bits are corrected. -/
def okX (X : Nat) : Prop := good X = true ∨ One X
def valX (X : Nat) : Nat := if good X then lo X else lo (fixN X)
def cntX (X : Nat) : Nat := if good X then 0 else 1
def outL (s t : ByteArray) : Nat → List Int
  | 0 => []
  | k + 1 => outL s t k ++ wL (valX (cwX s t k))
def totL (s t : ByteArray) : Nat → Nat
  | 0 => 0
  | k + 1 => totL s t k + cntX (cwX s t k)
theorem outL_length (s t : ByteArray) : ∀ k, (outL s t k).length = 8 * k
  | 0 => rfl
  | k + 1 => by rw [outL, List.length_append, outL_length s t k, wL_length]; omega
theorem totL_le (s t : ByteArray) : ∀ k, totL s t k ≤ k
  | 0 => Nat.le_refl _
  | k + 1 => by
    have := totL_le s t k
    have : cntX (cwX s t k) ≤ 1 := by unfold cntX; split <;> omega
    rw [totL]; omega
/-- The first word that can't be decoded, if there is one. -/
theorem first_bad (P : Nat → Prop) : ∀ n, ∃ m, m ≤ n ∧ (∀ k, k < m → P k) ∧ (m = n ∨ ¬ P m)
  | 0 => ⟨0, Nat.le_refl _, fun k h => by omega, .inl rfl⟩
  | n + 1 => by
    obtain ⟨m, h1, h2, h3⟩ := first_bad P n
    rcases h3 with h3 | h3
    · by_cases hp : P n
      · exact ⟨n + 1, Nat.le_refl _, fun k hk => if h : k = n then h ▸ hp else h2 k (by omega), .inl rfl⟩
      · exact ⟨n, by omega, fun k hk => h2 k (by omega), .inr hp⟩
    · exact ⟨m, by omega, h2, .inr h3⟩
end Go.Proofs.YthenilomgbnpeaaDoor
