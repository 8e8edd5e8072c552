/- What decoding a codeword answers. -/
import Derived.Test.YthenilomgbnpeaaDoorEccN
import Derived.Test.YthenilomgbnpeaaDoorWordN
namespace Go.Proofs.YthenilomgbnpeaaDoor
open Go.RowKit

/-- What decoding answers: the word, how many bits were corrected, the code. -/
def Dec (X : Nat) (R : ByteArray) (n c : Int) : Prop :=
  (good X = true ∧ R = wStr (lo X) ∧ n = 0 ∧ c = 0) ∨ (good X = false ∧ One X ∧ R = wStr (lo (fixN X)) ∧ n = 1 ∧ c = 0) ∨ (good X = false ∧ ¬ One X ∧ R = ⟨#[]⟩ ∧ n = 0 ∧ c = 6)
theorem dec_total (X : Nat) : ∃ R n c, Dec X R n c := by
  by_cases h : good X = true
  · exact ⟨_, _, _, .inl ⟨h, rfl, rfl, rfl⟩⟩
  · have h' : good X = false := by simpa using h
    by_cases h2 : One X
    · exact ⟨_, _, _, .inr (.inl ⟨h', h2, rfl, rfl, rfl⟩)⟩
    · exact ⟨_, _, _, .inr (.inr ⟨h', h2, rfl, rfl, rfl⟩)⟩
/-- A word and a check byte, as one number. -/
theorem as_cw {s : ByteArray} {c : Int} (hs : s.size = 8) (h0 : 0 ≤ c) (h1 : c ≤ 255) : ∃ X, X < 2 ^ 72 ∧ s = wStr (lo X) ∧ c = (hi X : Nat) := by
  obtain ⟨k, rfl⟩ := Int.eq_ofNat_of_zero_le h0
  have hx := wordN_lt s
  refine ⟨wordN s + 2 ^ 64 * k, by omega, ?_, ?_⟩
  · rw [lo_of _ hx, word_wStr hs]
  · rw [hi_of _ hx]
end Go.Proofs.YthenilomgbnpeaaDoor
