/- What SetPage answers: plain facts. -/
import Derived.Test.YtgkanacaijlljaaProg
import Derived.Test.YtgkanacaijlljaaPmN
import Derived.Test.YtgkanacaijlljaaPmM
namespace Go.Proofs.Ytgkanacaijlljaa
open Go.RowKit
set_option linter.unusedVariables false
set_option linter.unusedSimpArgs false
/-- What SetPage answers. a: what owns the physical page. -/
def SetIs (M : Pm) (r : Bool) (l q : Int) (t : Bool) (a : Int) (M' : Pm) (c : Int) : Prop :=
  (r = false ∧ M' = Pm.zero ∧ c = 1) ∨ (r = true ∧ ¬ (0 ≤ l ∧ l < M.mp.length) ∧ M' = Pm.zero ∧ c = 2) ∨ (r = true ∧ (0 ≤ l ∧ l < M.mp.length) ∧ ¬ (0 ≤ q ∧ q < M.b * M.p) ∧ M' = Pm.zero ∧ c = 2)
  ∨ (r = true ∧ (0 ≤ l ∧ l < M.mp.length) ∧ (0 ≤ q ∧ q < M.b * M.p) ∧ (0 ≤ a ∧ a ≠ l) ∧ M' = Pm.zero ∧ c = 5)
  ∨ ∃ j : Nat, r = true ∧ l = j ∧ j < M.mp.length ∧ (0 ≤ q ∧ q < M.b * M.p) ∧ (a < 0 ∨ a = l) ∧ M' = ⟨M.b, M.p, M.mp.set j q, M.tr.set j t⟩ ∧ c = 0
theorem setIs (M : Pm) (r : Bool) (l q : Int) (t : Bool) (a : Int) : ∃ M' c, SetIs M r l q t a M' c := by
  cases r
  · exact ⟨_, _, .inl ⟨rfl, rfl, rfl⟩⟩
  · by_cases h1 : 0 ≤ l ∧ l < M.mp.length
    · by_cases h2 : 0 ≤ q ∧ q < M.b * M.p
      · by_cases h3 : 0 ≤ a ∧ a ≠ l
        · exact ⟨_, _, .inr (.inr (.inr (.inl ⟨rfl, h1, h2, h3, rfl, rfl⟩)))⟩
        · exact ⟨_, _, .inr (.inr (.inr (.inr ⟨l.toNat, rfl, by omega, by omega, h2, by omega, rfl, rfl⟩)))⟩
      · exact ⟨_, _, .inr (.inr (.inl ⟨rfl, h1, h2, rfl, rfl⟩))⟩
    · exact ⟨_, _, .inr (.inl ⟨rfl, h1, rfl, rfl⟩)⟩
theorem setIs_sz {M M' : Pm} {r : Bool} {l q : Int} {t : Bool} {a c : Int} (h : SetIs M r l q t a M' c) (hz : PmSz M) : PmSz M' := by
  have h0 : PmSz Pm.zero := by unfold PmSz Pm.zero; simp
  rcases h with ⟨_, rfl, _⟩ | ⟨_, _, rfl, _⟩ | ⟨_, _, _, rfl, _⟩ | ⟨_, _, _, _, rfl, _⟩ | ⟨j, _, _, _, _, _, rfl, _⟩
  · exact h0
  · exact h0
  · exact h0
  · exact h0
  · unfold PmSz at *; simpa using hz
end Go.Proofs.Ytgkanacaijlljaa
