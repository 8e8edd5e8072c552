/- PhysOf, in the program and in the model: the contracts. -/
import Derived.Test.YtbdfdkhkamonpaaProg
import Derived.Test.YtbdfdkhkamonpaaPmL
namespace Go.Proofs.Ytbdfdkhkamonpaa
open Go.RowKit
set_option linter.unusedVariables false
set_option linter.unusedSimpArgs false
/-- What PhysOf answers. -/
def PhIs (M : Pm) (r : Bool) (l v : Int) (ok : Bool) : Prop :=
  (∃ k : Nat, r = true ∧ k < M.mp.length ∧ l = k ∧ M.mp.getD k 0 ≠ -1 ∧ M.tr.getD k false = false ∧ v = M.mp.getD k 0 ∧ ok = true) ∨
  (∃ k : Nat, r = true ∧ k < M.mp.length ∧ l = k ∧ (M.mp.getD k 0 = -1 ∨ (M.mp.getD k 0 ≠ -1 ∧ M.tr.getD k false = true)) ∧ v = 0 ∧ ok = false) ∨
  (r = true ∧ ¬ (0 ≤ l ∧ l < M.mp.length) ∧ v = 0 ∧ ok = false) ∨ (r = false ∧ v = 0 ∧ ok = false)
theorem phIs (M : Pm) (r : Bool) (l : Int) : ∃ v ok, PhIs M r l v ok := by
  cases r
  · exact ⟨0, false, .inr (.inr (.inr ⟨rfl, rfl, rfl⟩))⟩
  · by_cases h : 0 ≤ l ∧ l < M.mp.length
    · obtain ⟨k, rfl⟩ : ∃ k : Nat, l = k := ⟨l.toNat, by omega⟩
      have hk : k < M.mp.length := by omega
      by_cases e : M.mp.getD k 0 = -1
      · exact ⟨0, false, .inr (.inl ⟨k, rfl, hk, rfl, .inl e, rfl, rfl⟩)⟩
      · cases t : M.tr.getD k false
        · exact ⟨_, true, .inl ⟨k, rfl, hk, rfl, e, t, rfl, rfl⟩⟩
        · exact ⟨0, false, .inr (.inl ⟨k, rfl, hk, rfl, .inr ⟨e, t⟩, rfl, rfl⟩)⟩
    · exact ⟨0, false, .inr (.inr (.inl ⟨rfl, h, rfl, rfl⟩))⟩
end Go.Proofs.Ytbdfdkhkamonpaa
