/- LogicalAt, in the program and in the model: the contracts. -/
import Derived.Test.YtbdfdkhkamonpaaProg
import Derived.Test.YtbdfdkhkamonpaaPmL
namespace Go.Proofs.Ytbdfdkhkamonpaa
open Go.RowKit
set_option linter.unusedVariables false
set_option linter.unusedSimpArgs false
def logV (r : Bool) (a : Int) : Int := if r = true ∧ 0 ≤ a then a else 0
def logB (r : Bool) (a : Int) : Bool := r && decide (0 ≤ a)
theorem AtIs.own {H : Int} {mp : List Int} {tr : List Bool} {n : Nat} {z a : Int} (h : AtIs mp n z a) (hn : n ≤ mp.length) (he : ∀ i, i < n → EntOk H mp tr i) : (ownF mp n z).getD 0 = logV true a ∧ (ownF mp n z).isSome = logB true a := by
  rcases h with ⟨k, h1, h2, h3, h4, rfl⟩ | ⟨h1, rfl⟩
  · rw [ownF_some hn he h2 h1 h3]; simp [logV, logB]
  · rw [ownF_none he h1]; simp [logV, logB]
theorem AtIs.low {mp : List Int} {n : Nat} {z a : Int} (h : AtIs mp n z a) : a = -1 ∨ (0 ≤ a ∧ a < n) := by
  rcases h with ⟨k, h1, h2, h3, h4, rfl⟩ | ⟨h1, rfl⟩
  · exact .inr ⟨by omega, by omega⟩
  · exact .inl rfl
end Go.Proofs.Ytbdfdkhkamonpaa
