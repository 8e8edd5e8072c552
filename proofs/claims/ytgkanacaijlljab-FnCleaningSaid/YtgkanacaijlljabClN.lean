/- The greedy victim has the fewest live pages, and not more than their average: plain facts. -/
import Derived.Test.YtgkanacaijlljabStR
namespace Go.Proofs.Ytgkanacaijlljab
open Go.RowKit
set_option linter.unusedVariables false
theorem best_none {L : List St} {q p : Int} (k : Nat) : (bestTo L q p k < 0 ↔ ∀ i, i < k → ¬ Cand p (L.getD i St.zero)) := by
  induction k with
  | zero => simp [bestTo]
  | succ k ih =>
    by_cases h : Cand p (L.getD k St.zero) ∧ (bestTo L q p k < 0 ∨ Bet q (L.getD k St.zero) (L.getD (bestTo L q p k).toNat St.zero) p)
    · rw [bestTo_yes h]
      exact ⟨fun e => by omega, fun e => absurd h.1 (e k (by omega))⟩
    · rw [bestTo_no h, ih]
      constructor
      · intro e i hi hc
        by_cases hik : i = k
        · subst hik
          exact h ⟨hc, .inl (ih.2 e)⟩
        · exact e i (by omega) hc
      · exact fun e i hi => e i (by omega)
theorem best_min {L : List St} {p : Int} (k : Nat) (h0 : 0 ≤ bestTo L 1 p k) : Cand p (L.getD (bestTo L 1 p k).toNat St.zero) ∧ (bestTo L 1 p k).toNat < k ∧ ∀ i, i < k → Cand p (L.getD i St.zero) → (L.getD (bestTo L 1 p k).toNat St.zero).l ≤ (L.getD i St.zero).l := by
  induction k with
  | zero => simp [bestTo] at h0
  | succ k ih =>
    by_cases h : Cand p (L.getD k St.zero) ∧ (bestTo L 1 p k < 0 ∨ Bet 1 (L.getD k St.zero) (L.getD (bestTo L 1 p k).toNat St.zero) p)
    · rw [bestTo_yes h, Int.toNat_natCast]
      refine ⟨h.1, by omega, fun i hi hc => ?_⟩
      by_cases hik : i = k
      · subst hik; omega
      · by_cases hn : bestTo L 1 p k < 0
        · exact absurd hc ((best_none k).1 hn i (by omega))
        · have := (ih (by omega)).2.2 i (by omega) hc
          rcases h.2 with h2 | h2
          · exact absurd h2 hn
          · unfold Bet at h2; simp only [if_true] at h2; omega
    · rw [bestTo_no h] at h0 ⊢
      obtain ⟨a, b, c⟩ := ih h0
      refine ⟨a, by omega, fun i hi hc => ?_⟩
      by_cases hik : i = k
      · subst hik
        rcases Int.lt_or_le (L.getD i St.zero).l (L.getD (bestTo L 1 p i).toNat St.zero).l with e | e
        · exact absurd ⟨hc, .inr (by unfold Bet; simp only [if_true]; exact e)⟩ h
        · exact e
      · exact c i (by omega) hc
theorem best_sign {L : List St} {p : Int} (k : Nat) : decide (bestTo L 1 p k < 0) = decide (bestTo L 2 p k < 0) := by
  rw [decide_eq_decide, best_none, best_none]
/-- .. and of all blocks that are usable, candidates or not. -/
theorem best_all {L : List St} {p : Int} (ho : StsOk L p) (h0 : 0 ≤ bestTo L 1 p L.length) (i : Nat) (hi : i < L.length) (hu : (L.getD i St.zero).u = true) : (L.getD (bestTo L 1 p L.length).toNat St.zero).l ≤ (L.getD i St.zero).l := by
  obtain ⟨a, b, c⟩ := best_min L.length h0
  by_cases hl : (L.getD i St.zero).l < p
  · exact c i hi ⟨hu, hl⟩
  · have := a.2; omega
theorem sum_ge {L : List St} {m : Int} (k : Nat) (h : ∀ i, i < k → (L.getD i St.zero).u = true → m ≤ (L.getD i St.zero).l) : m * cntU L k ≤ sumU L k := by
  induction k with
  | zero => simp [sumU, cntU]
  | succ k ih =>
    have a := ih (fun i hi => h i (by omega))
    have b := h k (by omega)
    unfold sumU cntU
    by_cases e : (L.getD k St.zero).u = true
    · rw [if_pos e, if_pos e, Int.mul_add]
      have := b e
      omega
    · rw [if_neg e, if_neg e]; exact a
end Go.Proofs.Ytgkanacaijlljab
