/- ErasePasses, in the model and in the program: the contracts. -/
import Derived.Test.YtmbgagkpabepcaaProg
import Derived.Test.YtmbgagkpabepcaaCxI
import Derived.Test.YtmbgagkpabepcaaCxS
import Derived.Test.YtmbgagkpabepcaaCxF
import Derived.Deep.RegionLaw
import Derived.StillTailTactics
namespace Go.Proofs.Ytmbgagkpabepcaa
open Go.RowKit
set_option linter.unusedVariables false
set_option linter.unusedSimpArgs false

/-- h is the greatest of the charges, or 0. -/
def MaxIs (cs : List Int) (h : Int) : Prop := (∀ i, i < cs.length → cs.getD i 0 ≤ h) ∧ (h = 0 ∨ ∃ i, i < cs.length ∧ cs.getD i 0 = h)
/-- y erases bring h below l, and no fewer do. -/
def PassIs (h l : Int) (y : Nat) : Prop := (∀ j : Nat, j < y → l ≤ h / 4 ^ j) ∧ h / 4 ^ y < l
theorem quart (y : Int) (p : Nat) : y / 4 ^ p / 4 = y / 4 ^ (p + 1) := by
  rw [Int.pow_succ, Int.ediv_ediv_of_nonneg (Int.le_of_lt (Int.pow_pos (by decide)))]
theorem passIs (h l : Int) (h0 : 0 ≤ h) (hl : 1 ≤ l) : ∃ y, PassIs h l y := by
  have key : ∀ f : Nat, ∀ n : Nat, h / 4 ^ n ≤ (f : Int) → (∀ j : Nat, j < n → l ≤ h / 4 ^ j) → ∃ y, PassIs h l y := by
    intro f
    induction f with
    | zero => intro n hn hj; exact ⟨n, hj, by omega⟩
    | succ f ih =>
      intro n hn hj
      by_cases hlt : h / 4 ^ n < l
      · exact ⟨n, hj, hlt⟩
      · refine ih (n + 1) ?_ (fun j hj' => ?_)
        · have e : h / 4 ^ (n + 1) = h / 4 ^ n / 4 := (quart h n).symm
          rw [e]; omega
        · by_cases e : j = n
          · subst e; omega
          · exact hj j (by omega)
  exact key h.toNat 0 (by simp; omega) (fun j hj => by omega)
theorem PassIs.uniq {h l : Int} {y z : Nat} (a : PassIs h l y) (b : PassIs h l z) : y = z := by
  rcases Nat.lt_trichotomy y z with e | e | e
  · have := b.1 y e; have := a.2; omega
  · exact e
  · have := a.1 z e; have := b.2; omega
theorem quart_le (y : Int) (h : 0 ≤ y) (p : Nat) : 0 ≤ y / 4 ^ p ∧ y / 4 ^ p ≤ y := by
  have hp : (0 : Int) < 4 ^ p := Int.pow_pos (by decide)
  exact ⟨Int.ediv_nonneg h (Int.le_of_lt hp), Int.ediv_le_self _ h⟩
/-- Some charge is at or above the level after p erases exactly if the greatest is. -/
theorem MaxIs.some_ge {cs : List Int} {h l : Int} (m : MaxIs cs h) (hl : 1 ≤ l) (p : Nat) : (∃ i, i < cs.length ∧ l ≤ cs.getD i 0 / 4 ^ p) ↔ l ≤ h / 4 ^ p := by
  have hp : (0 : Int) < 4 ^ p := Int.pow_pos (by decide)
  constructor
  · rintro ⟨i, hi, e⟩
    exact Int.le_trans e (Int.ediv_le_ediv hp (m.1 i hi))
  · intro e
    rcases m.2 with rfl | ⟨i, hi, rfl⟩
    · simp at e; omega
    · exact ⟨i, hi, e⟩
theorem maxIs (cs : List Int) (hc : ∀ i, i < cs.length → ChOk cs i) : ∃ h, MaxIs cs h ∧ 0 ≤ h ∧ h ≤ 255 := by
  have key : ∀ n, n ≤ cs.length → ∃ h, (∀ i, i < n → cs.getD i 0 ≤ h) ∧ (h = 0 ∨ ∃ i, i < n ∧ cs.getD i 0 = h) ∧ 0 ≤ h ∧ h ≤ 255 := by
    intro n
    induction n with
    | zero => intro _; exact ⟨0, fun i hi => by omega, .inl rfl, by omega, by omega⟩
    | succ n ih =>
      intro hn
      obtain ⟨h, h1, h2, h3, h4⟩ := ih (by omega)
      have hk := hc n (by omega)
      unfold ChOk at hk
      by_cases e : cs.getD n 0 ≤ h
      · refine ⟨h, fun i hi => ?_, ?_, h3, h4⟩
        · by_cases f : i = n
          · subst f; exact e
          · exact h1 i (by omega)
        · rcases h2 with h2 | ⟨i, hi, h2⟩
          · exact .inl h2
          · exact .inr ⟨i, by omega, h2⟩
      · refine ⟨cs.getD n 0, fun i hi => ?_, .inr ⟨n, by omega, rfl⟩, hk.1, hk.2⟩
        by_cases f : i = n
        · subst f; omega
        · have := h1 i (by omega); omega
  obtain ⟨h, h1, h2, h3, h4⟩ := key cs.length (Nat.le_refl _)
  exact ⟨h, ⟨h1, h2⟩, h3, h4⟩
/-- What ErasePasses answers. -/
def EpIs (M : Ce) (r : Bool) (l y : Int) : Prop := (¬ (r = true ∧ 1 ≤ l ∧ l ≤ 255) ∧ y = -1) ∨ ((r = true ∧ 1 ≤ l ∧ l ≤ 255) ∧ ∃ h p, MaxIs M.c h ∧ 0 ≤ h ∧ h ≤ 255 ∧ PassIs h l p ∧ y = (p : Int))
theorem epIs (M : Ce) (r : Bool) (hr : r = true ↔ CeOk M) (l : Int) : ∃ y, EpIs M r l y := by
  by_cases g : r = true ∧ 1 ≤ l ∧ l ≤ 255
  · obtain ⟨h, m, h0, h1⟩ := maxIs M.c (hr.1 g.1).2
    obtain ⟨p, hp⟩ := passIs h l h0 g.2.1
    exact ⟨p, .inr ⟨g, h, p, m, h0, h1, hp, rfl⟩⟩
  · exact ⟨-1, .inl ⟨g, rfl⟩⟩
theorem MaxIs.uniq {cs : List Int} {a b : Int} (ha : MaxIs cs a) (hb : MaxIs cs b) (h0 : 0 ≤ a) (h1 : 0 ≤ b) : a = b := by
  have f : ∀ {a b : Int}, MaxIs cs a → MaxIs cs b → 0 ≤ b → a ≤ b := by
    intro a b ha hb h
    rcases ha.2 with rfl | ⟨i, hi, rfl⟩
    · exact h
    · exact hb.1 i hi
  exact Int.le_antisymm (f ha hb h1) (f hb ha h0)
end Go.Proofs.Ytmbgagkpabepcaa
