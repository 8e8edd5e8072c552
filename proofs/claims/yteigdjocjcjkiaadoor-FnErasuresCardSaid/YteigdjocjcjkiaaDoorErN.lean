/- Plain facts on unknown bits: every guess, and at most one of them is a codeword. -/
import Derived.Test.YteigdjocjcjkiaaDoorEccN
import Derived.Test.YteigdjocjcjkiaaDoorWordN
namespace Go.Proofs.YteigdjocjcjkiaaDoor
open Go.RowKit

/-- The bits L of X, each inverted where g has a 1. -/
def flipL : Nat → List Nat → Nat → Nat
  | X, [], _ => X
  | X, b :: L, g => flipL (if g % 2 = 1 then X ^^^ 2 ^ b else X) L (g / 2)
theorem flipL_app (b : Nat) : ∀ (L : List Nat) (X g : Nat), flipL X (L ++ [b]) g = if g / 2 ^ L.length % 2 = 1 then flipL X L g ^^^ 2 ^ b else flipL X L g
  | [], X, g => by simp [flipL]
  | a :: L, X, g => by
    rw [List.cons_append, flipL, flipL_app b L, flipL, List.length_cons, Nat.div_div_eq_div_mul, Nat.pow_succ, Nat.mul_comm 2]
theorem flipL_lt : ∀ (L : List Nat) (X g : Nat), X < 2 ^ 72 → (∀ b ∈ L, b < 72) → flipL X L g < 2 ^ 72
  | [], X, g, h, _ => h
  | b :: L, X, g, h, hb => by
    rw [flipL]
    refine flipL_lt L _ _ ?_ (fun c hc => hb c (List.mem_cons_of_mem _ hc))
    split
    · exact flip_lt h (hb b List.mem_cons_self)
    · exact h
theorem flipL_mod : ∀ (L : List Nat) (X g : Nat), flipL X L (g % 2 ^ L.length) = flipL X L g
  | [], X, g => rfl
  | b :: L, X, g => by
    rw [flipL, flipL, List.length_cons, Nat.pow_succ, Nat.mul_comm, Nat.mod_mul_right_mod, Nat.mod_mul_right_div_self, flipL_mod L]
theorem flipL_add : ∀ (L : List Nat) (X Y g h : Nat), flipL (X ^^^ Y) L (g ^^^ h) = flipL X L g ^^^ flipL Y L h
  | [], X, Y, g, h => rfl
  | b :: L, X, Y, g, h => by
    rw [flipL, flipL, flipL, Nat.xor_div_two, ← flipL_add L]
    congr 1
    have hx := @Nat.xor_mod_two_eq_one g h
    by_cases h1 : g % 2 = 1
    · by_cases h2 : h % 2 = 1
      · rw [if_neg (by rw [hx]; simp [h1, h2]), if_pos h1, if_pos h2, Nat.xor_assoc, Nat.xor_comm (2 ^ b), Nat.xor_assoc, Nat.xor_self, Nat.xor_zero]
      · rw [if_pos (by rw [hx]; simp [h1, h2]), if_pos h1, if_neg h2, Nat.xor_assoc, Nat.xor_comm Y, ← Nat.xor_assoc]
    · by_cases h2 : h % 2 = 1
      · rw [if_pos (by rw [hx]; simp [h1, h2]), if_neg h1, if_pos h2, Nat.xor_assoc]
      · rw [if_neg (by rw [hx]; simp [h1, h2]), if_neg h1, if_neg h2]
theorem good_zero : good 0 = true := by decide
theorem no_one {a : Nat} (ha : a < 72) : good (0 ^^^ 2 ^ a) = false := not_good (good_one good_zero ha).2
theorem no_two {a b : Nat} (ha : a < 72) (hb : b < 72) (hab : a ≠ b) : good (0 ^^^ 2 ^ a ^^^ 2 ^ b) = false := by
  rw [Bool.eq_false_iff]; intro h; exact (good_two good_zero ha hb hab).1 ((good_iff _).1 h).1
theorem no_three {a b c : Nat} (ha : a < 72) (hb : b < 72) (hc : c < 72) (hab : a ≠ b) : good (0 ^^^ 2 ^ a ^^^ 2 ^ b ^^^ 2 ^ c) = false :=
  not_good (by rw [par_flip _ hc, (good_two good_zero ha hb hab).2]; rfl)
theorem only_zero : ∀ (L : List Nat) (g : Nat), L.length ≤ 3 → (∀ b ∈ L, b < 72) → L.Nodup → good (flipL 0 L g) = true → flipL 0 L g = 0
  | [], g, _, _, _, _ => rfl
  | [a], g, _, hb, _, h => by
    have ha := hb a (by simp)
    simp only [flipL] at h ⊢
    split
    · rename_i h1; rw [if_pos h1, no_one ha] at h; cases h
    · rfl
  | [a, b], g, _, hb, hn, h => by
    have ha := hb a (by simp)
    have hbb := hb b (by simp)
    have hab : a ≠ b := by simp at hn; exact hn
    simp only [flipL] at h ⊢
    by_cases h1 : g % 2 = 1 <;> by_cases h2 : g / 2 % 2 = 1 <;> simp only [h1, h2, if_true, if_false] at h ⊢
    · rw [no_two ha hbb hab] at h; cases h
    · rw [no_one ha] at h; cases h
    · rw [no_one hbb] at h; cases h
  | [a, b, c], g, _, hb, hn, h => by
    have ha := hb a (by simp)
    have hbb := hb b (by simp)
    have hc := hb c (by simp)
    obtain ⟨hab, hac, hbc⟩ : a ≠ b ∧ a ≠ c ∧ b ≠ c := by simp at hn; exact ⟨hn.1.1, hn.1.2, hn.2⟩
    simp only [flipL] at h ⊢
    by_cases h1 : g % 2 = 1 <;> by_cases h2 : g / 2 % 2 = 1 <;> by_cases h3 : g / 2 / 2 % 2 = 1 <;> simp only [h1, h2, h3, if_true, if_false] at h ⊢
    · rw [no_three ha hbb hc hab] at h; cases h
    · rw [no_two ha hbb hab] at h; cases h
    · rw [no_two ha hc hac] at h; cases h
    · rw [no_one ha] at h; cases h
    · rw [no_two hbb hc hbc] at h; cases h
    · rw [no_one hbb] at h; cases h
    · rw [no_one hc] at h; cases h
  | a :: b :: c :: d :: L, g, hl, _, _, _ => by simp at hl
theorem good_xor {X Y : Nat} (h1 : good X = true) (h2 : good Y = true) : good (X ^^^ Y) = true := by
  rw [good_iff] at h1 h2 ⊢
  rw [synN_lin, parN_lin, h1.1, h1.2, h2.1, h2.2]
  exact ⟨rfl, rfl⟩
/-- At most one guess is a codeword. -/
theorem only_one {X g h : Nat} {L : List Nat} (hl : L.length ≤ 3) (hb : ∀ b ∈ L, b < 72) (hn : L.Nodup) (h1 : good (flipL X L g) = true) (h2 : good (flipL X L h) = true) : flipL X L g = flipL X L h := by
  have hx := good_xor h1 h2
  have e := flipL_add L X X g h
  rw [Nat.xor_self] at e
  rw [← e] at hx
  have := only_zero L _ hl hb hn hx
  rw [e] at this
  exact (xor_zero_iff _ _).1 this
/-- How the search over all guesses ends. -/
def Sol (X : Nat) (L : List Nat) (R : ByteArray) (c : Int) : Prop :=
  (∃ g, good (flipL X L g) = true ∧ R = wStr (lo (flipL X L g)) ∧ c = 0) ∨ ((∀ g, good (flipL X L g) = false) ∧ R = ⟨#[]⟩ ∧ c = 6)
theorem sol_total (X : Nat) (L : List Nat) : ∃ R c, Sol X L R c := by
  by_cases h : ∃ g, good (flipL X L g) = true
  · obtain ⟨g, hg⟩ := h
    exact ⟨_, _, .inl ⟨g, hg, rfl, rfl⟩⟩
  · exact ⟨_, _, .inr ⟨fun g => by rw [Bool.eq_false_iff]; exact fun e => h ⟨g, e⟩, rfl, rfl⟩⟩
/-- May the list be one of unknown bits? -/
def OkAt (l : List Int) (i : Nat) : Prop := 0 ≤ l.getD i 0 ∧ l.getD i 0 ≤ 71 ∧ (0 < i → l.getD (i - 1) 0 < l.getD i 0)
def Rising (l : List Int) : Prop := ∀ i, i < l.length → OkAt l i
theorem rising_lt {l : List Int} (h : Rising l) : ∀ j, j < l.length → ∀ i, i < j → l.getD i 0 < l.getD j 0
  | 0, _, i, hi => by omega
  | j + 1, hj, i, hi => by
    have h1 := (h (j + 1) hj).2.2 (by omega)
    rw [Nat.add_sub_cancel] at h1
    by_cases e : i = j
    · rw [e]; exact h1
    · have := rising_lt h j (by omega) i (by omega); omega
/-- The bits themselves. -/
def natL (l : List Int) : List Nat := l.map Int.toNat
theorem natL_length (l : List Int) : (natL l).length = l.length := by simp [natL]
theorem natL_back {l : List Int} (h : Rising l) : (natL l).map (fun (b : Nat) => (b : Int)) = l := by
  apply List.ext_getElem
  · simp [natL]
  · intro i h1 h2
    have := (h i h2).1
    rw [List.getD_eq_getElem?_getD, List.getElem?_eq_getElem h2] at this
    simp at this
    simp [natL]
    omega
theorem natL_lt {l : List Int} (h : Rising l) : ∀ b ∈ natL l, b < 72 := by
  intro b hb
  obtain ⟨i, hi, rfl⟩ := List.getElem_of_mem hb
  have hi' : i < l.length := by simpa [natL] using hi
  have := (h i hi').2.1
  have h0 := (h i hi').1
  rw [List.getD_eq_getElem?_getD, List.getElem?_eq_getElem hi'] at this h0
  simp [natL] at *
  omega
theorem natL_nodup {l : List Int} (h : Rising l) : (natL l).Nodup := by
  rw [List.nodup_iff_pairwise_ne, List.pairwise_iff_getElem]
  intro i j hi hj hij
  have hj' : j < l.length := by simpa [natL] using hj
  have hi' : i < l.length := by omega
  have h1 := rising_lt h j hj' i hij
  have h2 := (h i hi').1
  rw [List.getD_eq_getElem?_getD, List.getElem?_eq_getElem hi', List.getD_eq_getElem?_getD, List.getElem?_eq_getElem hj'] at h1
  rw [List.getD_eq_getElem?_getD, List.getElem?_eq_getElem hi'] at h2
  simp [natL] at *
  omega
theorem first_not (l : List Int) : Rising l ∨ ∃ m, m < l.length ∧ (∀ k, k < m → OkAt l k) ∧ ¬ OkAt l m := by
  have all : ∀ n, (∀ k, k < n → OkAt l k) ∨ ∃ m, m < n ∧ (∀ k, k < m → OkAt l k) ∧ ¬ OkAt l m := by
    intro n
    induction n with
    | zero => exact .inl fun k h => by omega
    | succ n ih =>
      rcases ih with h | ⟨m, h1, h2, h3⟩
      · by_cases hp : OkAt l n
        · exact .inl fun k hk => if e : k = n then e ▸ hp else h k (by omega)
        · exact .inr ⟨n, by omega, h, hp⟩
      · exact .inr ⟨m, by omega, h2, h3⟩
  rcases all l.length with h | h
  · exact .inl h
  · exact .inr h
end Go.Proofs.YteigdjocjcjkiaaDoor
