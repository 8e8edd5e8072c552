/- A table of bad blocks as plain data. No program in it. -/
import Derived.Test.YtnobgapdidpafaaDoorFlN
namespace Go.Proofs.YtnobgapdidpafaaDoor
open Go.RowKit
set_option linter.unusedVariables false
structure Tb where
  d : Int
  b : Int
  p : Int
  sp : Int
  bad : List Int
  rm : List Int
def Tb.zero : Tb := ⟨0, 0, 0, 0, [], []⟩
/-- A strictly increasing list of numbers below hi. -/
def Rises (l : List Int) (hi : Int) : Prop := ∀ i, i < l.length → (0 ≤ l.getD i 0 ∧ l.getD i 0 < hi) ∧ (0 < i → l.getD (i - 1) 0 < l.getD i 0)
def Tb.prim (T : Tb) : Int := T.b - T.sp
def Tb.home (T : Tb) (i : Int) : Int := i / T.prim * T.b + i % T.prim
def SpareOf (T : Tb) (die x : Int) : Prop := (die + 1) * T.b - T.sp ≤ x ∧ x < (die + 1) * T.b
def TbShape (T : Tb) : Prop := GeoOk T.d T.b T.p ∧ (1 ≤ T.sp ∧ T.sp ≤ 4) ∧ T.sp < T.b - 1 ∧ Rises T.bad (T.d * T.b)
def EntryOk (T : Tb) (i : Nat) : Prop :=
  ¬ T.rm.getD i 0 ∈ T.bad ∧ ¬ T.rm.getD i 0 ∈ T.rm.take i ∧ (T.rm.getD i 0 = T.home i ∨ (SpareOf T (T.home i / T.b) (T.rm.getD i 0) ∧ T.home i ∈ T.bad))
def TbOk (T : Tb) : Prop := TbShape T ∧ (T.rm.length : Int) = T.d * T.prim ∧ ∀ i, i < T.rm.length → EntryOk T i
theorem mem_iff_getD {l : List Int} {x : Int} : x ∈ l ↔ ∃ i, i < l.length ∧ l.getD i 0 = x := by
  constructor
  · intro h
    obtain ⟨i, hi, rfl⟩ := List.getElem_of_mem h
    exact ⟨i, hi, by rw [List.getD_eq_getElem?_getD, List.getElem?_eq_getElem hi]; rfl⟩
  · rintro ⟨i, hi, rfl⟩
    rw [List.getD_eq_getElem?_getD, List.getElem?_eq_getElem hi]
    exact List.getElem_mem hi
theorem Rises.lt {l : List Int} {hi : Int} (h : Rises l hi) {i j : Nat} (hij : i < j) (hj : j < l.length) : l.getD i 0 < l.getD j 0 := by
  induction j with
  | zero => omega
  | succ j ih =>
    have h1 := (h (j + 1) hj).2 (by omega)
    rw [Nat.add_sub_cancel] at h1
    by_cases e : i = j
    · subst e; exact h1
    · have := ih (by omega) (by omega); omega
theorem Rises.le {l : List Int} {hi : Int} (h : Rises l hi) : l.Pairwise (· ≤ ·) := by
  rw [List.pairwise_iff_getElem]
  intro i j h1 h2 hij
  have := h.lt hij h2
  rw [List.getD_eq_getElem?_getD, List.getD_eq_getElem?_getD, List.getElem?_eq_getElem h1, List.getElem?_eq_getElem h2] at this
  simp only [Option.getD_some] at this
  omega
theorem Rises.long {l : List Int} {hi : Int} (h : Rises l hi) (h0 : 0 ≤ hi) : (l.length : Int) ≤ hi := by
  have key : ∀ i, i < l.length → (i : Int) ≤ l.getD i 0 := by
    intro i
    induction i with
    | zero => intro hi; exact (h 0 hi).1.1
    | succ i ih => intro hi; have := ih (by omega); have := h.lt (show i < i + 1 by omega) hi; omega
  rcases Nat.eq_zero_or_pos l.length with e | e
  · omega
  · have := key (l.length - 1) (by omega); have := (h (l.length - 1) (by omega)).1.2; omega
/-- What is known of the numbers of a table whose shape is right. -/
theorem TbShape.nums {T : Tb} (h : TbShape T) : 2 ≤ T.d ∧ T.d ≤ 3 ∧ 4 ≤ T.b ∧ T.b ≤ 12 ∧ 1 ≤ T.sp ∧ T.sp ≤ 4 ∧ 2 ≤ T.prim ∧ T.prim ≤ 11 ∧ T.prim = T.b - T.sp ∧ 8 ≤ T.d * T.b ∧ T.d * T.b ≤ 36 := by
  have hm := h.1.mul
  obtain ⟨⟨⟨h1, h2⟩, ⟨h3, h4⟩, _⟩, ⟨h5, h6⟩, h7, _⟩ := h
  refine ⟨h1, h2, h3, h4, h5, h6, ?_, ?_, rfl, hm.1, hm.2⟩ <;> (unfold Tb.prim; omega)
theorem TbShape.rmLen {T : Tb} (h : TbShape T) : 4 ≤ T.d * T.prim ∧ T.d * T.prim ≤ 33 := by
  obtain ⟨h1, h2, _, _, _, _, h3, h4, _⟩ := h.nums
  obtain e | e : T.d = 2 ∨ T.d = 3 := by omega
  all_goals (rw [e]; omega)
/-- The die of a home, and its place there. -/
theorem home_die {T : Tb} (h : TbShape T) {i : Int} (h0 : 0 ≤ i) : T.home i / T.b = i / T.prim ∧ 0 ≤ T.home i ∧ 0 ≤ i % T.prim ∧ i % T.prim < T.prim ∧ 0 ≤ i / T.prim := by
  obtain ⟨_, _, h3, h4, h5, h6, h7, h8, h9, _⟩ := h.nums
  have a := Int.emod_nonneg i (show T.prim ≠ 0 by omega)
  have b := Int.emod_lt_of_pos i (show 0 < T.prim by omega)
  have c := Int.ediv_nonneg h0 (show 0 ≤ T.prim by omega)
  refine ⟨?_, ?_, a, b, c⟩
  · unfold Tb.home
    rw [Int.add_comm, Int.add_mul_ediv_right _ _ (show T.b ≠ 0 by omega), Int.ediv_eq_zero_of_lt a (by omega), Int.zero_add]
  · unfold Tb.home
    have := Int.mul_nonneg c (show 0 ≤ T.b by omega)
    omega
theorem die_lt {T : Tb} (h : TbShape T) {i : Int} (h0 : 0 ≤ i) (hi : i < T.d * T.prim) : i / T.prim < T.d := by
  obtain ⟨_, _, h3, h4, h5, h6, h7, h8, h9, _⟩ := h.nums
  exact Int.ediv_lt_of_lt_mul (by omega) hi
theorem home_lt {T : Tb} (h : TbShape T) {i : Int} (h0 : 0 ≤ i) (hi : i < T.d * T.prim) : T.home i < T.d * T.b := by
  obtain ⟨h1, h2, h3, h4, h5, h6, h7, h8, h9, _⟩ := h.nums
  have a := die_lt h h0 hi
  have b := (home_die h h0).2.2.2.1
  unfold Tb.home
  have : (i / T.prim + 1) * T.b ≤ T.d * T.b := Int.mul_le_mul_of_nonneg_right (by omega) (by omega)
  rw [Int.add_mul, Int.one_mul] at this
  omega
/-- The home as the program reckons it: division that cuts toward zero. -/
theorem home_t {T : Tb} (h : TbShape T) {i : Int} (h0 : 0 ≤ i) : Int.tdiv i T.prim * T.b + Int.tmod i T.prim = T.home i := by
  unfold Tb.home
  rw [Int.tdiv_eq_ediv_of_nonneg h0, Int.tmod_eq_emod_of_nonneg h0]
end Go.Proofs.YtnobgapdidpafaaDoor
