/- The proof's own lemmas, part 6: Rw SrcK TbN CeN. -/
import Derived.Test.YtgamoiagpglcmaaMg0
import Derived.Test.YtgamoiagpglcmaaProg
import Derived.Test.YtgamoiagpglcmaaMg2
import Derived.Test.YtgamoiagpglcmaaMg4
import Derived.Test.YtgamoiagpglcmaaMg3
/- A block of memory whose cells are all known (a variable of a struct's type, say). -/
namespace Go.Proofs.Ytgamoiagpglcmaa
open Go.RowKit
/-- Block g is a row of the cells cs, none frozen. -/
def Rw (w : World) (g : Nat) (t : TypeId) (cs : Array Value) : Prop := w.heap[g]? = some (.cells cs t (0, 0))
section
variable {w w' : World} {g B : Nat} {t : TypeId} {cs : Array Value}
theorem Rw.lt (h : Rw w g t cs) : g < w.heap.size := by
  rcases Nat.lt_or_ge g w.heap.size with hlt | hge
  · exact hlt
  · unfold Rw at h; rw [Array.getElem?_eq_none hge] at h; cases h
theorem Rw.cell (h : Rw w g t cs) (j : Nat) : w.cell? ⟨g, j, none⟩ = cs[j]? := cell_of_row w g j _ t (0, 0) h
theorem Rw.free (h : Rw w g t cs) (j : Nat) : w.frozen? ⟨g, j, none⟩ = false := frozen_of_row w g j _ t h
theorem Rw.below (h : Rw w g t cs) (hb : Below B w w') (hg : g < B) : Rw w' g t cs := (hb.block g hg).trans h
theorem Rw.set_ (h : Rw w g t cs) (j : Nat) (u : Value) : Rw (w.setCell ⟨g, j, none⟩ u) g t (cs.setIfInBounds j u) := by
  unfold Rw at h ⊢; exact heap_setCell_same w g j _ t _ h
theorem Rw.far (h : Rw w g t cs) {p : Addr} (hp : g ≠ p.block) (u : Value) : Rw (w.setCell p u) g t cs := (Below.heap_setCell w p u g hp).trans h
theorem Rw.alloc (h : Rw w g t cs) (o : Obj) : Rw (w.alloc o) g t cs := (Below.heap_alloc w o g h.lt).trans h
theorem Rw.new (w : World) (t : TypeId) (cs : Array Value) : Rw (w.alloc (.cells cs t)) w.heap.size t cs := heap_alloc_new w _
theorem Rw.four {a b c d : Value} (h : Rw w g t #[a, b, c, d]) : w.cell? ⟨g, 0, none⟩ = some a ∧ w.cell? ⟨g, 1, none⟩ = some b ∧ w.cell? ⟨g, 2, none⟩ = some c ∧ w.cell? ⟨g, 3, none⟩ = some d :=
  ⟨h.cell 0, h.cell 1, h.cell 2, h.cell 3⟩
theorem Rw.three {a b c : Value} (h : Rw w g t #[a, b, c]) : w.cell? ⟨g, 0, none⟩ = some a ∧ w.cell? ⟨g, 1, none⟩ = some b ∧ w.cell? ⟨g, 2, none⟩ = some c :=
  ⟨h.cell 0, h.cell 1, h.cell 2⟩
theorem Rw.eight {a b c d e f i j : Value} (h : Rw w g t #[a, b, c, d, e, f, i, j]) : w.cell? ⟨g, 0, none⟩ = some a ∧ w.cell? ⟨g, 1, none⟩ = some b ∧ w.cell? ⟨g, 2, none⟩ = some c ∧ w.cell? ⟨g, 3, none⟩ = some d ∧
    w.cell? ⟨g, 4, none⟩ = some e ∧ w.cell? ⟨g, 5, none⟩ = some f ∧ w.cell? ⟨g, 6, none⟩ = some i ∧ w.cell? ⟨g, 7, none⟩ = some j :=
  ⟨h.cell 0, h.cell 1, h.cell 2, h.cell 3, h.cell 4, h.cell 5, h.cell 6, h.cell 7⟩
theorem Rw.frees (h : Rw w g t cs) : w.frozen? ⟨g, 0, none⟩ = false ∧ w.frozen? ⟨g, 1, none⟩ = false ∧ w.frozen? ⟨g, 2, none⟩ = false ∧ w.frozen? ⟨g, 3, none⟩ = false ∧
    w.frozen? ⟨g, 4, none⟩ = false ∧ w.frozen? ⟨g, 5, none⟩ = false ∧ w.frozen? ⟨g, 6, none⟩ = false ∧ w.frozen? ⟨g, 7, none⟩ = false :=
  ⟨h.free 0, h.free 1, h.free 2, h.free 3, h.free 4, h.free 5, h.free 6, h.free 7⟩
theorem Rw.two_new (w : World) (t1 t2 : TypeId) (c1 c2 : Array Value) : Rw ((w.alloc (.cells c1 t1)).alloc (.cells c2 t2)) w.heap.size t1 c1 ∧
    Rw ((w.alloc (.cells c1 t1)).alloc (.cells c2 t2)) (w.heap.size + 1) t2 c2 ∧ Below w.heap.size w ((w.alloc (.cells c1 t1)).alloc (.cells c2 t2)) := by
  refine ⟨(Rw.new w t1 c1).alloc _, ?_, ((Below.refl w.heap.size w).alloc (Nat.le_refl _) _).alloc (by simp) _⟩
  have := Rw.new (w.alloc (.cells c1 t1)) t2 c2
  simpa using this
theorem Rw.three_new (w : World) (t1 t2 t3 : TypeId) (c1 c2 c3 : Array Value) : Rw (((w.alloc (.cells c1 t1)).alloc (.cells c2 t2)).alloc (.cells c3 t3)) w.heap.size t1 c1 ∧
    Rw (((w.alloc (.cells c1 t1)).alloc (.cells c2 t2)).alloc (.cells c3 t3)) (w.heap.size + 1) t2 c2 ∧ Rw (((w.alloc (.cells c1 t1)).alloc (.cells c2 t2)).alloc (.cells c3 t3)) (w.heap.size + 1 + 1) t3 c3 ∧
    Below w.heap.size w (((w.alloc (.cells c1 t1)).alloc (.cells c2 t2)).alloc (.cells c3 t3)) := by
  obtain ⟨h1, h2, h3⟩ := Rw.two_new w t1 t2 c1 c2
  refine ⟨h1.alloc _, h2.alloc _, ?_, h3.alloc (by simp; omega) _⟩
  have := Rw.new ((w.alloc (.cells c1 t1)).alloc (.cells c2 t2)) t3 c3
  simpa using this
theorem Rw.farA (h : Rw w g t cs) {g' k : Nat} (hp : g ≠ g') (u : Value) : Rw (w.setCell ⟨g', k, none⟩ u) g t cs := h.far (p := ⟨g', k, none⟩) hp u
theorem bset {a : World} (h : Below B a w) {g k : Nat} (hg : B ≤ g) (u : Value) : Below B a (w.setCell ⟨g, k, none⟩ u) := h.setCell (p := ⟨g, k, none⟩) hg u
end
end Go.Proofs.Ytgamoiagpglcmaa
/- The source of choices and rows of memory, kept through calls and stores. -/
namespace Go.Proofs.Ytgamoiagpglcmaa
open Go.RowKit
set_option linter.unusedVariables false
theorem grown_out {w w' : World} {g g' k : Nat} (h : w.grownBy w' (some g)) (hg : w.heap.size ≤ g') (u : Value) : w.grownBy (w'.setCell ⟨g', k, none⟩ u) (some g) :=
  ⟨h.os, h.tape, h.output, by simpa using h.size, fun j hj hr => (Below.heap_setCell w' ⟨g', k, none⟩ u j (by show j ≠ g'; omega)).trans (h.block j hj hr)⟩
theorem Src.keepS {w w' : World} {B g n : Nat} (h : Src w B g n) (hs : Same 0 (g + 1) w w') (hz : w.heap.size ≤ w'.heap.size) : Src w' B g n := by
  have hlt := h.lt
  obtain ⟨v, a, s, h1, h2, h3, h4⟩ := h
  exact ⟨v, a, s, (hs g (Nat.zero_le _) (Nat.lt_succ_self _)).trans h1, h2, h3.keep fun b hb' => hs b (Nat.zero_le _) (by omega), h4⟩
theorem Rw.grown {w w' : World} {g g' : Nat} {t : TypeId} {cs : Array Value} (h : Rw w g' t cs) (hg : w.grownBy w' (some g)) (hne : g' ≠ g) : Rw w' g' t cs :=
  (hg.block g' h.lt (fun e => hne (by injection e))).trans h
end Go.Proofs.Ytgamoiagpglcmaa
/- A table of bad blocks as plain data. No program in it. -/
namespace Go.Proofs.Ytgamoiagpglcmaa
open Go.RowKit
set_option linter.unusedVariables false
structure Tb where
  d : Int
  b : Int
  p : Int
  sp : Int
  bad : List Int
  rm : List Int
def Tb.zero : Tb := ⟨0, 0, 0, 0, [], []⟩
/-- A strictly increasing list of numbers below hi. -/
def Rises (l : List Int) (hi : Int) : Prop := ∀ i, i < l.length → (0 ≤ l.getD i 0 ∧ l.getD i 0 < hi) ∧ (0 < i → l.getD (i - 1) 0 < l.getD i 0)
def Tb.prim (T : Tb) : Int := T.b - T.sp
def Tb.home (T : Tb) (i : Int) : Int := i / T.prim * T.b + i % T.prim
def SpareOf (T : Tb) (die x : Int) : Prop := (die + 1) * T.b - T.sp ≤ x ∧ x < (die + 1) * T.b
def TbShape (T : Tb) : Prop := GeoOk T.d T.b T.p ∧ (1 ≤ T.sp ∧ T.sp ≤ 4) ∧ T.sp < T.b - 1 ∧ Rises T.bad (T.d * T.b)
def EntryOk (T : Tb) (i : Nat) : Prop :=
  ¬ T.rm.getD i 0 ∈ T.bad ∧ ¬ T.rm.getD i 0 ∈ T.rm.take i ∧ (T.rm.getD i 0 = T.home i ∨ (SpareOf T (T.home i / T.b) (T.rm.getD i 0) ∧ T.home i ∈ T.bad))
def TbOk (T : Tb) : Prop := TbShape T ∧ (T.rm.length : Int) = T.d * T.prim ∧ ∀ i, i < T.rm.length → EntryOk T i
theorem mem_iff_getD {l : List Int} {x : Int} : x ∈ l ↔ ∃ i, i < l.length ∧ l.getD i 0 = x := by
  constructor
  · intro h
    obtain ⟨i, hi, rfl⟩ := List.getElem_of_mem h
    exact ⟨i, hi, by rw [List.getD_eq_getElem?_getD, List.getElem?_eq_getElem hi]; rfl⟩
  · rintro ⟨i, hi, rfl⟩
    rw [List.getD_eq_getElem?_getD, List.getElem?_eq_getElem hi]
    exact List.getElem_mem hi
theorem Rises.lt {l : List Int} {hi : Int} (h : Rises l hi) {i j : Nat} (hij : i < j) (hj : j < l.length) : l.getD i 0 < l.getD j 0 := by
  induction j with
  | zero => omega
  | succ j ih =>
    have h1 := (h (j + 1) hj).2 (by omega)
    rw [Nat.add_sub_cancel] at h1
    by_cases e : i = j
    · subst e; exact h1
    · have := ih (by omega) (by omega); omega
theorem Rises.le {l : List Int} {hi : Int} (h : Rises l hi) : l.Pairwise (· ≤ ·) := by
  rw [List.pairwise_iff_getElem]
  intro i j h1 h2 hij
  have := h.lt hij h2
  rw [List.getD_eq_getElem?_getD, List.getD_eq_getElem?_getD, List.getElem?_eq_getElem h1, List.getElem?_eq_getElem h2] at this
  simp only [Option.getD_some] at this
  omega
theorem Rises.long {l : List Int} {hi : Int} (h : Rises l hi) (h0 : 0 ≤ hi) : (l.length : Int) ≤ hi := by
  have key : ∀ i, i < l.length → (i : Int) ≤ l.getD i 0 := by
    intro i
    induction i with
    | zero => intro hi; exact (h 0 hi).1.1
    | succ i ih => intro hi; have := ih (by omega); have := h.lt (show i < i + 1 by omega) hi; omega
  rcases Nat.eq_zero_or_pos l.length with e | e
  · omega
  · have := key (l.length - 1) (by omega); have := (h (l.length - 1) (by omega)).1.2; omega
/-- What is known of the numbers of a table whose shape is right. -/
theorem TbShape.nums {T : Tb} (h : TbShape T) : 2 ≤ T.d ∧ T.d ≤ 3 ∧ 4 ≤ T.b ∧ T.b ≤ 12 ∧ 1 ≤ T.sp ∧ T.sp ≤ 4 ∧ 2 ≤ T.prim ∧ T.prim ≤ 11 ∧ T.prim = T.b - T.sp ∧ 8 ≤ T.d * T.b ∧ T.d * T.b ≤ 36 := by
  have hm := h.1.mul
  obtain ⟨⟨⟨h1, h2⟩, ⟨h3, h4⟩, _⟩, ⟨h5, h6⟩, h7, _⟩ := h
  refine ⟨h1, h2, h3, h4, h5, h6, ?_, ?_, rfl, hm.1, hm.2⟩ <;> (unfold Tb.prim; omega)
theorem TbShape.rmLen {T : Tb} (h : TbShape T) : 4 ≤ T.d * T.prim ∧ T.d * T.prim ≤ 33 := by
  obtain ⟨h1, h2, _, _, _, _, h3, h4, _⟩ := h.nums
  obtain e | e : T.d = 2 ∨ T.d = 3 := by omega
  all_goals (rw [e]; omega)
/-- The die of a home, and its place there. -/
theorem home_die {T : Tb} (h : TbShape T) {i : Int} (h0 : 0 ≤ i) : T.home i / T.b = i / T.prim ∧ 0 ≤ T.home i ∧ 0 ≤ i % T.prim ∧ i % T.prim < T.prim ∧ 0 ≤ i / T.prim := by
  obtain ⟨_, _, h3, h4, h5, h6, h7, h8, h9, _⟩ := h.nums
  have a := Int.emod_nonneg i (show T.prim ≠ 0 by omega)
  have b := Int.emod_lt_of_pos i (show 0 < T.prim by omega)
  have c := Int.ediv_nonneg h0 (show 0 ≤ T.prim by omega)
  refine ⟨?_, ?_, a, b, c⟩
  · unfold Tb.home
    rw [Int.add_comm, Int.add_mul_ediv_right _ _ (show T.b ≠ 0 by omega), Int.ediv_eq_zero_of_lt a (by omega), Int.zero_add]
  · unfold Tb.home
    have := Int.mul_nonneg c (show 0 ≤ T.b by omega)
    omega
theorem die_lt {T : Tb} (h : TbShape T) {i : Int} (h0 : 0 ≤ i) (hi : i < T.d * T.prim) : i / T.prim < T.d := by
  obtain ⟨_, _, h3, h4, h5, h6, h7, h8, h9, _⟩ := h.nums
  exact Int.ediv_lt_of_lt_mul (by omega) hi
theorem home_lt {T : Tb} (h : TbShape T) {i : Int} (h0 : 0 ≤ i) (hi : i < T.d * T.prim) : T.home i < T.d * T.b := by
  obtain ⟨h1, h2, h3, h4, h5, h6, h7, h8, h9, _⟩ := h.nums
  have a := die_lt h h0 hi
  have b := (home_die h h0).2.2.2.1
  unfold Tb.home
  have : (i / T.prim + 1) * T.b ≤ T.d * T.b := Int.mul_le_mul_of_nonneg_right (by omega) (by omega)
  rw [Int.add_mul, Int.one_mul] at this
  omega
/-- The home as the program reckons it: division that cuts toward zero. -/
theorem home_t {T : Tb} (h : TbShape T) {i : Int} (h0 : 0 ≤ i) : Int.tdiv i T.prim * T.b + Int.tmod i T.prim = T.home i := by
  unfold Tb.home
  rw [Int.tdiv_eq_ediv_of_nonneg h0, Int.tmod_eq_emod_of_nonneg h0]
end Go.Proofs.Ytgamoiagpglcmaa
/- Plain data: Cells. -/
namespace Go.Proofs.Ytgamoiagpglcmaa
open Go.RowKit
set_option linter.unusedVariables false
structure Ce where
  c : List Int
def Ce.zero : Ce := ⟨[]⟩
instance : Inhabited Ce := ⟨Ce.zero⟩
/-- It fits. -/
def CeSz (M : Ce) : Prop := M.c.length ≤ 1048576
theorem Ce.zero_sz : CeSz Ce.zero := by unfold CeSz Ce.zero; simp
end Go.Proofs.Ytgamoiagpglcmaa
