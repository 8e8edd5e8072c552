/- Slices of structs, told by what the cells of each element hold (f); a law over any program. k: how many cells an element has. -/
import Derived.Test.YtgkanacaijlljabTbM
namespace Go.Proofs.Ytgkanacaijlljab
open Go.RowKit
set_option linter.unusedVariables false
section
variable {α : Type} {f : α → List Value} {k : Nat}
/-- All elements' cells, one behind the other. -/
def fl (f : α → List Value) (L : List α) : List Value := L.flatMap f
theorem fl_cons (x : α) (L : List α) : fl f (x :: L) = f x ++ fl f L := rfl
theorem fl_app (L K : List α) : fl f (L ++ K) = fl f L ++ fl f K := by unfold fl; simp
theorem fl_one (x : α) : fl f [x] = f x := by unfold fl; simp
theorem fl_length (hk : ∀ x, (f x).length = k) : ∀ L : List α, (fl f L).length = L.length * k
  | [] => by simp [fl]
  | x :: L => by rw [fl_cons, List.length_append, fl_length hk L, hk, List.length_cons, Nat.add_mul, Nat.one_mul, Nat.add_comm]
theorem fl_at (hk : ∀ x, (f x).length = k) (z : α) : ∀ (L : List α) (i j : Nat), i < L.length → j < k → (fl f L)[i * k + j]? = (f (L.getD i z))[j]?
  | [], i, j, h, _ => by simp at h
  | x :: L, 0, j, h, hj => by
    rw [fl_cons, Nat.zero_mul, Nat.zero_add, List.getElem?_append_left (by rw [hk]; exact hj)]; rfl
  | x :: L, i + 1, j, h, hj => by
    rw [fl_cons, List.getElem?_append_right (by rw [hk, Nat.add_mul]; omega), hk, show (i + 1) * k + j - k = i * k + j by rw [Nat.add_mul]; omega]
    exact fl_at hk z L i j (by simpa using h) hj
theorem fl_set (hk : ∀ x, (f x).length = k) (z : α) (u : Value) (y : α) : ∀ (L : List α) (i j : Nat), i < L.length → j < k → f y = (f (L.getD i z)).set j u → (fl f L).set (i * k + j) u = fl f (L.set i y)
  | [], i, j, h, _, _ => by simp at h
  | x :: L, 0, j, h, hj, e => by
    rw [fl_cons, Nat.zero_mul, Nat.zero_add, List.set_append_left _ _ (by rw [hk]; exact hj), List.set_cons_zero, fl_cons, e]; rfl
  | x :: L, i + 1, j, h, hj, e => by
    rw [fl_cons, List.set_append_right _ _ (by rw [hk, Nat.add_mul]; omega), hk, show (i + 1) * k + j - k = i * k + j by rw [Nat.add_mul]; omega, List.set_cons_succ, fl_cons]
    rw [fl_set hk z u y L i j (by simpa using h) hj e]
/-- The value v is a slice, in the blocks below hi, that reads as the elements L. -/
def VI (k : Nat) (f : α → List Value) (w : World) (hi : Nat) (v : Value) (L : List α) : Prop :=
  ∃ A cap, v = .slice A L.length cap ∧ L.length ≤ cap ∧ cap ≤ 9223372036854775807 ∧ (0 < L.length → ∃ b off, A = some ⟨b, off, none⟩ ∧ b < hi ∧ ∀ i, i < L.length * k → w.cell? ⟨b, off + i, none⟩ = (fl f L)[i]?)
/-- .. of the call's own. -/
def VOwn (t : TypeId) (k : Nat) (f : α → List Value) (w : World) (B : Nat) (v : Value) (L : List α) : Prop := w.ownsRow B t k v L.length (fl f L)
def VO (t : TypeId) (k : Nat) (f : α → List Value) (w : World) (lo hi : Nat) (v : Value) (L : List α) : Prop := VOwn t k f w lo v L ∧ ∀ g, v.ownBlock = some g → g < hi
variable {w w' : World} {lo hi lo' hi' B : Nat} {v : Value} {L : List α} {t : TypeId}
theorem VI.below (h : VI k f w hi v L) (hb : Below B w w') (hB : hi ≤ B) : VI k f w' hi v L := by
  obtain ⟨A, cap, rfl, h1, h2, hc⟩ := h
  refine ⟨A, cap, rfl, h1, h2, fun h0 => ?_⟩
  obtain ⟨b, off, rfl, hbl, hx⟩ := hc h0
  exact ⟨b, off, rfl, hbl, fun i hi => (hb.cell (p := ⟨b, off + i, none⟩) (Nat.lt_of_lt_of_le hbl hB)).trans (hx i hi)⟩
theorem VI.wide (h : VI k f w hi v L) (hh : hi ≤ hi') : VI k f w hi' v L := by
  obtain ⟨A, cap, rfl, h1, h2, hc⟩ := h
  refine ⟨A, cap, rfl, h1, h2, fun h0 => ?_⟩
  obtain ⟨b, off, rfl, hbl, hx⟩ := hc h0
  exact ⟨b, off, rfl, by omega, hx⟩
theorem VI.same (h : VI k f w hi v L) (hs : Same 0 hi w w') : VI k f w' hi v L := by
  obtain ⟨A, cap, rfl, h1, h2, hc⟩ := h
  refine ⟨A, cap, rfl, h1, h2, fun h0 => ?_⟩
  obtain ⟨b, off, rfl, hbl, hx⟩ := hc h0
  exact ⟨b, off, rfl, hbl, fun i hi => (hs.cell (p := ⟨b, off + i, none⟩) (Nat.zero_le _) hbl).trans (hx i hi)⟩
theorem VI.slice (h : VI k f w hi v L) : ∃ A c, v = .slice A L.length c := by obtain ⟨A, c, e, _⟩ := h; exact ⟨A, c, e⟩
theorem VI.nil (w : World) (hi : Nat) : VI k f w hi (.slice none 0 0) [] := ⟨none, 0, rfl, Nat.le_refl _, by omega, fun h => by simp at h⟩
/-- The cells of element i. -/
theorem VI.elem {A : Option Addr} {n c : Nat} (hk : ∀ x, (f x).length = k) (z : α) (h : VI k f w hi (.slice A n c) L) : n = L.length ∧ n ≤ 9223372036854775807 ∧ (0 < n → ∃ b off, A = some ⟨b, off, none⟩ ∧ b < hi ∧ ∀ i, i < n → ∀ j, j < k → w.cell? ⟨b, off + (i * k + j), none⟩ = (f (L.getD i z))[j]?) := by
  obtain ⟨A', cap, e, h1, h2, hc⟩ := h
  injection e with e1 e2 e3
  subst e1 e2 e3
  refine ⟨rfl, by omega, fun h0 => ?_⟩
  obtain ⟨b, off, rfl, hb, hx⟩ := hc h0
  refine ⟨b, off, rfl, hb, fun i hi j hj => ?_⟩
  rw [hx (i * k + j) (by have := Nat.mul_le_mul_right k (show i + 1 ≤ L.length by omega); rw [Nat.add_mul] at this; omega), fl_at hk z L i j hi hj]
theorem VOwn.blockOf (h : VOwn t k f w lo v L) {g : Nat} (e : v.ownBlock = some g) : lo ≤ g ∧ g < w.heap.size := World.ownsRow.lt h g e
theorem VOwn.shape (h : VOwn t k f w B v L) : (v = .slice none 0 0 ∧ L = []) ∨ ∃ g cap, v = .slice (some ⟨g, 0, none⟩) L.length cap ∧ L.length ≤ cap ∧ cap ≤ 9223372036854775807 ∧ B ≤ g ∧ g < w.heap.size := by
  rcases h.2 with ⟨h1, h2⟩ | ⟨g, cap, cur, h1, h2, h3, h4, h5, _⟩
  · exact .inl ⟨h1, List.eq_nil_of_length_eq_zero h2⟩
  · have hlt := World.ownsRow.lt h g (by rw [h1]; rfl)
    exact .inr ⟨g, cap, h1, by omega, by unfold maxLen at h5; omega, hlt.1, hlt.2⟩
theorem VOwn.cell {g n cap : Nat} (h : VOwn t k f w B (.slice (some ⟨g, 0, none⟩) n cap) L) (hn : L.length = n) (hk : ∀ x, (f x).length = k) (z : α) {i j : Nat} (hi : i < n) (hj : j < k) : w.cell? ⟨g, i * k + j, none⟩ = (f (L.getD i z))[j]? := by
  subst hn
  rw [World.ownsRow.cellAt h (i * k + j) (by have := Nat.mul_le_mul_right k (show i + 1 ≤ L.length by omega); rw [Nat.add_mul] at this; omega), fl_at hk z L i j hi hj]
theorem VOwn.free {g n cap : Nat} (h : VOwn t k f w B (.slice (some ⟨g, 0, none⟩) n cap) L) (hn : L.length = n) (j : Nat) : w.frozen? ⟨g, j, none⟩ = false := by
  subst hn; exact World.ownsRow.frozenAt h j
/-- One cell of element i is stored: the element reads as y. -/
theorem VOwn.put {g n cap : Nat} (h : VOwn t k f w B (.slice (some ⟨g, 0, none⟩) n cap) L) (hn : L.length = n) (hk : ∀ x, (f x).length = k) (z : α) {i : Nat} (j : Nat) (u : Value) (y : α) (hi : i < n) (hj : j < k) (e : f y = (f (L.getD i z)).set j u) :
    VOwn t k f (w.setCell ⟨g, i * k + j, none⟩ u) B (.slice (some ⟨g, 0, none⟩) n cap) (L.set i y) := by
  subst hn
  have := (World.ownsRow.stored h (i * k + j) u).1
  rw [fl_set hk z u y L i j hi hj e] at this
  unfold VOwn
  rw [List.length_set]
  exact this
theorem VOwn.sames (h : VOwn t k f w lo v L) (hs : ∀ g, v.ownBlock = some g → w'.heap[g]? = w.heap[g]?) : VOwn t k f w' lo v L := by
  refine ⟨h.1, ?_⟩
  rcases h.2 with h2 | ⟨g, cap, cur, h1, h2, h3, h4⟩
  · exact .inl h2
  · exact .inr ⟨g, cap, cur, h1, h2, (hs g (by rw [h1]; rfl)).trans h3, h4⟩
theorem VOwn.later (h : VOwn t k f w B v L) {B' : Nat} (hb : Below B' w w') (hB : w.heap.size ≤ B') : VOwn t k f w' B v L := h.sames fun g e => hb.block g (by have := (h.blockOf e).2; omega)
theorem VOwn.kept {row : Option Nat} (h : VOwn t k f w B v L) (hg : w.grownBy w' row) (hne : v.ownBlock = none ∨ v.ownBlock ≠ row) : VOwn t k f w' B v L := World.ownsRow.kept h hg hne
theorem VOwn.low {B' : Nat} (h : VOwn t k f w B v L) (hB : B' ≤ B) : VOwn t k f w B' v L := by
  refine ⟨h.1, ?_⟩
  rcases h.2 with h2 | ⟨g, cap, cur, h1, h2, h3, h4, h5⟩
  · exact .inl h2
  · exact .inr ⟨g, cap, cur, h1, by omega, h3, h4, h5⟩
theorem VOwn.sliceOf (h : VOwn t k f w B v L) : ∃ A n c, v = .slice A n c := by
  rcases h.shape with ⟨rfl, _⟩ | ⟨g, cap, rfl, _⟩ <;> exact ⟨_, _, _, rfl⟩
theorem VOwn.reads (h : VOwn t k f w lo v L) : VI k f w w.heap.size v L := by
  rcases h.shape with ⟨rfl, rfl⟩ | ⟨g, cap, rfl, h3, h4, h5, h6⟩
  · exact VI.nil _ _
  · exact ⟨_, cap, rfl, h3, h4, fun _ => ⟨g, 0, rfl, h6, fun i hi => by rw [Nat.zero_add]; exact World.ownsRow.cellAt h i hi⟩⟩
theorem VO.mk_ (h : VOwn t k f w lo v L) : VO t k f w lo w.heap.size v L := ⟨h, fun g e => (h.blockOf e).2⟩
theorem VO.same (h : VO t k f w lo hi v L) (hs : Same lo hi w w') : VO t k f w' lo hi v L := ⟨h.1.sames fun g e => hs g (h.1.blockOf e).1 (h.2 g e), h.2⟩
theorem VO.below (h : VO t k f w lo hi v L) (hb : Below B w w') (hB : hi ≤ B) : VO t k f w' lo hi v L := h.same (sm hb lo hB)
theorem VO.wide (h : VO t k f w lo hi v L) (hl : lo' ≤ lo) (hh : hi ≤ hi') : VO t k f w lo' hi' v L := ⟨h.1.low hl, fun g e => by have := h.2 g e; omega⟩
theorem VO.reads (h : VO t k f w lo hi v L) : VI k f w hi v L := by
  obtain ⟨A, cap, rfl, h1, h2, hc⟩ := h.1.reads
  refine ⟨A, cap, rfl, h1, h2, fun h0 => ?_⟩
  obtain ⟨b, off, rfl, hbl, hx⟩ := hc h0
  exact ⟨b, off, rfl, h.2 b rfl, hx⟩
theorem VO.nil (w : World) (lo hi : Nat) : VO t k f w lo hi (.slice none 0 0) [] := ⟨World.ownsRow_nil w lo _ _, fun g e => by cases e⟩
theorem VO.sliceOf (h : VO t k f w lo hi v L) : ∃ A n c, v = .slice A n c := h.1.sliceOf
theorem VOwn.made (w : World) {B : Nat} (h : B ≤ w.heap.size) : VOwn t k f (w.alloc (.cells #[] t)) B (.slice (some ⟨w.heap.size, 0, none⟩) 0 0) ([] : List α) :=
  World.ownsRow_made w #[] 0 h (by unfold maxLen; omega) (by simp)
end
theorem fl_replicate {α : Type} {f : α → List Value} {k n : Nat} (z : α) (hk : ∀ x, (f x).length = k) : (madeCells (f z).toArray (n * k)).toList = fl f (List.replicate n z) := by
  apply List.ext_getElem?
  intro i
  by_cases hi : i < n * k
  · have hk0 : 0 < k := by rcases Nat.eq_zero_or_pos k with e | e; · subst e; simp at hi
                           · exact e
    have h1 := Nat.div_lt_of_lt_mul (show i < k * n by rw [Nat.mul_comm]; exact hi)
    have h2 := Nat.mod_lt i hk0
    have e := fl_at (f := f) hk z (List.replicate n z) (i / k) (i % k) (by simpa using h1) h2
    rw [show i / k * k + i % k = i by rw [Nat.mul_comm]; exact Nat.div_add_mod i k] at e
    rw [e, show (List.replicate n z).getD (i / k) z = z by simp [List.getD_eq_getElem?_getD, h1]]
    have hm : i % k < (f z).length := by rw [hk]; exact h2
    rw [List.getElem?_eq_getElem hm]
    simp only [madeCells, Array.toList_map, Array.toList_range, List.getElem?_map, List.getElem?_range hi, Option.map_some, List.size_toArray, hk]
    congr 1
    rw [getElem!_pos (f z).toArray (i % k) (by simpa using hm)]
    simp
  · rw [List.getElem?_eq_none (by simp [madeCells]; omega), List.getElem?_eq_none (by rw [fl_length hk]; simp; omega)]
end Go.Proofs.Ytgkanacaijlljab
