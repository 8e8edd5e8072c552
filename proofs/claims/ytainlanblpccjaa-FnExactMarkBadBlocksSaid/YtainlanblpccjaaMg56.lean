/- The proof's own lemmas, part 57: FlC. -/
import Derived.Test.YtainlanblpccjaaProg
import Derived.Test.YtainlanblpccjaaMg52
import Derived.Test.YtainlanblpccjaaMg4
import Derived.Maps.AppendAt
import Derived.Deep.DeepAppendRoom
import Derived.Deep.DeepMust
/- Copies of arrays with memory of their own, in the model and in the program: the contracts. -/
namespace Go.Proofs.Ytainlanblpccjaa
open Go.RowKit
set_option linter.unusedVariables false
/-- The cells of a row of blocks. -/
def bkCells (x : Blk) (u : Value) : List Value := [.int .i64 x.er, .int .i64 x.nx, .bool x.bad, u]
def rowC (L : List Blk) (pv : Nat → Value) : List Value := (List.range L.length).flatMap fun i => bkCells (L.getD i Blk.zero) (pv i)
theorem rowC_at (L : List Blk) (pv : Nat → Value) {i c : Nat} (hi : i < L.length) (hc : c < 4) : (rowC L pv)[i * 4 + c]? = (bkCells (L.getD i Blk.zero) (pv i))[c]? := by
  have key : ∀ n, n ≤ L.length → i < n → ((List.range n).flatMap fun i => bkCells (L.getD i Blk.zero) (pv i))[i * 4 + c]? = (bkCells (L.getD i Blk.zero) (pv i))[c]? := by
    intro n hn hin
    induction n with
    | zero => omega
    | succ n ih =>
      have hl : ∀ m, ((List.range m).flatMap fun i => bkCells (L.getD i Blk.zero) (pv i)).length = m * 4 := by
        intro m
        induction m with
        | zero => rfl
        | succ m ihm => rw [List.range_succ, List.flatMap_append, List.length_append, ihm]; simp [bkCells]; omega
      rw [List.range_succ, List.flatMap_append]
      by_cases e : i < n
      · rw [List.getElem?_append_left (by rw [hl]; omega)]
        exact ih (by omega) e
      · obtain rfl : i = n := by omega
        rw [List.getElem?_append_right (by rw [hl]; omega), hl]
        simp
  exact key _ (Nat.le_refl _) hi
theorem rowC_length (L : List Blk) (pv : Nat → Value) : (rowC L pv).length = L.length * 4 := by
  unfold rowC
  generalize L.length = m
  induction m with
  | zero => rfl
  | succ m ihm => rw [List.range_succ, List.flatMap_append, List.length_append, ihm]; simp [bkCells]; omega
theorem rowC_push (L : List Blk) (pv : Nat → Value) (x : Blk) (u : Value) : rowC (L ++ [x]) (fun i => if i = L.length then u else pv i) = rowC L pv ++ bkCells x u := by
  unfold rowC
  rw [List.length_append, List.length_singleton, List.range_succ, List.flatMap_append]
  congr 1
  · rw [List.flatMap_def, List.flatMap_def]
    congr 1
    apply List.map_congr_left
    intro i hi
    have hi' := List.mem_range.1 hi
    show bkCells ((L ++ [x]).getD i Blk.zero) (if i = L.length then u else pv i) = _
    rw [if_neg (show ¬ i = L.length by omega)]
    congr 1
    rw [List.getD_eq_getElem?_getD, List.getD_eq_getElem?_getD, List.getElem?_append_left hi']
  · simp [bkCells]
/-- What a copy under way holds: the blocks L in an own row, their pages beside it. -/
structure Grow (w : World) (B : Nat) (v : Value) (L : List Blk) (pv : Nat → Value) : Prop where
  own : w.ownsRow B 147 4 v L.length (rowC L pv)
  pgs : ∀ i, i < L.length → PgOwn w B w.heap.size w.heap.size (pv i) (L.getD i Blk.zero).pg
  far : ∀ i, i < L.length → ∀ k, v.ownBlock = some k → ∀ a n c, pv i = .slice (some a) n c → 0 < n → a.block ≠ k
  apart : ∀ i j, i < L.length → j < L.length → i ≠ j → Apart (pv i) (pv j)
theorem PgOwn.keep {w w' : World} {lo hi g : Nat} {v : Value} {L : List ByteArray} (h : PgOwn w lo hi g v L) (hs : ∀ a n c, v = .slice (some a) n c → 0 < n → w'.heap[a.block]? = w.heap[a.block]?) : PgOwn w' lo hi g v L := by
  obtain ⟨A, len, cap, e, h1, h2, h3, h4, hc⟩ := h
  refine ⟨A, len, cap, e, h1, h2, h3, h4, fun h0 => ?_⟩
  obtain ⟨b, off, rfl, h1, h2, h3, hf, hx⟩ := hc h0
  have hb := hs _ _ _ e h0
  exact ⟨b, off, rfl, h1, h2, h3, fun k => (World.frozen?_of_block (w := w) (a := ⟨b, k, none⟩) hb).trans (hf k), fun i hi => (World.cell?_of_block (w := w) (a := ⟨b, off + i, none⟩) hb).trans (hx i hi)⟩
theorem PgOwn.blk {w : World} {lo hi g : Nat} {v : Value} {L : List ByteArray} (h : PgOwn w lo hi g v L) {a : Addr} {n c : Nat} (e : v = .slice (some a) n c) (h0 : 0 < n) : lo ≤ a.block ∧ a.block < hi ∧ a.block ≠ g := by
  obtain ⟨A, len, cap, e', h1, h2, h3, h4, hc⟩ := h
  rw [e] at e'
  injection e' with e1 e2 e3
  subst e1 e2
  obtain ⟨b, off, e4, h5, h6, h7, _⟩ := hc h0
  injection e4 with e4
  subst e4
  exact ⟨h5, h6, h7⟩
theorem PgOwn.beside {w : World} {lo hi g g' : Nat} {v : Value} {L : List ByteArray} (h : PgOwn w lo hi g v L) (hne : ∀ a n c, v = .slice (some a) n c → 0 < n → a.block ≠ g') : PgOwn w lo hi g' v L := by
  obtain ⟨A, len, cap, e, h1, h2, h3, h4, hc⟩ := h
  refine ⟨A, len, cap, e, h1, h2, h3, h4, fun h0 => ?_⟩
  obtain ⟨b, off, rfl, h1, h2, h3, hf, hx⟩ := hc h0
  exact ⟨b, off, rfl, h1, h2, hne _ _ _ e h0, hf, hx⟩
section
variable {w w1 w2 : World} {B : Nat} {v v' : Value} {L : List Blk} {pv : Nat → Value}
theorem Grow.start (w : World) {B : Nat} (h : B ≤ w.heap.size) (pv : Nat → Value) : Grow (w.alloc (.cells #[] 147)) B (.slice (some ⟨w.heap.size, 0, none⟩) 0 0) [] pv :=
  ⟨World.ownsRow_made w #[] 0 h (by unfold maxLen; omega) rfl, fun i hi => by simp at hi, fun i hi => by simp at hi, fun i j hi => by simp at hi⟩
theorem Grow.nil (w : World) (B : Nat) (pv : Nat → Value) : Grow w B (.slice none 0 0) [] pv :=
  ⟨World.ownsRow_nil w B _ 4, fun i hi => by simp at hi, fun i hi => by simp at hi, fun i j hi => by simp at hi⟩
theorem Grow.rowLt (h : Grow w B v L pv) {k : Nat} (e : v.ownBlock = some k) : B ≤ k ∧ k < w.heap.size := World.ownsRow.lt h.own k e
theorem Grow.later (h : Grow w B v L pv) (hb : Below w.heap.size w w1) : Grow w1 B v L pv := by
  refine ⟨?_, fun i hi => ?_, h.far, h.apart⟩
  · refine ⟨h.own.1, ?_⟩
    rcases h.own.2 with h2 | ⟨g, cap, cur, e1, e2, e3, e4⟩
    · exact .inl h2
    · have hg := (h.rowLt (k := g) (by rw [e1]; rfl)).2
      exact .inr ⟨g, cap, cur, e1, e2, (hb.block g hg).trans e3, e4⟩
  · have := h.pgs i hi
    exact ((this.same (sm hb B (Nat.le_refl _))).wide (Nat.le_refl _) hb.size).beside fun a n c e h0 => by have := this.blk e h0; have := hb.size; omega
theorem Grow.push (h : Grow w B v L pv) (hb : Below w.heap.size w w1) {x : Blk} {u : Value} (hu : PgOwn w1 w.heap.size w1.heap.size w1.heap.size u x.pg)
    (own : w2.ownsRow B 147 4 v' (L.length + 1) (rowC L pv ++ bkCells x u)) (gr : w1.grownBy w2 v.ownBlock) (hat : v'.ownBlock = v.ownBlock ∨ v'.ownBlock = some w1.heap.size) (hB : B ≤ w.heap.size) :
    Grow w2 B v' (L ++ [x]) (fun i => if i = L.length then u else pv i) := by
  have h1 := h.later hb
  have hrow : ∀ k, v.ownBlock = some k → k < w.heap.size := fun k e => (h.rowLt e).2
  have hsz := hb.size
  have hsz2 := gr.size
  have gl : ∀ i, i < L.length → (L ++ [x]).getD i Blk.zero = L.getD i Blk.zero := fun i hi => by rw [List.getD_eq_getElem?_getD, List.getD_eq_getElem?_getD, List.getElem?_append_left hi]
  have gx : (L ++ [x]).getD L.length Blk.zero = x := by simp [List.getD_eq_getElem?_getD]
  have old : ∀ i, i < L.length → PgOwn w2 B w2.heap.size w2.heap.size (pv i) (L.getD i Blk.zero).pg := fun i hi => by
    have p := h1.pgs i hi
    refine ((p.keep fun a n c e h0 => ?_).wide (Nat.le_refl _) hsz2).beside fun a n c e h0 => by have := p.blk e h0; omega
    have q := p.blk e h0
    refine gr.block _ q.2.1 fun e2 => ?_
    exact h1.far i hi a.block e2.symm a n c e h0 rfl
  have new : PgOwn w2 B w2.heap.size w2.heap.size u x.pg := by
    refine ((hu.keep fun a n c e h0 => ?_).wide hB hsz2).beside fun a n c e h0 => by have := hu.blk e h0; omega
    have q := hu.blk e h0
    refine gr.block _ q.2.1 fun e2 => ?_
    have := hrow a.block e2.symm
    omega
  refine ⟨?_, fun i hi => ?_, fun i hi k ek a n c e h0 => ?_, fun i j hi hj hne => ?_⟩
  · rw [List.length_append, List.length_singleton, rowC_push]; exact own
  · rw [List.length_append, List.length_singleton] at hi
    by_cases e : i = L.length
    · subst e; rw [gx]; simp only [if_true]; exact new
    · rw [gl i (by omega)]; simp only [if_neg e]; exact old i (by omega)
  · rw [List.length_append, List.length_singleton] at hi
    by_cases e' : i = L.length
    · rw [if_pos e'] at e
      have q := hu.blk e h0
      rcases hat with e2 | e2
      · rw [e2] at ek; have := hrow k ek; omega
      · rw [e2] at ek; injection ek with ek; omega
    · rw [if_neg e'] at e
      have q := (h1.pgs i (by omega)).blk e h0
      rcases hat with e2 | e2
      · rw [e2] at ek; exact h1.far i (by omega) k ek a n c e h0
      · rw [e2] at ek; injection ek with ek; omega
  · rw [List.length_append, List.length_singleton] at hi hj
    have ap : ∀ i, i < L.length → Apart (pv i) u := fun i hi => by
      have p : PgOwn w1 B w.heap.size w.heap.size (pv i) (L.getD i Blk.zero).pg := (h.pgs i hi).same (sm hb B (Nat.le_refl _))
      exact p.apart hu
    by_cases e : i = L.length
    · by_cases e2 : j = L.length
      · omega
      · simp only [if_pos e, if_neg e2]; exact (ap j (by omega)).symm
    · by_cases e2 : j = L.length
      · simp only [if_neg e, if_pos e2]; exact ap i (by omega)
      · simp only [if_neg e, if_neg e2]; exact h.apart i j (by omega) (by omega) hne
theorem Grow.owns (h : Grow w B v L pv) : BksOwn w B w.heap.size v L := by
  rcases h.own.2 with ⟨e, hn⟩ | ⟨g, cap, cur, e, hg, hc, h1, h2, _⟩
  · have : L = [] := List.eq_nil_of_length_eq_zero hn
    subst this
    exact ⟨_, _, _, e, Nat.le_refl _, by omega, rfl, fun h => by simp at h⟩
  · subst e
    have hlt := h.rowLt (k := g) rfl
    refine ⟨_, _, _, rfl, h1, by unfold maxLen at h2; omega, rfl, fun _ => ⟨g, pv, rfl, hlt.1, hlt.2, World.ownsRow.frozenAt h.own, fun i hi => ?_, fun i hi => ?_, h.apart⟩⟩
    · have q : ∀ c, c < 4 → w.cell? ⟨g, i * 4 + c, none⟩ = (bkCells (L.getD i Blk.zero) (pv i))[c]? := fun c hc => by
        rw [World.ownsRow.cellAt h.own _ (by omega), rowC_at L pv hi hc]
      exact ⟨q 0 (by omega), q 1 (by omega), q 2 (by omega), q 3 (by omega)⟩
    · exact (h.pgs i hi).beside fun a n c e h0 => h.far i hi g rfl a n c e h0
theorem Grow.same (h : Grow w B v L pv) (hs : ∀ j, B ≤ j → j < w.heap.size → w1.heap[j]? = w.heap[j]?) (hsz : w.heap.size ≤ w1.heap.size) : Grow w1 B v L pv := by
  refine ⟨?_, fun i hi => ?_, h.far, h.apart⟩
  · refine ⟨h.own.1, ?_⟩
    rcases h.own.2 with h2 | ⟨g, cap, cur, e1, e2, e3, e4⟩
    · exact .inl h2
    · have hg := h.rowLt (k := g) (by rw [e1]; rfl)
      exact .inr ⟨g, cap, cur, e1, e2, (hs g hg.1 hg.2).trans e3, e4⟩
  · have := h.pgs i hi
    exact ((this.same (fun j a b => hs j a b)).wide (Nat.le_refl _) hsz).beside fun a n c e h0 => by have := this.blk e h0; omega
theorem owns_slice {e : TypeId} {s n : Nat} {xs : List Value} (h : w.ownsRow B e s v n xs) : ∃ A c, v = .slice A n c := by
  rcases h.2 with ⟨rfl, rfl⟩ | ⟨g, cap, cur, e1, _⟩
  · exact ⟨_, _, rfl⟩
  · exact ⟨_, _, e1⟩
theorem StrsOwn.fresh (w : World) {B : Nat} (h : B ≤ w.heap.size) : StrsOwn (w.alloc (.cells #[] 9)) B (.slice (some ⟨w.heap.size, 0, none⟩) 0 0) [] :=
  World.ownsRow_made w #[] 0 h (by unfold maxLen; omega) rfl
theorem StrsOwn.someOf {v : Value} {L : List ByteArray} {n : Nat} (h : StrsOwn w B v ([] ++ L)) (hn : L.length = n) (h0 : 0 < n) : ∃ g cap, v = .slice (some ⟨g, 0, none⟩) n cap ∧ n ≤ cap ∧ cap ≤ 9223372036854775807 ∧ B ≤ g ∧ g < w.heap.size ∧ StrsOwn w B (.slice (some ⟨g, 0, none⟩) n cap) L := by
  rw [List.nil_append] at h
  rcases h.shape with ⟨_, rfl⟩ | ⟨g, cap, rfl, h1, h2, h3, h4⟩
  · simp at hn; omega
  · subst hn
    exact ⟨g, cap, rfl, h1, h2, h3, h4, h⟩
theorem StrsOwn.pagesOf {L : List ByteArray} {g n cap k : Nat} (h : StrsOwn w B (.slice (some ⟨g, 0, none⟩) n cap) L) (hn : L.length = n) (h1 : n ≤ cap) (h2 : cap ≤ 9223372036854775807) (hg : B ≤ g) (hgl : g < w.heap.size) (hk : k < B) (hL : ∀ i, i < L.length → (L.getD i ByteArray.empty).size ≤ 9223372036854775807) : PgOwn w B w.heap.size k (.slice (some ⟨g, 0, none⟩) n cap) L :=
  ⟨_, _, _, rfl, h1, h2, hn, fun i hi => hL i (by omega), fun _ => ⟨g, 0, rfl, hg, hgl, by omega, h.free hn, fun i hi => by rw [Nat.zero_add]; exact h.cell hn hi⟩⟩
end
end Go.Proofs.Ytainlanblpccjaa
