/- The proof's own lemmas, part 18: FlC FlD. -/
import Derived.Test.YthenilomgbnpeaaGreatDoorProg
import Derived.Test.YthenilomgbnpeaaGreatDoorMg16
import Derived.Test.YthenilomgbnpeaaGreatDoorMg13
import Derived.Maps.AppendAt
import Derived.Deep.DeepAppendRoom
import Derived.Deep.DeepMust
/- Copies of arrays with memory of their own, in the model and in the program: the contracts. -/
namespace Go.Proofs.YthenilomgbnpeaaGreatDoor
open Go.RowKit
set_option linter.unusedVariables false
/-- The cells of a row of blocks. -/
def bkCells (x : Blk) (u : Value) : List Value := [.int .i64 x.er, .int .i64 x.nx, .bool x.bad, u]
def rowC (L : List Blk) (pv : Nat → Value) : List Value := (List.range L.length).flatMap fun i => bkCells (L.getD i Blk.zero) (pv i)
theorem rowC_at (L : List Blk) (pv : Nat → Value) {i c : Nat} (hi : i < L.length) (hc : c < 4) : (rowC L pv)[i * 4 + c]? = (bkCells (L.getD i Blk.zero) (pv i))[c]? := by
  have key : ∀ n, n ≤ L.length → i < n → ((List.range n).flatMap fun i => bkCells (L.getD i Blk.zero) (pv i))[i * 4 + c]? = (bkCells (L.getD i Blk.zero) (pv i))[c]? := by
    intro n hn hin
    induction n with
    | zero => omega
    | succ n ih =>
      have hl : ∀ m, ((List.range m).flatMap fun i => bkCells (L.getD i Blk.zero) (pv i)).length = m * 4 := by
        intro m
        induction m with
        | zero => rfl
        | succ m ihm => rw [List.range_succ, List.flatMap_append, List.length_append, ihm]; simp [bkCells]; omega
      rw [List.range_succ, List.flatMap_append]
      by_cases e : i < n
      · rw [List.getElem?_append_left (by rw [hl]; omega)]
        exact ih (by omega) e
      · obtain rfl : i = n := by omega
        rw [List.getElem?_append_right (by rw [hl]; omega), hl]
        simp
  exact key _ (Nat.le_refl _) hi
theorem rowC_length (L : List Blk) (pv : Nat → Value) : (rowC L pv).length = L.length * 4 := by
  unfold rowC
  generalize L.length = m
  induction m with
  | zero => rfl
  | succ m ihm => rw [List.range_succ, List.flatMap_append, List.length_append, ihm]; simp [bkCells]; omega
theorem rowC_push (L : List Blk) (pv : Nat → Value) (x : Blk) (u : Value) : rowC (L ++ [x]) (fun i => if i = L.length then u else pv i) = rowC L pv ++ bkCells x u := by
  unfold rowC
  rw [List.length_append, List.length_singleton, List.range_succ, List.flatMap_append]
  congr 1
  · rw [List.flatMap_def, List.flatMap_def]
    congr 1
    apply List.map_congr_left
    intro i hi
    have hi' := List.mem_range.1 hi
    show bkCells ((L ++ [x]).getD i Blk.zero) (if i = L.length then u else pv i) = _
    rw [if_neg (show ¬ i = L.length by omega)]
    congr 1
    rw [List.getD_eq_getElem?_getD, List.getD_eq_getElem?_getD, List.getElem?_append_left hi']
  · simp [bkCells]
/-- What a copy under way holds: the blocks L in an own row, their pages beside it. -/
structure Grow (w : World) (B : Nat) (v : Value) (L : List Blk) (pv : Nat → Value) : Prop where
  own : w.ownsRow B 51 4 v L.length (rowC L pv)
  pgs : ∀ i, i < L.length → PgOwn w B w.heap.size w.heap.size (pv i) (L.getD i Blk.zero).pg
  far : ∀ i, i < L.length → ∀ k, v.ownBlock = some k → ∀ a n c, pv i = .slice (some a) n c → 0 < n → a.block ≠ k
  apart : ∀ i j, i < L.length → j < L.length → i ≠ j → Apart (pv i) (pv j)
theorem PgOwn.keep {w w' : World} {lo hi g : Nat} {v : Value} {L : List ByteArray} (h : PgOwn w lo hi g v L) (hs : ∀ a n c, v = .slice (some a) n c → 0 < n → w'.heap[a.block]? = w.heap[a.block]?) : PgOwn w' lo hi g v L := by
  obtain ⟨A, len, cap, e, h1, h2, h3, h4, hc⟩ := h
  refine ⟨A, len, cap, e, h1, h2, h3, h4, fun h0 => ?_⟩
  obtain ⟨b, off, rfl, h1, h2, h3, hf, hx⟩ := hc h0
  have hb := hs _ _ _ e h0
  exact ⟨b, off, rfl, h1, h2, h3, fun k => (World.frozen?_of_block (w := w) (a := ⟨b, k, none⟩) hb).trans (hf k), fun i hi => (World.cell?_of_block (w := w) (a := ⟨b, off + i, none⟩) hb).trans (hx i hi)⟩
theorem PgOwn.blk {w : World} {lo hi g : Nat} {v : Value} {L : List ByteArray} (h : PgOwn w lo hi g v L) {a : Addr} {n c : Nat} (e : v = .slice (some a) n c) (h0 : 0 < n) : lo ≤ a.block ∧ a.block < hi ∧ a.block ≠ g := by
  obtain ⟨A, len, cap, e', h1, h2, h3, h4, hc⟩ := h
  rw [e] at e'
  injection e' with e1 e2 e3
  subst e1 e2
  obtain ⟨b, off, e4, h5, h6, h7, _⟩ := hc h0
  injection e4 with e4
  subst e4
  exact ⟨h5, h6, h7⟩
theorem PgOwn.beside {w : World} {lo hi g g' : Nat} {v : Value} {L : List ByteArray} (h : PgOwn w lo hi g v L) (hne : ∀ a n c, v = .slice (some a) n c → 0 < n → a.block ≠ g') : PgOwn w lo hi g' v L := by
  obtain ⟨A, len, cap, e, h1, h2, h3, h4, hc⟩ := h
  refine ⟨A, len, cap, e, h1, h2, h3, h4, fun h0 => ?_⟩
  obtain ⟨b, off, rfl, h1, h2, h3, hf, hx⟩ := hc h0
  exact ⟨b, off, rfl, h1, h2, hne _ _ _ e h0, hf, hx⟩
section
variable {w w1 w2 : World} {B : Nat} {v v' : Value} {L : List Blk} {pv : Nat → Value}
theorem Grow.start (w : World) {B : Nat} (h : B ≤ w.heap.size) (pv : Nat → Value) : Grow (w.alloc (.cells #[] 51)) B (.slice (some ⟨w.heap.size, 0, none⟩) 0 0) [] pv :=
  ⟨World.ownsRow_made w #[] 0 h (by unfold maxLen; omega) rfl, fun i hi => by simp at hi, fun i hi => by simp at hi, fun i j hi => by simp at hi⟩
theorem Grow.nil (w : World) (B : Nat) (pv : Nat → Value) : Grow w B (.slice none 0 0) [] pv :=
  ⟨World.ownsRow_nil w B _ 4, fun i hi => by simp at hi, fun i hi => by simp at hi, fun i j hi => by simp at hi⟩
theorem Grow.rowLt (h : Grow w B v L pv) {k : Nat} (e : v.ownBlock = some k) : B ≤ k ∧ k < w.heap.size := World.ownsRow.lt h.own k e
theorem Grow.later (h : Grow w B v L pv) (hb : Below w.heap.size w w1) : Grow w1 B v L pv := by
  refine ⟨?_, fun i hi => ?_, h.far, h.apart⟩
  · refine ⟨h.own.1, ?_⟩
    rcases h.own.2 with h2 | ⟨g, cap, cur, e1, e2, e3, e4⟩
    · exact .inl h2
    · have hg := (h.rowLt (k := g) (by rw [e1]; rfl)).2
      exact .inr ⟨g, cap, cur, e1, e2, (hb.block g hg).trans e3, e4⟩
  · have := h.pgs i hi
    exact ((this.same (sm hb B (Nat.le_refl _))).wide (Nat.le_refl _) hb.size).beside fun a n c e h0 => by have := this.blk e h0; have := hb.size; omega
theorem Grow.push (h : Grow w B v L pv) (hb : Below w.heap.size w w1) {x : Blk} {u : Value} (hu : PgOwn w1 w.heap.size w1.heap.size w1.heap.size u x.pg)
    (own : w2.ownsRow B 51 4 v' (L.length + 1) (rowC L pv ++ bkCells x u)) (gr : w1.grownBy w2 v.ownBlock) (hat : v'.ownBlock = v.ownBlock ∨ v'.ownBlock = some w1.heap.size) (hB : B ≤ w.heap.size) :
    Grow w2 B v' (L ++ [x]) (fun i => if i = L.length then u else pv i) := by
  have h1 := h.later hb
  have hrow : ∀ k, v.ownBlock = some k → k < w.heap.size := fun k e => (h.rowLt e).2
  have hsz := hb.size
  have hsz2 := gr.size
  have gl : ∀ i, i < L.length → (L ++ [x]).getD i Blk.zero = L.getD i Blk.zero := fun i hi => by rw [List.getD_eq_getElem?_getD, List.getD_eq_getElem?_getD, List.getElem?_append_left hi]
  have gx : (L ++ [x]).getD L.length Blk.zero = x := by simp [List.getD_eq_getElem?_getD]
  have old : ∀ i, i < L.length → PgOwn w2 B w2.heap.size w2.heap.size (pv i) (L.getD i Blk.zero).pg := fun i hi => by
    have p := h1.pgs i hi
    refine ((p.keep fun a n c e h0 => ?_).wide (Nat.le_refl _) hsz2).beside fun a n c e h0 => by have := p.blk e h0; omega
    have q := p.blk e h0
    refine gr.block _ q.2.1 fun e2 => ?_
    exact h1.far i hi a.block e2.symm a n c e h0 rfl
  have new : PgOwn w2 B w2.heap.size w2.heap.size u x.pg := by
    refine ((hu.keep fun a n c e h0 => ?_).wide hB hsz2).beside fun a n c e h0 => by have := hu.blk e h0; omega
    have q := hu.blk e h0
    refine gr.block _ q.2.1 fun e2 => ?_
    have := hrow a.block e2.symm
    omega
  refine ⟨?_, fun i hi => ?_, fun i hi k ek a n c e h0 => ?_, fun i j hi hj hne => ?_⟩
  · rw [List.length_append, List.length_singleton, rowC_push]; exact own
  · rw [List.length_append, List.length_singleton] at hi
    by_cases e : i = L.length
    · subst e; rw [gx]; simp only [if_true]; exact new
    · rw [gl i (by omega)]; simp only [if_neg e]; exact old i (by omega)
  · rw [List.length_append, List.length_singleton] at hi
    by_cases e' : i = L.length
    · rw [if_pos e'] at e
      have q := hu.blk e h0
      rcases hat with e2 | e2
      · rw [e2] at ek; have := hrow k ek; omega
      · rw [e2] at ek; injection ek with ek; omega
    · rw [if_neg e'] at e
      have q := (h1.pgs i (by omega)).blk e h0
      rcases hat with e2 | e2
      · rw [e2] at ek; exact h1.far i (by omega) k ek a n c e h0
      · rw [e2] at ek; injection ek with ek; omega
  · rw [List.length_append, List.length_singleton] at hi hj
    have ap : ∀ i, i < L.length → Apart (pv i) u := fun i hi => by
      have p : PgOwn w1 B w.heap.size w.heap.size (pv i) (L.getD i Blk.zero).pg := (h.pgs i hi).same (sm hb B (Nat.le_refl _))
      exact p.apart hu
    by_cases e : i = L.length
    · by_cases e2 : j = L.length
      · omega
      · simp only [if_pos e, if_neg e2]; exact (ap j (by omega)).symm
    · by_cases e2 : j = L.length
      · simp only [if_neg e, if_pos e2]; exact ap i (by omega)
      · simp only [if_neg e, if_neg e2]; exact h.apart i j (by omega) (by omega) hne
theorem Grow.owns (h : Grow w B v L pv) : BksOwn w B w.heap.size v L := by
  rcases h.own.2 with ⟨e, hn⟩ | ⟨g, cap, cur, e, hg, hc, h1, h2, _⟩
  · have : L = [] := List.eq_nil_of_length_eq_zero hn
    subst this
    exact ⟨_, _, _, e, Nat.le_refl _, by omega, rfl, fun h => by simp at h⟩
  · subst e
    have hlt := h.rowLt (k := g) rfl
    refine ⟨_, _, _, rfl, h1, by unfold maxLen at h2; omega, rfl, fun _ => ⟨g, pv, rfl, hlt.1, hlt.2, World.ownsRow.frozenAt h.own, fun i hi => ?_, fun i hi => ?_, h.apart⟩⟩
    · have q : ∀ c, c < 4 → w.cell? ⟨g, i * 4 + c, none⟩ = (bkCells (L.getD i Blk.zero) (pv i))[c]? := fun c hc => by
        rw [World.ownsRow.cellAt h.own _ (by omega), rowC_at L pv hi hc]
      exact ⟨q 0 (by omega), q 1 (by omega), q 2 (by omega), q 3 (by omega)⟩
    · exact (h.pgs i hi).beside fun a n c e h0 => h.far i hi g rfl a n c e h0
theorem Grow.same (h : Grow w B v L pv) (hs : ∀ j, B ≤ j → j < w.heap.size → w1.heap[j]? = w.heap[j]?) (hsz : w.heap.size ≤ w1.heap.size) : Grow w1 B v L pv := by
  refine ⟨?_, fun i hi => ?_, h.far, h.apart⟩
  · refine ⟨h.own.1, ?_⟩
    rcases h.own.2 with h2 | ⟨g, cap, cur, e1, e2, e3, e4⟩
    · exact .inl h2
    · have hg := h.rowLt (k := g) (by rw [e1]; rfl)
      exact .inr ⟨g, cap, cur, e1, e2, (hs g hg.1 hg.2).trans e3, e4⟩
  · have := h.pgs i hi
    exact ((this.same (fun j a b => hs j a b)).wide (Nat.le_refl _) hsz).beside fun a n c e h0 => by have := this.blk e h0; omega
theorem owns_slice {e : TypeId} {s n : Nat} {xs : List Value} (h : w.ownsRow B e s v n xs) : ∃ A c, v = .slice A n c := by
  rcases h.2 with ⟨rfl, rfl⟩ | ⟨g, cap, cur, e1, _⟩
  · exact ⟨_, _, rfl⟩
  · exact ⟨_, _, e1⟩
theorem StrsOwn.fresh (w : World) {B : Nat} (h : B ≤ w.heap.size) : StrsOwn (w.alloc (.cells #[] 9)) B (.slice (some ⟨w.heap.size, 0, none⟩) 0 0) [] :=
  World.ownsRow_made w #[] 0 h (by unfold maxLen; omega) rfl
theorem StrsOwn.someOf {v : Value} {L : List ByteArray} {n : Nat} (h : StrsOwn w B v ([] ++ L)) (hn : L.length = n) (h0 : 0 < n) : ∃ g cap, v = .slice (some ⟨g, 0, none⟩) n cap ∧ n ≤ cap ∧ cap ≤ 9223372036854775807 ∧ B ≤ g ∧ g < w.heap.size ∧ StrsOwn w B (.slice (some ⟨g, 0, none⟩) n cap) L := by
  rw [List.nil_append] at h
  rcases h.shape with ⟨_, rfl⟩ | ⟨g, cap, rfl, h1, h2, h3, h4⟩
  · simp at hn; omega
  · subst hn
    exact ⟨g, cap, rfl, h1, h2, h3, h4, h⟩
theorem StrsOwn.pagesOf {L : List ByteArray} {g n cap k : Nat} (h : StrsOwn w B (.slice (some ⟨g, 0, none⟩) n cap) L) (hn : L.length = n) (h1 : n ≤ cap) (h2 : cap ≤ 9223372036854775807) (hg : B ≤ g) (hgl : g < w.heap.size) (hk : k < B) (hL : ∀ i, i < L.length → (L.getD i ByteArray.empty).size ≤ 9223372036854775807) : PgOwn w B w.heap.size k (.slice (some ⟨g, 0, none⟩) n cap) L :=
  ⟨_, _, _, rfl, h1, h2, hn, fun i hi => hL i (by omega), fun _ => ⟨g, 0, rfl, hg, hgl, by omega, h.free hn, fun i hi => by rw [Nat.zero_add]; exact h.cell hn hi⟩⟩
end
end Go.Proofs.YthenilomgbnpeaaGreatDoor
/- l06Own and cloneFlash: the contracts. -/
namespace Go.Proofs.YthenilomgbnpeaaGreatDoor
open Go.RowKit
set_option linter.unusedVariables false
theorem wpList_append_pages {Q : Exit → Act → World → Prop} {ops : Array Oper} {rest : List Oper} {o : Oper} {a : Act} {w0 wr : World} {B : Nat} (hgd : o.guard = none) (s x : Operand)
    (ho : o.op = .call { callee := .builtin .append, args := #[s, x], argTypes := #[49, 49] })
    (v : Value) (l : List ByteArray) (hs : a.eval s = v) (hown : StrsOwn wr B v l) (hb : Below B w0 wr) (hB : B ≤ wr.heap.size)
    (L : List ByteArray) (b off m c : Nat) (hm : L.length = m) (hx : a.eval x = .slice (some ⟨b, off, none⟩) m c) (hc : ∀ i, i < m → wr.cell? ⟨b, off + i, none⟩ = some (.string (L.getD i ByteArray.empty))) (hl : l.length + m ≤ 1000000)
    (h : ∀ v' w', StrsOwn w' B v' (l ++ L) → Below B w0 w' → wr.grownBy w' v.ownBlock → wpList Tryz.prog ops Q rest (a.put o.dst v') w') :
    wpList Tryz.prog ops Q (o :: rest) a wr := by
  obtain ⟨i0, hi, hz0, hz1, hz2⟩ := info_parts infoStr
  refine wpList_append_own _ hgd s x _ ho B 9 i0 (.string ByteArray.empty) 1 16 Tryz.underlying49 hi hz0 hz1 hz2 rfl (by decide) v l.length (l.map Value.string) hs hown ⟨b, off, none⟩ m c (L.map Value.string) hx (by simp [hm]) ?_ ?_ (by unfold maxLen; omega) (by omega) hB ?_
  · intro j u hj
    have hjl : j < L.length := by
      rcases Nat.lt_or_ge j L.length with hlt | hge
      · exact hlt
      · rw [List.getElem?_eq_none (by simpa using hge)] at hj; cases hj
    have := hc j (by omega)
    rw [List.getElem?_map, List.getElem?_eq_getElem hjl] at hj
    simp at hj
    subst hj
    rw [List.getD_eq_getElem?_getD, List.getElem?_eq_getElem hjl] at this
    have e : (⟨b, off, none⟩ : Addr).add j = ⟨b, off + j, none⟩ := by unfold Addr.add; split <;> simp_all
    rw [e]
    simpa using this
  · intro u hu
    simp at hu
    obtain ⟨s, _, rfl⟩ := hu
    rfl
  · intro v' w' h1 h2 _
    refine h v' w' ?_ (hb.grown h2 hB fun k hk => (World.ownsRow.lt hown k hk).1) h2
    unfold StrsOwn
    rw [List.length_append, hm, List.map_append]
    exact h1
theorem infoFl8 : (Tryz.prog.info? 28).map (·.size) = some 8 := by kernel_rfl
theorem infoBlkZ : (Tryz.prog.info? 51).map (fun i => (i.zero, i.size, i.bytes)) = some (some (.agg #[.int .i64 0, .int .i64 0, .bool false, .slice none 0 0]), 4, 48) := by kernel_rfl
theorem wpList_append_block {Q : Exit → Act → World → Prop} {ops : Array Oper} {rest : List Oper} {o : Oper} {a : Act} {wr : World} {B : Nat} (hgd : o.guard = none) (s x : Operand)
    (ho : o.op = .call { callee := .builtin .append, args := #[s, x], argTypes := #[26, 26] })
    (v : Value) (L : List Blk) (pv : Nat → Value) (hs : a.eval s = v) (hown : wr.ownsRow B 51 4 v L.length (rowC L pv)) (hB : B ≤ wr.heap.size)
    (y : Blk) (u : Value) (hu : u.oneCell' = true) (g m c : Nat) (hg : g = wr.heap.size) (hx : a.eval x = .slice (some ⟨g, 0, none⟩) 1 c) (hl : L.length + 1 ≤ 1000000)
    (h : ∀ v' w', w'.ownsRow B 51 4 v' (L.length + 1) (rowC L pv ++ bkCells y u) → (wr.alloc (.cells #[.int .i64 y.er, .int .i64 y.nx, .bool y.bad, u] 51)).grownBy w' v.ownBlock → (v'.ownBlock = v.ownBlock ∨ v'.ownBlock = some (wr.heap.size + 1)) → wpList Tryz.prog ops Q rest (a.put o.dst v') w') :
    wpList Tryz.prog ops Q (o :: rest) a (wr.alloc (.cells #[.int .i64 y.er, .int .i64 y.nx, .bool y.bad, u] 51)) := by
  obtain ⟨i0, hi, hz0, hz1, hz2⟩ := info_parts infoBlkZ
  subst hg
  refine wpList_append_own_at _ hgd s x _ ho B 51 i0 (.agg #[.int .i64 0, .int .i64 0, .bool false, .slice none 0 0]) 4 48 Tryz.underlying26 hi hz0 hz1 hz2 rfl (by decide) v L.length (rowC L pv) hs (World.ownsRow.alloc hown _) ⟨wr.heap.size, 0, none⟩ 1 c (bkCells y u) hx rfl ?_ ?_ (by unfold maxLen; omega) (by omega) (by simp; omega) ?_
  · intro j t hj
    rw [Addr.add_lit, Nat.zero_add, World.cell?_alloc_new]
    simpa [bkCells] using hj
  · intro t ht
    simp [bkCells] at ht
    rcases ht with rfl | rfl | rfl | rfl
    · rfl
    · rfl
    · rfl
    · exact hu
  · intro v' w' h1 h2 _ h4
    exact h v' w' h1 h2 (by simpa using h4)
set_option maxHeartbeats 4000000 in
theorem l06Own_any (v : Value) (F : Fl) (w : World) (lo hi : Nat) (h : FlIn w lo hi v F) (hh : hi ≤ w.heap.size) (hl : F.bs.length ≤ 1000) (hp : ∀ i, i < F.bs.length → 0 < (F.blk i).pg.length ∧ (F.blk i).pg.length ≤ 1000) :
    Calls Tryz.prog 97 #[v] w fun e w' => ∃ u, e = .returned u ∧ FlOwn w' w.heap.size w'.heap.size u F ∧ Below w.heap.size w w' := by
  obtain ⟨u, rfl, h⟩ := h
  obtain ⟨d, b, p, bs, fu, ke, off, op⟩ := F
  obtain ⟨A, n, cap, rfl, hlc, hcm, hlen, hA⟩ := h
  unfold flc
  simp only at hl hp hlen hA
  rw [hlen] at hl
  have hnm : (n : Int) ≤ 1000 := by omega
  go_enter Tryz.func97, Tryz.ntmps97
  have HA := Lib.hid hA
  have HP := Lib.hid hp
  have HN := Lib.hid hlen
  clear hA hp hlen
  go_wp2_with fail
  obtain ⟨r0, r1, r2, b0⟩ := Rw.three_new w 28 28 28 #[.int .i64 d, .int .i64 b, .int .i64 p, .slice A n cap, .int .i64 fu, .int .i64 ke, .bool off, .int .i64 op]
    #[.int .i64 0, .int .i64 0, .int .i64 0, .slice none 0 0, .int .i64 0, .int .i64 0, .bool false, .int .i64 0] #[.int .i64 d, .int .i64 b, .int .i64 p, .slice (some ⟨w.heap.size + 1 + 1 + 1, 0, none⟩) 0 0, .int .i64 fu, .int .i64 ke, .bool off, .int .i64 op]
  have R0 := Lib.hid (r0.alloc (.cells #[] 51))
  have R1 := Lib.hid (r1.alloc (.cells #[] 51))
  have R2 := Lib.hid (r2.alloc (.cells #[] 51))
  have HB0 := Lib.hid (b0.alloc (by simp; omega) (.cells #[] 51))
  have g0 := Grow.start (((w.alloc (.cells #[.int .i64 d, .int .i64 b, .int .i64 p, .slice A n cap, .int .i64 fu, .int .i64 ke, .bool off, .int .i64 op] 28)).alloc (.cells #[.int .i64 0, .int .i64 0, .int .i64 0, .slice none 0 0, .int .i64 0, .int .i64 0, .bool false, .int .i64 0] 28)).alloc (.cells #[.int .i64 d, .int .i64 b, .int .i64 p, .slice (some ⟨w.heap.size + 1 + 1 + 1, 0, none⟩) 0 0, .int .i64 fu, .int .i64 ke, .bool off, .int .i64 op] 28)) (B := w.heap.size + 3) (by simp) (fun _ => .slice none 0 0)
  simp only [World.size_alloc] at g0
  have G0 := Lib.hid g0
  have hz0 : w.heap.size + 4 ≤ ((((w.alloc (.cells #[.int .i64 d, .int .i64 b, .int .i64 p, .slice A n cap, .int .i64 fu, .int .i64 ke, .bool off, .int .i64 op] 28)).alloc (.cells #[.int .i64 0, .int .i64 0, .int .i64 0, .slice none 0 0, .int .i64 0, .int .i64 0, .bool false, .int .i64 0] 28)).alloc (.cells #[.int .i64 d, .int .i64 b, .int .i64 p, .slice (some ⟨w.heap.size + 1 + 1 + 1, 0, none⟩) 0 0, .int .i64 fu, .int .i64 ke, .bool off, .int .i64 op] 28)).alloc (.cells #[] 51)).heap.size := by simp
  clear r0 r1 r2 b0 g0
  go_loopw [4] (fun i wr => ∃ (k : Nat) (pv : Nat → Value) (vo : Value), k ≤ n ∧ i = .int .i64 k ∧ Hid (Grow wr (w.heap.size + 3) vo (bs.take k) pv) ∧ Hid (Rw wr w.heap.size 28 #[.int .i64 d, .int .i64 b, .int .i64 p, .slice A n cap, .int .i64 fu, .int .i64 ke, .bool off, .int .i64 op]) ∧
      Hid (Rw wr (w.heap.size + 1) 28 #[.int .i64 0, .int .i64 0, .int .i64 0, .slice none 0 0, .int .i64 0, .int .i64 0, .bool false, .int .i64 0]) ∧ Hid (Rw wr (w.heap.size + 1 + 1) 28 #[.int .i64 d, .int .i64 b, .int .i64 p, vo, .int .i64 fu, .int .i64 ke, .bool off, .int .i64 op]) ∧
      Hid (Below w.heap.size w wr) ∧ w.heap.size + 4 ≤ wr.heap.size) (fun i _ => n - (intOf i).toNat)
  case atStart => exact ⟨0, _, _, by omega, rfl, G0, R0, R1, R2, HB0, hz0⟩
  case round =>
    clear R0 R1 R2 HB0 G0 hz0
    obtain ⟨k, pv, vo, hk, rfl, GG, R0, R1, R2, HB, hz⟩ := hrel
    obtain ⟨Av, cv, hvo⟩ := owns_slice GG.out.own
    obtain ⟨a0, a1, a2, a3, a4, a5, a6, a7⟩ := R0.out.eight
    obtain ⟨z0, z1, z2, z3, z4, z5, z6, z7⟩ := R1.out.eight
    obtain ⟨o0, o1, o2, o3, o4, o5, o6, o7⟩ := R2.out.eight
    by_cases hlt : k < n
    · have hki : (k : Int) < (n : Int) := by omega
      have hkl : (bs.take k).length = k := by rw [List.length_take, HN.out]; omega
      rw [hkl] at hvo
      subst hvo
      obtain ⟨g, o, hAe, hg1, hg2, hx⟩ := HA.out (by omega)
      obtain ⟨pu, hat, hpu⟩ := hx k hlt
      have hp := HP.out k (by have := HN.out; omega)
      have hs1 := sm HB.out lo hh
      obtain ⟨q0, q1, q2, q3⟩ := hat.same hs1 hg1 hg2
      obtain ⟨Ap, m, cp, rfl, hm1, hm2, hm3, hm4, hpc⟩ := hpu.same hs1
      have hy : bs.take (k + 1) = bs.take k ++ [bs.getD k Blk.zero] := by
        rw [List.take_succ_eq_append_getElem (by have := HN.out; omega), List.getD_eq_getElem?_getD, List.getElem?_eq_getElem (by have := HN.out; omega)]; rfl
      have HY := Lib.hid hy
      have hpe : (Fl.blk { d := d, b := b, p := p, bs := bs, fu := fu, ke := ke, off := off, op := op } k) = bs.getD k Blk.zero := rfl
      rw [hpe] at hp
      generalize bs.getD k Blk.zero = y at *
      obtain ⟨er, nx, bad, pg⟩ := y
      simp only at q0 q1 q2 hm3 hm4 hp hpc
      obtain ⟨pb, po, rfl, hb1, hb2, hpx⟩ := hpc (by omega)
      subst hAe
      have HPX := Lib.hid hpx
      have HM3 := Lib.hid hm3
      have HM4 := Lib.hid hm4
      have hmm : m ≤ 1000 := by omega
      have hm0 : 0 < m := by omega
      have HKL := Lib.hid hkl
      clear hx hat hpu hpx hs1 hpc hpe hy hm3 hm4 hp hkl
      have hpw : pb < wr.heap.size := by omega
      have hq0 : w.heap.size ≠ wr.heap.size := by omega
      have hq1 : w.heap.size + 1 ≠ wr.heap.size := by omega
      have hq2 : w.heap.size + 1 + 1 ≠ wr.heap.size := by omega
      have hq3 : ¬ wr.heap.size = w.heap.size + 1 + 1 := by omega
      have hq4 : ¬ wr.heap.size = w.heap.size + 1 := by omega
      have hq5 : ¬ wr.heap.size = w.heap.size := by omega
      have own0 := StrsOwn.fresh (wr.alloc (.cells #[.int .i64 er, .int .i64 nx, .bool bad, .slice (some ⟨pb, po, none⟩) m cp] 51)) (B := wr.heap.size + 1) (by simp)
      simp only [World.size_alloc] at own0
      have OWN0 := Lib.hid own0
      have BL0 := Lib.hid ((Below.refl (wr.heap.size + 1) (wr.alloc (.cells #[.int .i64 er, .int .i64 nx, .bool bad, .slice (some ⟨pb, po, none⟩) m cp] 51))).alloc (by simp) (.cells #[] 9))
      have CL0 := Lib.hid (show ∀ i, i < m → ((wr.alloc (.cells #[.int .i64 er, .int .i64 nx, .bool bad, .slice (some ⟨pb, po, none⟩) m cp] 51)).alloc (.cells #[] 9)).cell? ⟨pb, po + i, none⟩ = some (.string (pg.getD i ByteArray.empty)) from
        fun i hi => (World.cell?_alloc_lt _ _ _ (by simp; omega)).trans ((World.cell?_alloc_lt _ _ _ hpw).trans (HPX.out i hi)))
      clear own0
      go_wp2_with (first
        | (with_reducible show wpList _ _ _ (⟨some 24, _, _, _, _, _⟩ :: _) _ _
           go_must (refine wpList_append_pages rfl _ _ rfl _ [] rfl OWN0.out BL0.out (by simp) pg pb po m cp HM3.out rfl CL0.out (by simp; omega) ?_)
           intro v1 w1 own1 hb1 gr1
           obtain ⟨g1, c1, rfl, u1, u2, u3, u4, own1'⟩ := own1.someOf HM3.out hm0
           have bb := ((Below.refl wr.heap.size wr).alloc (Nat.le_refl _) (.cells #[.int .i64 er, .int .i64 nx, .bool bad, .slice (some ⟨pb, po, none⟩) m cp] 51)).trans (hb1.mono (by omega))
           have rb := (Rw.new wr 51 #[.int .i64 er, .int .i64 nx, .bool bad, .slice (some ⟨pb, po, none⟩) m cp]).below hb1 (by omega)
           have s0 := R0.out.below bb (by omega)
           have s2 := R2.out.below bb (by omega)
           have PG := Lib.hid (own1'.pagesOf HM3.out u1 u2 u3 u4 (k := wr.heap.size) (by omega) (fun i hi => HM4.out i (by have := HM3.out; omega)))
           obtain ⟨x0, x1, x2, x3⟩ := rb.four
           obtain ⟨fx0, fx1, fx2, fx3, _⟩ := rb.frees
           obtain ⟨y0, y1, y2, y3, y4, y5, y6, y7⟩ := s2.eight
           obtain ⟨fy0, fy1, fy2, fy3, fy4, fy5, fy6, fy7⟩ := s2.frees
           have hsz1 := hb1.size
           simp only [World.size_alloc] at hsz1
           have BB := Lib.hid bb
           have S0 := Lib.hid s0
           have S1 := Lib.hid (R1.out.below bb (by omega))
           have S2 := Lib.hid s2
           have G1 := Lib.hid (GG.out.later (bb.setCell (p := ⟨wr.heap.size, 3, none⟩) (Nat.le_refl _) (.slice (some ⟨g1, 0, none⟩) m c1)))
           clear own1 own1' hb1 gr1 bb rb s0 s2)
        | (with_reducible show wpList _ _ _ (⟨some 30, _, _, _, _, _⟩ :: _) _ _
           go_must (refine wpList_append_block rfl _ _ rfl (.slice Av k cv) (bs.take k) pv rfl G1.out.own (by simp; omega) ⟨er, nx, bad, pg⟩ (.slice (some ⟨g1, 0, none⟩) m c1) rfl w1.heap.size 0 1 (by simp) rfl (by rw [HKL.out]; omega) ?_)
           intro v2 w2 own2 gr2 hat2
           obtain ⟨A2, c2, hv2⟩ := owns_slice own2
           rw [HKL.out] at hv2
           subst hv2
           go_must (have bb2 := (BB.out.setCell (p := ⟨wr.heap.size, 3, none⟩) (Nat.le_refl _) (.slice (some ⟨g1, 0, none⟩) m c1)).alloc (by simp; omega) (.cells #[.int .i64 er, .int .i64 nx, .bool bad, .slice (some ⟨g1, 0, none⟩) m c1] 51))
           have pg2 : PgOwn ((w1.setCell ⟨wr.heap.size, 3, none⟩ (.slice (some ⟨g1, 0, none⟩) m c1)).alloc (.cells #[.int .i64 er, .int .i64 nx, .bool bad, .slice (some ⟨g1, 0, none⟩) m c1] 51)) wr.heap.size ((w1.setCell ⟨wr.heap.size, 3, none⟩ (.slice (some ⟨g1, 0, none⟩) m c1)).alloc (.cells #[.int .i64 er, .int .i64 nx, .bool bad, .slice (some ⟨g1, 0, none⟩) m c1] 51)).heap.size ((w1.setCell ⟨wr.heap.size, 3, none⟩ (.slice (some ⟨g1, 0, none⟩) m c1)).alloc (.cells #[.int .i64 er, .int .i64 nx, .bool bad, .slice (some ⟨g1, 0, none⟩) m c1] 51)).heap.size (.slice (some ⟨g1, 0, none⟩) m c1) pg := by
             have p1 := (PG.out.far 3 (.slice (some ⟨g1, 0, none⟩) m c1)).same (sm ((Below.refl w1.heap.size (w1.setCell ⟨wr.heap.size, 3, none⟩ (.slice (some ⟨g1, 0, none⟩) m c1))).alloc (by simp) (.cells #[.int .i64 er, .int .i64 nx, .bool bad, .slice (some ⟨g1, 0, none⟩) m c1] 51)) (wr.heap.size + 1) (Nat.le_refl _))
             exact (p1.wide (by omega) (by simp)).beside fun a n c e h0 => by have := p1.blk e h0; simp; omega
           go_must (have G2 := Lib.hid (GG.out.push bb2 (x := ⟨er, nx, bad, pg⟩) pg2 own2 gr2 (by simpa using hat2) (by omega)))
           have low : ∀ j, j < w.heap.size + 3 → w2.heap[j]? = ((w1.setCell ⟨wr.heap.size, 3, none⟩ (.slice (some ⟨g1, 0, none⟩) m c1)).alloc (.cells #[.int .i64 er, .int .i64 nx, .bool bad, .slice (some ⟨g1, 0, none⟩) m c1] 51)).heap[j]? := fun j hj =>
             gr2.block j (by simp; omega) fun e => by have := (GG.out.rowLt (k := j) e.symm).1; omega
           go_must (have T0 := Lib.hid (show Rw w2 w.heap.size _ _ from (low _ (by omega)).trans ((S0.out.farA hq0 (k := 3) (.slice (some ⟨g1, 0, none⟩) m c1)).alloc _)))
           go_must (have T1 := Lib.hid (show Rw w2 (w.heap.size + 1) _ _ from (low _ (by omega)).trans ((S1.out.farA hq1 (k := 3) (.slice (some ⟨g1, 0, none⟩) m c1)).alloc _)))
           go_must (have T2 := Lib.hid (show Rw w2 (w.heap.size + 1 + 1) _ _ from (low _ (by omega)).trans ((S2.out.farA hq2 (k := 3) (.slice (some ⟨g1, 0, none⟩) m c1)).alloc _)))
           obtain ⟨n0, n1, n2, n3, n4, n5, n6, n7⟩ := T2.out.eight
           obtain ⟨fn0, fn1, fn2, fn3, fn4, fn5, fn6, fn7⟩ := T2.out.frees
           go_must (have B2 := Lib.hid (((HB.out.trans (bb2.mono (by omega))).grown gr2 (by simp; omega) fun j hj => by have := (GG.out.rowLt hj).1; omega)))
           have hsz2 := gr2.size
           simp only [World.size_alloc, World.size_setCell] at hsz2
           clear own2 gr2 hat2 bb2 pg2 low x0 x1 x2 x3 fx0 fx1 fx2 fx3 y0 y1 y2 y3 y4 y5 y6 y7))
      go_roundw
      case rel =>
        have g3 := G2.out.same (w1 := w2.setCell ⟨w.heap.size + 1 + 1, 3, none⟩ (.slice A2 (k + 1) c2)) (fun j a b => Below.heap_setCell w2 _ _ j (by show j ≠ w.heap.size + 1 + 1; omega)) (by simp)
        rw [← HY.out] at g3
        exact ⟨k + 1, _, _, by omega, by go_num, Lib.hid g3, Lib.hid (T0.out.farA (by omega) _), Lib.hid (T1.out.farA (by omega) _), Lib.hid (T2.out.set_ 3 _), Lib.hid (bset B2.out (by omega) _), by simp; omega⟩
      case measure => simp [intOf]; omega
    · obtain rfl : k = n := by omega
      have hkl : (bs.take k).length = k := by rw [List.length_take, HN.out]; omega
      rw [hkl] at hvo
      subst hvo
      obtain ⟨fo0, fo1, fo2, fo3, fo4, fo5, fo6, fo7⟩ := R1.out.frees
      have GO := Lib.hid GG.out.owns
      clear GG
      go_wp2
      refine bodyPost_ret (results_cell_row Tryz.results97 _ _ _ _ #[.int .i64 d, .int .i64 b, .int .i64 p, .slice Av k cv, .int .i64 fu, .int .i64 ke, .bool off, .int .i64 op] _ _ rfl
        ((((((((R1.out.set_ 0 _).set_ 1 _).set_ 2 _).set_ 3 _).set_ 4 _).set_ 5 _).set_ 6 _).set_ 7 _) Tryz.underlying28 rfl infoFl8) rfl ?_
      refine ⟨_, rfl, ⟨_, rfl, ?_⟩, ?_⟩
      · have := GO.out
        rw [List.take_of_length_le (by have := HN.out; omega)] at this
        refine (this.same ?_).wide (by omega) (by simp)
        repeat refine sset ?_ (.inl (by omega)) _
        exact Same.refl _ _ _
      · repeat refine bset ?_ (by omega) _
        exact HB.out
end Go.Proofs.YthenilomgbnpeaaGreatDoor
