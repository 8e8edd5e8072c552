/- The proof's own lemmas, part 2: FlM. -/
import Derived.Test.YtainlanblpccjaaProg
import Derived.Test.YtainlanblpccjaaMg0
import Derived.WalkKit
import Derived.ProofKit
import Derived.Lib.Hide
import Derived.Laws.MakeOwn
/- Arrays in memory: what is read, what the call itself owns; the laws of frames and stores. -/
namespace Go.Proofs.Ytainlanblpccjaa
open Go.RowKit
set_option linter.unusedVariables false

/-- In both worlds the blocks from lo up to hi are alike. -/
def Same (lo hi : Nat) (w w' : World) : Prop := ∀ j, lo ≤ j → j < hi → w'.heap[j]? = w.heap[j]?
section
variable {w w' : World} {lo hi B : Nat}
theorem Same.cell (h : Same lo hi w w') {p : Addr} (h1 : lo ≤ p.block) (h2 : p.block < hi) : w'.cell? p = w.cell? p := World.cell?_of_block (w := w) (h p.block h1 h2)
theorem Same.frozen (h : Same lo hi w w') {p : Addr} (h1 : lo ≤ p.block) (h2 : p.block < hi) : w'.frozen? p = w.frozen? p := World.frozen?_of_block (w := w) (h p.block h1 h2)
theorem sm (h : Below B w w') (lo : Nat) {hi : Nat} (hB : hi ≤ B) : Same lo hi w w' := fun j _ h2 => h.block j (by omega)
theorem Same.setCell (h : Same lo hi w w') {p : Addr} (hp : p.block < lo ∨ hi ≤ p.block) (u : Value) : Same lo hi w (w'.setCell p u) := fun j h1 h2 => (Below.heap_setCell w' p u j (by omega)).trans (h j h1 h2)
theorem sset (h : Same lo hi w w') {g k : Nat} (hp : g < lo ∨ hi ≤ g) (u : Value) : Same lo hi w (w'.setCell ⟨g, k, none⟩ u) := h.setCell (p := ⟨g, k, none⟩) hp u
theorem Same.refl (lo hi : Nat) (w : World) : Same lo hi w w := fun _ _ _ => rfl
theorem Same.trans {w'' : World} (h : Same lo hi w w') (k : Same lo hi w' w'') : Same lo hi w w'' := fun j h1 h2 => (k j h1 h2).trans (h j h1 h2)
theorem Same.mono {lo' hi' : Nat} (h : Same lo hi w w') (h1 : lo ≤ lo') (h2 : hi' ≤ hi) : Same lo' hi' w w' := fun j a b => h j (by omega) (by omega)
end

/-- The value v is a slice, in the blocks from lo up to hi, that reads as the texts L. -/
def PgIn (w : World) (lo hi : Nat) (v : Value) (L : List ByteArray) : Prop :=
  ∃ A len cap, v = .slice A len cap ∧ len ≤ cap ∧ cap ≤ 9223372036854775807 ∧ L.length = len ∧ (∀ i, i < len → (L.getD i ByteArray.empty).size ≤ 9223372036854775807) ∧
    (0 < len → ∃ b off, A = some ⟨b, off, none⟩ ∧ lo ≤ b ∧ b < hi ∧ ∀ i, i < len → w.cell? ⟨b, off + i, none⟩ = some (.string (L.getD i ByteArray.empty)))
/-- The four cells of a block. -/
def BkAt (w : World) (g o : Nat) (x : Blk) (pv : Value) : Prop :=
  w.cell? ⟨g, o, none⟩ = some (.int .i64 x.er) ∧ w.cell? ⟨g, o + 1, none⟩ = some (.int .i64 x.nx) ∧ w.cell? ⟨g, o + 2, none⟩ = some (.bool x.bad) ∧ w.cell? ⟨g, o + 3, none⟩ = some pv
/-- The value v is a slice that reads as the blocks L. -/
def BksIn (w : World) (lo hi : Nat) (v : Value) (L : List Blk) : Prop :=
  ∃ A len cap, v = .slice A len cap ∧ len ≤ cap ∧ cap ≤ 9223372036854775807 ∧ L.length = len ∧
    (0 < len → ∃ g off, A = some ⟨g, off, none⟩ ∧ lo ≤ g ∧ g < hi ∧ ∀ i, i < len → ∃ pv, BkAt w g (off + i * 4) (L.getD i Blk.zero) pv ∧ PgIn w lo hi pv (L.getD i Blk.zero).pg)
/-- The cells of an array whose blocks are the slice v. -/
def flc (F : Fl) (v : Value) : Array Value := #[.int .i64 F.d, .int .i64 F.b, .int .i64 F.p, v, .int .i64 F.fu, .int .i64 F.ke, .bool F.off, .int .i64 F.op]
def FlIn (w : World) (lo hi : Nat) (v : Value) (F : Fl) : Prop := ∃ u, v = .agg (flc F u) ∧ BksIn w lo hi u F.bs
section
variable {w w' : World} {lo hi lo' hi' : Nat} {v : Value}
theorem PgIn.same {L : List ByteArray} (h : PgIn w lo hi v L) (hs : Same lo hi w w') : PgIn w' lo hi v L := by
  obtain ⟨A, len, cap, e, h1, h2, h3, h4, hc⟩ := h
  refine ⟨A, len, cap, e, h1, h2, h3, h4, fun h0 => ?_⟩
  obtain ⟨b, off, e, h1, h2, hx⟩ := hc h0
  exact ⟨b, off, e, h1, h2, fun i hi => (hs.cell (p := ⟨b, off + i, none⟩) h1 h2).trans (hx i hi)⟩
theorem PgIn.wide {L : List ByteArray} (h : PgIn w lo hi v L) (hl : lo' ≤ lo) (hh : hi ≤ hi') : PgIn w lo' hi' v L := by
  obtain ⟨A, len, cap, e, h1, h2, h3, h4, hc⟩ := h
  refine ⟨A, len, cap, e, h1, h2, h3, h4, fun h0 => ?_⟩
  obtain ⟨b, off, e, h1, h2, hx⟩ := hc h0
  exact ⟨b, off, e, by omega, by omega, hx⟩
theorem BkAt.same {g o : Nat} {x : Blk} {pv : Value} (h : BkAt w g o x pv) (hs : Same lo hi w w') (h1 : lo ≤ g) (h2 : g < hi) : BkAt w' g o x pv :=
  ⟨(hs.cell (p := ⟨g, o, none⟩) h1 h2).trans h.1, (hs.cell (p := ⟨g, o + 1, none⟩) h1 h2).trans h.2.1, (hs.cell (p := ⟨g, o + 2, none⟩) h1 h2).trans h.2.2.1, (hs.cell (p := ⟨g, o + 3, none⟩) h1 h2).trans h.2.2.2⟩
theorem BksIn.same {L : List Blk} (h : BksIn w lo hi v L) (hs : Same lo hi w w') : BksIn w' lo hi v L := by
  obtain ⟨A, len, cap, e, h1, h2, h3, hc⟩ := h
  refine ⟨A, len, cap, e, h1, h2, h3, fun h0 => ?_⟩
  obtain ⟨g, off, e, h1, h2, hx⟩ := hc h0
  refine ⟨g, off, e, h1, h2, fun i hi => ?_⟩
  obtain ⟨pv, a, b⟩ := hx i hi
  exact ⟨pv, a.same hs h1 h2, b.same hs⟩
theorem BksIn.wide {L : List Blk} (h : BksIn w lo hi v L) (hl : lo' ≤ lo) (hh : hi ≤ hi') : BksIn w lo' hi' v L := by
  obtain ⟨A, len, cap, e, h1, h2, h3, hc⟩ := h
  refine ⟨A, len, cap, e, h1, h2, h3, fun h0 => ?_⟩
  obtain ⟨g, off, e, h1, h2, hx⟩ := hc h0
  refine ⟨g, off, e, by omega, by omega, fun i hi => ?_⟩
  obtain ⟨pv, a, b⟩ := hx i hi
  exact ⟨pv, a, b.wide hl hh⟩
theorem FlIn.same {F : Fl} (h : FlIn w lo hi v F) (hs : Same lo hi w w') : FlIn w' lo hi v F := by
  obtain ⟨u, e, h⟩ := h; exact ⟨u, e, h.same hs⟩
theorem FlIn.wide {F : Fl} (h : FlIn w lo hi v F) (hl : lo' ≤ lo) (hh : hi ≤ hi') : FlIn w lo' hi' v F := by
  obtain ⟨u, e, h⟩ := h; exact ⟨u, e, h.wide hl hh⟩
end

/-- A slice of texts in memory of the call's own: beside block g, nothing frozen. -/
def PgOwn (w : World) (lo hi g : Nat) (v : Value) (L : List ByteArray) : Prop :=
  ∃ A len cap, v = .slice A len cap ∧ len ≤ cap ∧ cap ≤ 9223372036854775807 ∧ L.length = len ∧ (∀ i, i < len → (L.getD i ByteArray.empty).size ≤ 9223372036854775807) ∧
    (0 < len → ∃ b off, A = some ⟨b, off, none⟩ ∧ lo ≤ b ∧ b < hi ∧ b ≠ g ∧ (∀ k, w.frozen? ⟨b, k, none⟩ = false) ∧ ∀ i, i < len → w.cell? ⟨b, off + i, none⟩ = some (.string (L.getD i ByteArray.empty)))
/-- Two slices share no cell. -/
def Apart (v u : Value) : Prop := ∀ a n c a' n' c', v = .slice (some a) n c → u = .slice (some a') n' c' → 0 < n → 0 < n' → a.block ≠ a'.block ∨ a.off + n ≤ a'.off ∨ a'.off + n' ≤ a.off
theorem Apart.symm {v u : Value} (h : Apart v u) : Apart u v := fun a n c a' n' c' e1 e2 h1 h2 => by
  rcases h a' n' c' a n c e2 e1 h2 h1 with h | h | h
  · exact .inl fun e => h e.symm
  · exact .inr (.inr h)
  · exact .inr (.inl h)
/-- Block g holds the blocks L, whose pages' slices are pv 0, pv 1, ..: all of it the call's own. -/
structure BO (w : World) (lo hi g : Nat) (pv : Nat → Value) (L : List Blk) : Prop where
  low : lo ≤ g
  high : g < hi
  free : ∀ k, w.frozen? ⟨g, k, none⟩ = false
  row : ∀ i, i < L.length → BkAt w g (i * 4) (L.getD i Blk.zero) (pv i)
  pgs : ∀ i, i < L.length → PgOwn w lo hi g (pv i) (L.getD i Blk.zero).pg
  apart : ∀ i j, i < L.length → j < L.length → i ≠ j → Apart (pv i) (pv j)
/-- The value v is a slice of blocks of the call's own. -/
def BksOwn (w : World) (lo hi : Nat) (v : Value) (L : List Blk) : Prop :=
  ∃ A len cap, v = .slice A len cap ∧ len ≤ cap ∧ cap ≤ 9223372036854775807 ∧ L.length = len ∧ (0 < len → ∃ g pv, A = some ⟨g, 0, none⟩ ∧ BO w lo hi g pv L)
def FlOwn (w : World) (lo hi : Nat) (v : Value) (F : Fl) : Prop := ∃ u, v = .agg (flc F u) ∧ BksOwn w lo hi u F.bs
section
variable {w w' : World} {lo hi lo' hi' g : Nat} {v : Value}
theorem PgOwn.same {L : List ByteArray} (h : PgOwn w lo hi g v L) (hs : Same lo hi w w') : PgOwn w' lo hi g v L := by
  obtain ⟨A, len, cap, e, h1, h2, h3, h4, hc⟩ := h
  refine ⟨A, len, cap, e, h1, h2, h3, h4, fun h0 => ?_⟩
  obtain ⟨b, off, e, h1, h2, h3, hf, hx⟩ := hc h0
  exact ⟨b, off, e, h1, h2, h3, fun k => (hs.frozen (p := ⟨b, k, none⟩) h1 h2).trans (hf k), fun i hi => (hs.cell (p := ⟨b, off + i, none⟩) h1 h2).trans (hx i hi)⟩
theorem PgOwn.wide {L : List ByteArray} (h : PgOwn w lo hi g v L) (hl : lo' ≤ lo) (hh : hi ≤ hi') : PgOwn w lo' hi' g v L := by
  obtain ⟨A, len, cap, e, h1, h2, h3, h4, hc⟩ := h
  refine ⟨A, len, cap, e, h1, h2, h3, h4, fun h0 => ?_⟩
  obtain ⟨b, off, e, h1, h2, hx⟩ := hc h0
  exact ⟨b, off, e, by omega, by omega, hx⟩
theorem PgOwn.reads {L : List ByteArray} (h : PgOwn w lo hi g v L) : PgIn w lo hi v L := by
  obtain ⟨A, len, cap, e, h1, h2, h3, h4, hc⟩ := h
  refine ⟨A, len, cap, e, h1, h2, h3, h4, fun h0 => ?_⟩
  obtain ⟨b, off, e, h1, h2, h3, hf, hx⟩ := hc h0
  exact ⟨b, off, e, h1, h2, hx⟩
theorem BO.same {pv : Nat → Value} {L : List Blk} (h : BO w lo hi g pv L) (hs : Same lo hi w w') : BO w' lo hi g pv L :=
  ⟨h.low, h.high, fun k => (hs.frozen (p := ⟨g, k, none⟩) h.low h.high).trans (h.free k), fun i hi => (h.row i hi).same hs h.low h.high, fun i hi => (h.pgs i hi).same hs, h.apart⟩
theorem BO.wide {pv : Nat → Value} {L : List Blk} (h : BO w lo hi g pv L) (hl : lo' ≤ lo) (hh : hi ≤ hi') : BO w lo' hi' g pv L :=
  ⟨Nat.le_trans hl h.low, Nat.lt_of_lt_of_le h.high hh, h.free, h.row, fun i hi => (h.pgs i hi).wide hl hh, h.apart⟩
theorem BksOwn.same {L : List Blk} (h : BksOwn w lo hi v L) (hs : Same lo hi w w') : BksOwn w' lo hi v L := by
  obtain ⟨A, len, cap, e, h1, h2, h3, hc⟩ := h
  refine ⟨A, len, cap, e, h1, h2, h3, fun h0 => ?_⟩
  obtain ⟨g, pv, e, hb⟩ := hc h0
  exact ⟨g, pv, e, hb.same hs⟩
theorem BksOwn.wide {L : List Blk} (h : BksOwn w lo hi v L) (hl : lo' ≤ lo) (hh : hi ≤ hi') : BksOwn w lo' hi' v L := by
  obtain ⟨A, len, cap, e, h1, h2, h3, hc⟩ := h
  refine ⟨A, len, cap, e, h1, h2, h3, fun h0 => ?_⟩
  obtain ⟨g, pv, e, hb⟩ := hc h0
  exact ⟨g, pv, e, hb.wide hl hh⟩
theorem BksOwn.reads {L : List Blk} (h : BksOwn w lo hi v L) : BksIn w lo hi v L := by
  obtain ⟨A, len, cap, e, h1, h2, h3, hc⟩ := h
  refine ⟨A, len, cap, e, h1, h2, h3, fun h0 => ?_⟩
  obtain ⟨g, pv, e, hb⟩ := hc h0
  refine ⟨g, 0, e, hb.low, hb.high, fun i hi => ⟨pv i, ?_, (hb.pgs i (by omega)).reads⟩⟩
  rw [Nat.zero_add]; exact hb.row i (by omega)
theorem FlOwn.same {F : Fl} (h : FlOwn w lo hi v F) (hs : Same lo hi w w') : FlOwn w' lo hi v F := by
  obtain ⟨u, e, h⟩ := h; exact ⟨u, e, h.same hs⟩
theorem FlOwn.wide {F : Fl} (h : FlOwn w lo hi v F) (hl : lo' ≤ lo) (hh : hi ≤ hi') : FlOwn w lo' hi' v F := by
  obtain ⟨u, e, h⟩ := h; exact ⟨u, e, h.wide hl hh⟩
theorem FlOwn.reads {F : Fl} (h : FlOwn w lo hi v F) : FlIn w lo hi v F := by
  obtain ⟨u, e, h⟩ := h; exact ⟨u, e, h.reads⟩
theorem FlOwn.zero (w : World) (lo hi : Nat) : FlOwn w lo hi (.agg (flc Fl.zero (.slice none 0 0))) Fl.zero := ⟨_, rfl, none, 0, 0, rfl, Nat.le_refl _, by omega, rfl, fun h => by omega⟩
/-- A store into a field of block k. -/
theorem getD_set_eq {α : Type} (L : List α) (k : Nat) (x d : α) (h : k < L.length) : (L.set k x).getD k d = x := by simp [List.getD_eq_getElem?_getD, h]
theorem getD_set_ne {α : Type} (L : List α) (k i : Nat) (x d : α) (h : k ≠ i) : (L.set k x).getD i d = L.getD i d := by simp [List.getD_eq_getElem?_getD, List.getElem?_set_ne h]
theorem addr_ne {g g' o o' : Nat} (h : g = g' → o ≠ o') : (⟨g, o, none⟩ : Addr) ≠ ⟨g', o', none⟩ := fun e => by injection e with h1 h2; exact h h1 h2
theorem PgOwn.far {L : List ByteArray} (h : PgOwn w lo hi g v L) (k : Nat) (u : Value) : PgOwn (w.setCell ⟨g, k, none⟩ u) lo hi g v L := by
  obtain ⟨A, len, cap, e, h1, h2, h3, h4, hc⟩ := h
  refine ⟨A, len, cap, e, h1, h2, h3, h4, fun h0 => ?_⟩
  obtain ⟨b, off, e, h1, h2, h3, hf, hx⟩ := hc h0
  exact ⟨b, off, e, h1, h2, h3, fun k => by rw [World.frozen?_setCell]; exact hf k, fun i hi => by rw [World.cell?_setCell_other w _ _ _ (addr_ne fun e => absurd e.symm h3)]; exact hx i hi⟩
/-- What a store of the value u into cell c (0 .. 3) of a block makes of it. -/
def Blk.put (x : Blk) : Nat → Value → Blk
  | 0, .int .i64 n => { x with er := n }
  | 1, .int .i64 n => { x with nx := n }
  | 2, .bool b => { x with bad := b }
  | _, _ => x
theorem BO.store {pv : Nat → Value} {L : List Blk} (h : BO w lo hi g pv L) {k c : Nat} (hk : k < L.length) (u : Value) (hc : (c = 0 ∧ ∃ n, u = .int .i64 n) ∨ (c = 1 ∧ ∃ n, u = .int .i64 n) ∨ (c = 2 ∧ ∃ b, u = .bool b)) :
    BO (w.setCell ⟨g, k * 4 + c, none⟩ u) lo hi g pv (L.set k ((L.getD k Blk.zero).put c u)) := by
  have hc3 : c < 3 := by omega
  have hpg : ∀ i, i < L.length → ((L.set k ((L.getD k Blk.zero).put c u)).getD i Blk.zero).pg = (L.getD i Blk.zero).pg := by
    intro i hi
    by_cases e : k = i
    · subst e
      rw [getD_set_eq _ _ _ _ hk]
      rcases hc with ⟨rfl, n, rfl⟩ | ⟨rfl, n, rfl⟩ | ⟨rfl, n, rfl⟩ <;> rfl
    · rw [getD_set_ne _ _ _ _ _ e]
  refine ⟨h.low, h.high, fun j => by rw [World.frozen?_setCell]; exact h.free j, fun i hi => ?_, fun i hi => ?_, fun i j hi hj hne => h.apart i j (by simpa using hi) (by simpa using hj) hne⟩
  · rw [List.length_set] at hi
    have hr := h.row i hi
    by_cases e : k = i
    · subst e
      rw [getD_set_eq _ _ _ _ hk]
      obtain ⟨r0, r1, r2, r3⟩ := hr
      have o : ∀ j t, j ≠ c → w.cell? ⟨g, k * 4 + j, none⟩ = some t → (w.setCell ⟨g, k * 4 + c, none⟩ u).cell? ⟨g, k * 4 + j, none⟩ = some t := fun j t hj ht => by rw [World.cell?_setCell_other w _ _ _ (addr_ne fun _ => by omega)]; exact ht
      rcases hc with ⟨rfl, n, rfl⟩ | ⟨rfl, n, rfl⟩ | ⟨rfl, n, rfl⟩
      · exact ⟨World.cell?_setCell_same w _ _ r0, o 1 _ (by omega) r1, o 2 _ (by omega) r2, o 3 _ (by omega) r3⟩
      · exact ⟨o 0 _ (by omega) r0, World.cell?_setCell_same w _ _ r1, o 2 _ (by omega) r2, o 3 _ (by omega) r3⟩
      · exact ⟨o 0 _ (by omega) r0, o 1 _ (by omega) r1, World.cell?_setCell_same w _ _ r2, o 3 _ (by omega) r3⟩
    · rw [getD_set_ne _ _ _ _ _ e]
      have o : ∀ j t, j < 4 → w.cell? ⟨g, i * 4 + j, none⟩ = some t → (w.setCell ⟨g, k * 4 + c, none⟩ u).cell? ⟨g, i * 4 + j, none⟩ = some t := fun j t hj ht => by rw [World.cell?_setCell_other w _ _ _ (addr_ne fun _ => by omega)]; exact ht
      exact ⟨o 0 _ (by omega) hr.1, o 1 _ (by omega) hr.2.1, o 2 _ (by omega) hr.2.2.1, o 3 _ (by omega) hr.2.2.2⟩
  · rw [List.length_set] at hi
    rw [hpg i hi]
    exact (h.pgs i hi).far _ _
/-- A store into page n of block k. -/
theorem BO.storePg {pv : Nat → Value} {L : List Blk} (h : BO w lo hi g pv L) {k n b off len cap : Nat} (hk : k < L.length) (hn : n < len) (hv : pv k = .slice (some ⟨b, off, none⟩) len cap) (s : ByteArray) (hs : s.size ≤ 9223372036854775807) :
    BO (w.setCell ⟨b, off + n, none⟩ (.string s)) lo hi g pv (L.set k { L.getD k Blk.zero with pg := (L.getD k Blk.zero).pg.set n s }) := by
  have hbg : b ≠ g := by
    obtain ⟨A, l', c', e, _, _, _, _, hx⟩ := h.pgs k hk
    rw [hv] at e
    injection e with e1 e2 e3
    subst e2
    obtain ⟨b', o', e4, _, _, h6, _⟩ := hx (by omega)
    rw [e4] at e1
    injection e1 with e1
    injection e1 with e1
    omega
  refine ⟨h.low, h.high, fun j => by rw [World.frozen?_setCell]; exact h.free j, fun i hi => ?_, fun i hi => ?_, fun i j hi hj hne => h.apart i j (by simpa using hi) (by simpa using hj) hne⟩
  · rw [List.length_set] at hi
    have hr := h.row i hi
    have o : ∀ j t, w.cell? ⟨g, j, none⟩ = some t → (w.setCell ⟨b, off + n, none⟩ (.string s)).cell? ⟨g, j, none⟩ = some t := fun j t ht => by rw [World.cell?_setCell_other w _ _ _ (addr_ne fun e => absurd e hbg)]; exact ht
    have hr2 : BkAt (w.setCell ⟨b, off + n, none⟩ (.string s)) g (i * 4) (L.getD i Blk.zero) (pv i) := ⟨o _ _ hr.1, o _ _ hr.2.1, o _ _ hr.2.2.1, o _ _ hr.2.2.2⟩
    by_cases e : k = i
    · subst e
      rw [getD_set_eq _ _ _ _ hk]
      exact hr2
    · rw [getD_set_ne _ _ _ _ _ e]
      exact hr2
  · rw [List.length_set] at hi
    by_cases e : k = i
    · subst e
      rw [getD_set_eq _ _ _ _ hk]
      obtain ⟨A, l', c', e, h1, h2, h3, h4, hx⟩ := h.pgs k hk
      rw [hv] at e
      injection e with e1 e2 e3
      subst e1 e2 e3
      refine ⟨_, _, _, hv, h1, h2, by simpa using h3, fun i hi => ?_, fun h0 => ?_⟩
      · show ((List.set _ n s).getD i ByteArray.empty).size ≤ _
        by_cases e : n = i
        · subst e; rw [getD_set_eq _ _ _ _ (by omega)]; exact hs
        · rw [getD_set_ne _ _ _ _ _ e]; exact h4 i hi
      · obtain ⟨b', o', e4, h5, h6, h7, hf, hc⟩ := hx h0
        injection e4 with e4
        injection e4 with e4 e5
        subst e4 e5
        refine ⟨_, _, rfl, h5, h6, h7, fun j => by rw [World.frozen?_setCell]; exact hf j, fun i hi => ?_⟩
        show _ = some (Value.string ((List.set _ n s).getD i ByteArray.empty))
        by_cases e : n = i
        · subst e; rw [getD_set_eq _ _ _ _ (by omega)]; exact World.cell?_setCell_same w _ _ (hc n hi)
        · rw [getD_set_ne _ _ _ _ _ e, World.cell?_setCell_other w _ _ _ (addr_ne fun _ => by omega)]; exact hc i hi
    · rw [getD_set_ne _ _ _ _ _ e]
      obtain ⟨A, l', c', e', h1, h2, h3, h4, hx⟩ := h.pgs i hi
      refine ⟨A, l', c', e', h1, h2, h3, h4, fun h0 => ?_⟩
      obtain ⟨b', o', rfl, h5, h6, h7, hf, hc⟩ := hx h0
      have ha := h.apart k i hk hi e _ _ _ _ _ _ hv e' (by omega) h0
      refine ⟨b', o', rfl, h5, h6, h7, fun j => by rw [World.frozen?_setCell]; exact hf j, fun j hj => ?_⟩
      rw [World.cell?_setCell_other w _ _ _ (addr_ne fun e2 => ?_)]
      · exact hc j hj
      · simp only at ha; omega
/-- Slices in other blocks share nothing. -/
theorem PgOwn.apart {lo mid hi g g' : Nat} {v u : Value} {L M : List ByteArray} (h : PgOwn w lo mid g v L) (k : PgOwn w mid hi g' u M) : Apart v u := by
  intro a n c a' n' c' e1 e2 h1 h2
  obtain ⟨A, l, c1, e, _, _, _, _, hx⟩ := h
  obtain ⟨A', l', c1', e', _, _, _, _, hx'⟩ := k
  rw [e1] at e
  rw [e2] at e'
  injection e with p1 p2 p3
  injection e' with q1 q2 q3
  subst p2 q2
  obtain ⟨b, o, rfl, _, h5, _⟩ := hx h1
  obtain ⟨b', o', rfl, h6, _, _⟩ := hx' h2
  injection p1 with p1
  injection q1 with q1
  subst p1 q1
  left
  simp only
  omega
/-- Block k of the row gets a new content. -/
theorem BO.fill {pv : Nat → Value} {L : List Blk} {mid : Nat} (h : BO w lo mid g pv L) {k : Nat} (hk : k < L.length) (x : Blk) (u : Value) (hu : PgOwn w mid hi g u x.pg) (hm : mid ≤ hi) :
    BO ((((w.setCell ⟨g, k * 4, none⟩ (.int .i64 x.er)).setCell ⟨g, k * 4 + 1, none⟩ (.int .i64 x.nx)).setCell ⟨g, k * 4 + 2, none⟩ (.bool x.bad)).setCell ⟨g, k * 4 + 3, none⟩ u) lo hi g (fun i => if i = k then u else pv i) (L.set k x) := by
  have h1 := h.low
  have h2 := h.high
  refine ⟨h.low, by omega, fun j => by simp only [World.frozen?_setCell]; exact h.free j, fun i hi' => ?_, fun i hi' => ?_, fun i j hi' hj hne => ?_⟩
  · rw [List.length_set] at hi'
    by_cases e : i = k
    · subst e
      rw [getD_set_eq _ _ _ _ hk, if_pos rfl]
      obtain ⟨r0, r1, r2, r3⟩ := h.row i hi'
      refine ⟨?_, ?_, ?_, ?_⟩
      · rw [World.cell?_setCell_other _ _ _ _ (addr_ne fun _ => by omega), World.cell?_setCell_other _ _ _ _ (addr_ne fun _ => by omega), World.cell?_setCell_other _ _ _ _ (addr_ne fun _ => by omega)]
        exact World.cell?_setCell_same w _ _ r0
      · rw [World.cell?_setCell_other _ _ _ _ (addr_ne fun _ => by omega), World.cell?_setCell_other _ _ _ _ (addr_ne fun _ => by omega)]
        exact World.cell?_setCell_same _ _ _ ((World.cell?_setCell_other w _ _ _ (addr_ne fun _ => by omega)).trans r1)
      · rw [World.cell?_setCell_other _ _ _ _ (addr_ne fun _ => by omega)]
        exact World.cell?_setCell_same _ _ _ ((World.cell?_setCell_other _ _ _ _ (addr_ne fun _ => by omega)).trans ((World.cell?_setCell_other w _ _ _ (addr_ne fun _ => by omega)).trans r2))
      · exact World.cell?_setCell_same _ _ _ ((World.cell?_setCell_other _ _ _ _ (addr_ne fun _ => by omega)).trans ((World.cell?_setCell_other _ _ _ _ (addr_ne fun _ => by omega)).trans ((World.cell?_setCell_other w _ _ _ (addr_ne fun _ => by omega)).trans r3)))
    · rw [getD_set_ne _ _ _ _ _ (fun e' => e e'.symm), if_neg e]
      obtain ⟨r0, r1, r2, r3⟩ := h.row i hi'
      have o : ∀ j t, j < 4 → w.cell? ⟨g, i * 4 + j, none⟩ = some t → ((((w.setCell ⟨g, k * 4, none⟩ (.int .i64 x.er)).setCell ⟨g, k * 4 + 1, none⟩ (.int .i64 x.nx)).setCell ⟨g, k * 4 + 2, none⟩ (.bool x.bad)).setCell ⟨g, k * 4 + 3, none⟩ u).cell? ⟨g, i * 4 + j, none⟩ = some t := fun j t hj ht => by
        rw [World.cell?_setCell_other _ _ _ _ (addr_ne fun _ => by omega), World.cell?_setCell_other _ _ _ _ (addr_ne fun _ => by omega), World.cell?_setCell_other _ _ _ _ (addr_ne fun _ => by omega), World.cell?_setCell_other _ _ _ _ (addr_ne fun _ => by omega)]; exact ht
      exact ⟨o 0 _ (by omega) r0, o 1 _ (by omega) r1, o 2 _ (by omega) r2, o 3 _ (by omega) r3⟩
  · rw [List.length_set] at hi'
    by_cases e : i = k
    · subst e
      rw [getD_set_eq _ _ _ _ hk, if_pos rfl]
      exact ((((hu.far _ _).far _ _).far _ _).far _ _).wide (by omega) (Nat.le_refl _)
    · rw [getD_set_ne _ _ _ _ _ (fun e' => e e'.symm), if_neg e]
      exact (((((h.pgs i hi').wide (Nat.le_refl _) hm).far _ _).far _ _).far _ _).far _ _
  · rw [List.length_set] at hi' hj
    by_cases e : i = k
    · by_cases e2 : j = k
      · omega
      · rw [if_pos e, if_neg e2]
        exact ((h.pgs j hj).apart hu).symm
    · by_cases e2 : j = k
      · rw [if_neg e, if_pos e2]
        exact (h.pgs i hi').apart hu
      · rw [if_neg e, if_neg e2]
        exact h.apart i j hi' hj hne
/-- A row that was just made: blocks without pages. -/
theorem BO.made {B n : Nat} {E : TypeId} (h : w.ownsRow B E 4 (.slice (some ⟨g, 0, none⟩) n n) n (madeCells #[.int .i64 0, .int .i64 0, .bool false, .slice none 0 0] (n * 4)).toList) (hg : g < w.heap.size) (hB : B ≤ g) :
    BO w B w.heap.size g (fun _ => .slice none 0 0) (List.replicate n Blk.zero) := by
  have hx : ∀ i, (List.replicate n Blk.zero).getD i Blk.zero = Blk.zero := fun i => by
    rw [List.getD_eq_getElem?_getD, List.getElem?_replicate]; split <;> rfl
  have hc : ∀ i c, i < n → c < 4 → w.cell? ⟨g, i * 4 + c, none⟩ = some ((#[Value.int .i64 0, .int .i64 0, .bool false, .slice none 0 0] : Array Value)[c]!) := fun i c hi hc => by
    rw [World.ownsRow.cellAt h _ (by omega)]
    have e : (i * 4 + c) % 4 = c := by omega
    simp [madeCells, show i * 4 + c < n * 4 by omega, e]
  refine ⟨hB, hg, World.ownsRow.frozenAt h, fun i hi => ?_, fun i hi => ?_, fun i j hi hj _ => ?_⟩
  · rw [hx]
    rw [List.length_replicate] at hi
    exact ⟨hc i 0 hi (by omega), hc i 1 hi (by omega), hc i 2 hi (by omega), hc i 3 hi (by omega)⟩
  · rw [hx]
    exact ⟨none, 0, 0, rfl, Nat.le_refl _, by omega, rfl, fun i hi => by omega, fun h => by omega⟩
  · intro a n c a' n' c' e; cases e
theorem set_fill (L : List Blk) (n k : Nat) (hn : L.length = n) (h : k < n) : (L.take k ++ List.replicate (n - k) Blk.zero).set k (L.getD k Blk.zero) = L.take (k + 1) ++ List.replicate (n - (k + 1)) Blk.zero := by
  subst hn
  rw [List.set_append_right _ _ (by simp; omega), List.length_take, Nat.min_eq_left (by omega), Nat.sub_self, show L.length - k = (L.length - (k + 1)) + 1 by omega, List.replicate_succ, List.set_cons_zero, List.take_succ_eq_append_getElem h, List.append_assoc, List.getD_eq_getElem?_getD, List.getElem?_eq_getElem h]; rfl
/-- A page's cell. -/
theorem BO.page {pv : Nat → Value} {L : List Blk} (h : BO w lo hi g pv L) {k t b off n cap : Nat} (hk : k < L.length) (hv : pv k = .slice (some ⟨b, off, none⟩) n cap) (ht : t < n) :
    w.cell? ⟨b, off + t, none⟩ = some (.string ((L.getD k Blk.zero).pg.getD t ByteArray.empty)) ∧ w.frozen? ⟨b, off + t, none⟩ = false ∧ lo ≤ b ∧ b < hi ∧ ((L.getD k Blk.zero).pg.getD t ByteArray.empty).size ≤ 9223372036854775807 := by
  obtain ⟨A, l', c', e, h1, h2, h3, h4, hx⟩ := h.pgs k hk
  rw [hv] at e
  injection e with e1 e2 e3
  subst e1 e2 e3
  obtain ⟨b', o', e4, h5, h6, h7, hf, hc⟩ := hx (by omega)
  injection e4 with e4
  injection e4 with e4 e5
  subst e4 e5
  exact ⟨hc t ht, hf _, h5, h6, h4 t ht⟩
theorem BO.pageLen {pv : Nat → Value} {L : List Blk} (h : BO w lo hi g pv L) {k : Nat} (hk : k < L.length) {A : Option Addr} {n cap : Nat} (hv : pv k = .slice A n cap) : (L.getD k Blk.zero).pg.length = n := by
  obtain ⟨A, l', c', e, h1, h2, h3, h4, hx⟩ := h.pgs k hk
  rw [hv] at e
  injection e with e1 e2 e3
  omega
end
end Go.Proofs.Ytainlanblpccjaa
