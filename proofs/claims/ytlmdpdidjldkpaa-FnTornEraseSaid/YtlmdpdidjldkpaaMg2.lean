/- The proof's own lemmas, part 3 of 7: FlM Rw Strs FlA FlG FlF FlQ FlK FlR FlV FlW. -/
import Derived.Test.YtlmdpdidjldkpaaProg
import Derived.Test.YtlmdpdidjldkpaaMg0
import Derived.WalkKit
import Derived.ProofKit
import Derived.Lib.Hide
import Derived.Laws.MakeOwn
import Derived.BigQuiet
import Derived.Deep.QuietTactic
import Derived.Deep.DeepMust
import Derived.Deep.RegionHeld3
import Derived.StillTailTactics
/- Arrays in memory: what is read, what the call itself owns; the laws of frames and stores. -/
namespace Go.Proofs.Ytlmdpdidjldkpaa
open Go.RowKit
set_option linter.unusedVariables false

/-- In both worlds the blocks from lo up to hi are alike. -/
def Same (lo hi : Nat) (w w' : World) : Prop := ∀ j, lo ≤ j → j < hi → w'.heap[j]? = w.heap[j]?
section
variable {w w' : World} {lo hi B : Nat}
theorem Same.cell (h : Same lo hi w w') {p : Addr} (h1 : lo ≤ p.block) (h2 : p.block < hi) : w'.cell? p = w.cell? p := World.cell?_of_block (w := w) (h p.block h1 h2)
theorem Same.frozen (h : Same lo hi w w') {p : Addr} (h1 : lo ≤ p.block) (h2 : p.block < hi) : w'.frozen? p = w.frozen? p := World.frozen?_of_block (w := w) (h p.block h1 h2)
theorem sm (h : Below B w w') (lo : Nat) {hi : Nat} (hB : hi ≤ B) : Same lo hi w w' := fun j _ h2 => h.block j (by omega)
theorem Same.setCell (h : Same lo hi w w') {p : Addr} (hp : p.block < lo ∨ hi ≤ p.block) (u : Value) : Same lo hi w (w'.setCell p u) := fun j h1 h2 => (Below.heap_setCell w' p u j (by omega)).trans (h j h1 h2)
theorem sset (h : Same lo hi w w') {g k : Nat} (hp : g < lo ∨ hi ≤ g) (u : Value) : Same lo hi w (w'.setCell ⟨g, k, none⟩ u) := h.setCell (p := ⟨g, k, none⟩) hp u
theorem Same.refl (lo hi : Nat) (w : World) : Same lo hi w w := fun _ _ _ => rfl
theorem Same.trans {w'' : World} (h : Same lo hi w w') (k : Same lo hi w' w'') : Same lo hi w w'' := fun j h1 h2 => (k j h1 h2).trans (h j h1 h2)
theorem Same.mono {lo' hi' : Nat} (h : Same lo hi w w') (h1 : lo ≤ lo') (h2 : hi' ≤ hi) : Same lo' hi' w w' := fun j a b => h j (by omega) (by omega)
end

/-- The value v is a slice, in the blocks from lo up to hi, that reads as the texts L. -/
def PgIn (w : World) (lo hi : Nat) (v : Value) (L : List ByteArray) : Prop :=
  ∃ A len cap, v = .slice A len cap ∧ len ≤ cap ∧ cap ≤ 9223372036854775807 ∧ L.length = len ∧ (∀ i, i < len → (L.getD i ByteArray.empty).size ≤ 9223372036854775807) ∧
    (0 < len → ∃ b off, A = some ⟨b, off, none⟩ ∧ lo ≤ b ∧ b < hi ∧ ∀ i, i < len → w.cell? ⟨b, off + i, none⟩ = some (.string (L.getD i ByteArray.empty)))
/-- The four cells of a block. -/
def BkAt (w : World) (g o : Nat) (x : Blk) (pv : Value) : Prop :=
  w.cell? ⟨g, o, none⟩ = some (.int .i64 x.er) ∧ w.cell? ⟨g, o + 1, none⟩ = some (.int .i64 x.nx) ∧ w.cell? ⟨g, o + 2, none⟩ = some (.bool x.bad) ∧ w.cell? ⟨g, o + 3, none⟩ = some pv
/-- The value v is a slice that reads as the blocks L. -/
def BksIn (w : World) (lo hi : Nat) (v : Value) (L : List Blk) : Prop :=
  ∃ A len cap, v = .slice A len cap ∧ len ≤ cap ∧ cap ≤ 9223372036854775807 ∧ L.length = len ∧
    (0 < len → ∃ g off, A = some ⟨g, off, none⟩ ∧ lo ≤ g ∧ g < hi ∧ ∀ i, i < len → ∃ pv, BkAt w g (off + i * 4) (L.getD i Blk.zero) pv ∧ PgIn w lo hi pv (L.getD i Blk.zero).pg)
/-- The cells of an array whose blocks are the slice v. -/
def flc (F : Fl) (v : Value) : Array Value := #[.int .i64 F.d, .int .i64 F.b, .int .i64 F.p, v, .int .i64 F.fu, .int .i64 F.ke, .bool F.off, .int .i64 F.op]
def FlIn (w : World) (lo hi : Nat) (v : Value) (F : Fl) : Prop := ∃ u, v = .agg (flc F u) ∧ BksIn w lo hi u F.bs
section
variable {w w' : World} {lo hi lo' hi' : Nat} {v : Value}
theorem PgIn.same {L : List ByteArray} (h : PgIn w lo hi v L) (hs : Same lo hi w w') : PgIn w' lo hi v L := by
  obtain ⟨A, len, cap, e, h1, h2, h3, h4, hc⟩ := h
  refine ⟨A, len, cap, e, h1, h2, h3, h4, fun h0 => ?_⟩
  obtain ⟨b, off, e, h1, h2, hx⟩ := hc h0
  exact ⟨b, off, e, h1, h2, fun i hi => (hs.cell (p := ⟨b, off + i, none⟩) h1 h2).trans (hx i hi)⟩
theorem PgIn.wide {L : List ByteArray} (h : PgIn w lo hi v L) (hl : lo' ≤ lo) (hh : hi ≤ hi') : PgIn w lo' hi' v L := by
  obtain ⟨A, len, cap, e, h1, h2, h3, h4, hc⟩ := h
  refine ⟨A, len, cap, e, h1, h2, h3, h4, fun h0 => ?_⟩
  obtain ⟨b, off, e, h1, h2, hx⟩ := hc h0
  exact ⟨b, off, e, by omega, by omega, hx⟩
theorem BkAt.same {g o : Nat} {x : Blk} {pv : Value} (h : BkAt w g o x pv) (hs : Same lo hi w w') (h1 : lo ≤ g) (h2 : g < hi) : BkAt w' g o x pv :=
  ⟨(hs.cell (p := ⟨g, o, none⟩) h1 h2).trans h.1, (hs.cell (p := ⟨g, o + 1, none⟩) h1 h2).trans h.2.1, (hs.cell (p := ⟨g, o + 2, none⟩) h1 h2).trans h.2.2.1, (hs.cell (p := ⟨g, o + 3, none⟩) h1 h2).trans h.2.2.2⟩
theorem BksIn.same {L : List Blk} (h : BksIn w lo hi v L) (hs : Same lo hi w w') : BksIn w' lo hi v L := by
  obtain ⟨A, len, cap, e, h1, h2, h3, hc⟩ := h
  refine ⟨A, len, cap, e, h1, h2, h3, fun h0 => ?_⟩
  obtain ⟨g, off, e, h1, h2, hx⟩ := hc h0
  refine ⟨g, off, e, h1, h2, fun i hi => ?_⟩
  obtain ⟨pv, a, b⟩ := hx i hi
  exact ⟨pv, a.same hs h1 h2, b.same hs⟩
theorem BksIn.wide {L : List Blk} (h : BksIn w lo hi v L) (hl : lo' ≤ lo) (hh : hi ≤ hi') : BksIn w lo' hi' v L := by
  obtain ⟨A, len, cap, e, h1, h2, h3, hc⟩ := h
  refine ⟨A, len, cap, e, h1, h2, h3, fun h0 => ?_⟩
  obtain ⟨g, off, e, h1, h2, hx⟩ := hc h0
  refine ⟨g, off, e, by omega, by omega, fun i hi => ?_⟩
  obtain ⟨pv, a, b⟩ := hx i hi
  exact ⟨pv, a, b.wide hl hh⟩
theorem FlIn.same {F : Fl} (h : FlIn w lo hi v F) (hs : Same lo hi w w') : FlIn w' lo hi v F := by
  obtain ⟨u, e, h⟩ := h; exact ⟨u, e, h.same hs⟩
theorem FlIn.wide {F : Fl} (h : FlIn w lo hi v F) (hl : lo' ≤ lo) (hh : hi ≤ hi') : FlIn w lo' hi' v F := by
  obtain ⟨u, e, h⟩ := h; exact ⟨u, e, h.wide hl hh⟩
end

/-- A slice of texts in memory of the call's own: beside block g, nothing frozen. -/
def PgOwn (w : World) (lo hi g : Nat) (v : Value) (L : List ByteArray) : Prop :=
  ∃ A len cap, v = .slice A len cap ∧ len ≤ cap ∧ cap ≤ 9223372036854775807 ∧ L.length = len ∧ (∀ i, i < len → (L.getD i ByteArray.empty).size ≤ 9223372036854775807) ∧
    (0 < len → ∃ b off, A = some ⟨b, off, none⟩ ∧ lo ≤ b ∧ b < hi ∧ b ≠ g ∧ (∀ k, w.frozen? ⟨b, k, none⟩ = false) ∧ ∀ i, i < len → w.cell? ⟨b, off + i, none⟩ = some (.string (L.getD i ByteArray.empty)))
/-- Two slices share no cell. -/
def Apart (v u : Value) : Prop := ∀ a n c a' n' c', v = .slice (some a) n c → u = .slice (some a') n' c' → 0 < n → 0 < n' → a.block ≠ a'.block ∨ a.off + n ≤ a'.off ∨ a'.off + n' ≤ a.off
theorem Apart.symm {v u : Value} (h : Apart v u) : Apart u v := fun a n c a' n' c' e1 e2 h1 h2 => by
  rcases h a' n' c' a n c e2 e1 h2 h1 with h | h | h
  · exact .inl fun e => h e.symm
  · exact .inr (.inr h)
  · exact .inr (.inl h)
/-- Block g holds the blocks L, whose pages' slices are pv 0, pv 1, ..: all of it the call's own. -/
structure BO (w : World) (lo hi g : Nat) (pv : Nat → Value) (L : List Blk) : Prop where
  low : lo ≤ g
  high : g < hi
  free : ∀ k, w.frozen? ⟨g, k, none⟩ = false
  row : ∀ i, i < L.length → BkAt w g (i * 4) (L.getD i Blk.zero) (pv i)
  pgs : ∀ i, i < L.length → PgOwn w lo hi g (pv i) (L.getD i Blk.zero).pg
  apart : ∀ i j, i < L.length → j < L.length → i ≠ j → Apart (pv i) (pv j)
/-- The value v is a slice of blocks of the call's own. -/
def BksOwn (w : World) (lo hi : Nat) (v : Value) (L : List Blk) : Prop :=
  ∃ A len cap, v = .slice A len cap ∧ len ≤ cap ∧ cap ≤ 9223372036854775807 ∧ L.length = len ∧ (0 < len → ∃ g pv, A = some ⟨g, 0, none⟩ ∧ BO w lo hi g pv L)
def FlOwn (w : World) (lo hi : Nat) (v : Value) (F : Fl) : Prop := ∃ u, v = .agg (flc F u) ∧ BksOwn w lo hi u F.bs
section
variable {w w' : World} {lo hi lo' hi' g : Nat} {v : Value}
theorem PgOwn.same {L : List ByteArray} (h : PgOwn w lo hi g v L) (hs : Same lo hi w w') : PgOwn w' lo hi g v L := by
  obtain ⟨A, len, cap, e, h1, h2, h3, h4, hc⟩ := h
  refine ⟨A, len, cap, e, h1, h2, h3, h4, fun h0 => ?_⟩
  obtain ⟨b, off, e, h1, h2, h3, hf, hx⟩ := hc h0
  exact ⟨b, off, e, h1, h2, h3, fun k => (hs.frozen (p := ⟨b, k, none⟩) h1 h2).trans (hf k), fun i hi => (hs.cell (p := ⟨b, off + i, none⟩) h1 h2).trans (hx i hi)⟩
theorem PgOwn.wide {L : List ByteArray} (h : PgOwn w lo hi g v L) (hl : lo' ≤ lo) (hh : hi ≤ hi') : PgOwn w lo' hi' g v L := by
  obtain ⟨A, len, cap, e, h1, h2, h3, h4, hc⟩ := h
  refine ⟨A, len, cap, e, h1, h2, h3, h4, fun h0 => ?_⟩
  obtain ⟨b, off, e, h1, h2, hx⟩ := hc h0
  exact ⟨b, off, e, by omega, by omega, hx⟩
theorem PgOwn.reads {L : List ByteArray} (h : PgOwn w lo hi g v L) : PgIn w lo hi v L := by
  obtain ⟨A, len, cap, e, h1, h2, h3, h4, hc⟩ := h
  refine ⟨A, len, cap, e, h1, h2, h3, h4, fun h0 => ?_⟩
  obtain ⟨b, off, e, h1, h2, h3, hf, hx⟩ := hc h0
  exact ⟨b, off, e, h1, h2, hx⟩
theorem BO.same {pv : Nat → Value} {L : List Blk} (h : BO w lo hi g pv L) (hs : Same lo hi w w') : BO w' lo hi g pv L :=
  ⟨h.low, h.high, fun k => (hs.frozen (p := ⟨g, k, none⟩) h.low h.high).trans (h.free k), fun i hi => (h.row i hi).same hs h.low h.high, fun i hi => (h.pgs i hi).same hs, h.apart⟩
theorem BO.wide {pv : Nat → Value} {L : List Blk} (h : BO w lo hi g pv L) (hl : lo' ≤ lo) (hh : hi ≤ hi') : BO w lo' hi' g pv L :=
  ⟨Nat.le_trans hl h.low, Nat.lt_of_lt_of_le h.high hh, h.free, h.row, fun i hi => (h.pgs i hi).wide hl hh, h.apart⟩
theorem BksOwn.same {L : List Blk} (h : BksOwn w lo hi v L) (hs : Same lo hi w w') : BksOwn w' lo hi v L := by
  obtain ⟨A, len, cap, e, h1, h2, h3, hc⟩ := h
  refine ⟨A, len, cap, e, h1, h2, h3, fun h0 => ?_⟩
  obtain ⟨g, pv, e, hb⟩ := hc h0
  exact ⟨g, pv, e, hb.same hs⟩
theorem BksOwn.wide {L : List Blk} (h : BksOwn w lo hi v L) (hl : lo' ≤ lo) (hh : hi ≤ hi') : BksOwn w lo' hi' v L := by
  obtain ⟨A, len, cap, e, h1, h2, h3, hc⟩ := h
  refine ⟨A, len, cap, e, h1, h2, h3, fun h0 => ?_⟩
  obtain ⟨g, pv, e, hb⟩ := hc h0
  exact ⟨g, pv, e, hb.wide hl hh⟩
theorem BksOwn.reads {L : List Blk} (h : BksOwn w lo hi v L) : BksIn w lo hi v L := by
  obtain ⟨A, len, cap, e, h1, h2, h3, hc⟩ := h
  refine ⟨A, len, cap, e, h1, h2, h3, fun h0 => ?_⟩
  obtain ⟨g, pv, e, hb⟩ := hc h0
  refine ⟨g, 0, e, hb.low, hb.high, fun i hi => ⟨pv i, ?_, (hb.pgs i (by omega)).reads⟩⟩
  rw [Nat.zero_add]; exact hb.row i (by omega)
theorem FlOwn.same {F : Fl} (h : FlOwn w lo hi v F) (hs : Same lo hi w w') : FlOwn w' lo hi v F := by
  obtain ⟨u, e, h⟩ := h; exact ⟨u, e, h.same hs⟩
theorem FlOwn.wide {F : Fl} (h : FlOwn w lo hi v F) (hl : lo' ≤ lo) (hh : hi ≤ hi') : FlOwn w lo' hi' v F := by
  obtain ⟨u, e, h⟩ := h; exact ⟨u, e, h.wide hl hh⟩
theorem FlOwn.reads {F : Fl} (h : FlOwn w lo hi v F) : FlIn w lo hi v F := by
  obtain ⟨u, e, h⟩ := h; exact ⟨u, e, h.reads⟩
theorem FlOwn.zero (w : World) (lo hi : Nat) : FlOwn w lo hi (.agg (flc Fl.zero (.slice none 0 0))) Fl.zero := ⟨_, rfl, none, 0, 0, rfl, Nat.le_refl _, by omega, rfl, fun h => by omega⟩
/-- A store into a field of block k. -/
theorem getD_set_eq {α : Type} (L : List α) (k : Nat) (x d : α) (h : k < L.length) : (L.set k x).getD k d = x := by simp [List.getD_eq_getElem?_getD, h]
theorem getD_set_ne {α : Type} (L : List α) (k i : Nat) (x d : α) (h : k ≠ i) : (L.set k x).getD i d = L.getD i d := by simp [List.getD_eq_getElem?_getD, List.getElem?_set_ne h]
theorem addr_ne {g g' o o' : Nat} (h : g = g' → o ≠ o') : (⟨g, o, none⟩ : Addr) ≠ ⟨g', o', none⟩ := fun e => by injection e with h1 h2; exact h h1 h2
theorem PgOwn.far {L : List ByteArray} (h : PgOwn w lo hi g v L) (k : Nat) (u : Value) : PgOwn (w.setCell ⟨g, k, none⟩ u) lo hi g v L := by
  obtain ⟨A, len, cap, e, h1, h2, h3, h4, hc⟩ := h
  refine ⟨A, len, cap, e, h1, h2, h3, h4, fun h0 => ?_⟩
  obtain ⟨b, off, e, h1, h2, h3, hf, hx⟩ := hc h0
  exact ⟨b, off, e, h1, h2, h3, fun k => by rw [World.frozen?_setCell]; exact hf k, fun i hi => by rw [World.cell?_setCell_other w _ _ _ (addr_ne fun e => absurd e.symm h3)]; exact hx i hi⟩
/-- What a store of the value u into cell c (0 .. 3) of a block makes of it. -/
def Blk.put (x : Blk) : Nat → Value → Blk
  | 0, .int .i64 n => { x with er := n }
  | 1, .int .i64 n => { x with nx := n }
  | 2, .bool b => { x with bad := b }
  | _, _ => x
theorem BO.store {pv : Nat → Value} {L : List Blk} (h : BO w lo hi g pv L) {k c : Nat} (hk : k < L.length) (u : Value) (hc : (c = 0 ∧ ∃ n, u = .int .i64 n) ∨ (c = 1 ∧ ∃ n, u = .int .i64 n) ∨ (c = 2 ∧ ∃ b, u = .bool b)) :
    BO (w.setCell ⟨g, k * 4 + c, none⟩ u) lo hi g pv (L.set k ((L.getD k Blk.zero).put c u)) := by
  have hc3 : c < 3 := by omega
  have hpg : ∀ i, i < L.length → ((L.set k ((L.getD k Blk.zero).put c u)).getD i Blk.zero).pg = (L.getD i Blk.zero).pg := by
    intro i hi
    by_cases e : k = i
    · subst e
      rw [getD_set_eq _ _ _ _ hk]
      rcases hc with ⟨rfl, n, rfl⟩ | ⟨rfl, n, rfl⟩ | ⟨rfl, n, rfl⟩ <;> rfl
    · rw [getD_set_ne _ _ _ _ _ e]
  refine ⟨h.low, h.high, fun j => by rw [World.frozen?_setCell]; exact h.free j, fun i hi => ?_, fun i hi => ?_, fun i j hi hj hne => h.apart i j (by simpa using hi) (by simpa using hj) hne⟩
  · rw [List.length_set] at hi
    have hr := h.row i hi
    by_cases e : k = i
    · subst e
      rw [getD_set_eq _ _ _ _ hk]
      obtain ⟨r0, r1, r2, r3⟩ := hr
      have o : ∀ j t, j ≠ c → w.cell? ⟨g, k * 4 + j, none⟩ = some t → (w.setCell ⟨g, k * 4 + c, none⟩ u).cell? ⟨g, k * 4 + j, none⟩ = some t := fun j t hj ht => by rw [World.cell?_setCell_other w _ _ _ (addr_ne fun _ => by omega)]; exact ht
      rcases hc with ⟨rfl, n, rfl⟩ | ⟨rfl, n, rfl⟩ | ⟨rfl, n, rfl⟩
      · exact ⟨World.cell?_setCell_same w _ _ r0, o 1 _ (by omega) r1, o 2 _ (by omega) r2, o 3 _ (by omega) r3⟩
      · exact ⟨o 0 _ (by omega) r0, World.cell?_setCell_same w _ _ r1, o 2 _ (by omega) r2, o 3 _ (by omega) r3⟩
      · exact ⟨o 0 _ (by omega) r0, o 1 _ (by omega) r1, World.cell?_setCell_same w _ _ r2, o 3 _ (by omega) r3⟩
    · rw [getD_set_ne _ _ _ _ _ e]
      have o : ∀ j t, j < 4 → w.cell? ⟨g, i * 4 + j, none⟩ = some t → (w.setCell ⟨g, k * 4 + c, none⟩ u).cell? ⟨g, i * 4 + j, none⟩ = some t := fun j t hj ht => by rw [World.cell?_setCell_other w _ _ _ (addr_ne fun _ => by omega)]; exact ht
      exact ⟨o 0 _ (by omega) hr.1, o 1 _ (by omega) hr.2.1, o 2 _ (by omega) hr.2.2.1, o 3 _ (by omega) hr.2.2.2⟩
  · rw [List.length_set] at hi
    rw [hpg i hi]
    exact (h.pgs i hi).far _ _
/-- A store into page n of block k. -/
theorem BO.storePg {pv : Nat → Value} {L : List Blk} (h : BO w lo hi g pv L) {k n b off len cap : Nat} (hk : k < L.length) (hn : n < len) (hv : pv k = .slice (some ⟨b, off, none⟩) len cap) (s : ByteArray) (hs : s.size ≤ 9223372036854775807) :
    BO (w.setCell ⟨b, off + n, none⟩ (.string s)) lo hi g pv (L.set k { L.getD k Blk.zero with pg := (L.getD k Blk.zero).pg.set n s }) := by
  have hbg : b ≠ g := by
    obtain ⟨A, l', c', e, _, _, _, _, hx⟩ := h.pgs k hk
    rw [hv] at e
    injection e with e1 e2 e3
    subst e2
    obtain ⟨b', o', e4, _, _, h6, _⟩ := hx (by omega)
    rw [e4] at e1
    injection e1 with e1
    injection e1 with e1
    omega
  refine ⟨h.low, h.high, fun j => by rw [World.frozen?_setCell]; exact h.free j, fun i hi => ?_, fun i hi => ?_, fun i j hi hj hne => h.apart i j (by simpa using hi) (by simpa using hj) hne⟩
  · rw [List.length_set] at hi
    have hr := h.row i hi
    have o : ∀ j t, w.cell? ⟨g, j, none⟩ = some t → (w.setCell ⟨b, off + n, none⟩ (.string s)).cell? ⟨g, j, none⟩ = some t := fun j t ht => by rw [World.cell?_setCell_other w _ _ _ (addr_ne fun e => absurd e hbg)]; exact ht
    have hr2 : BkAt (w.setCell ⟨b, off + n, none⟩ (.string s)) g (i * 4) (L.getD i Blk.zero) (pv i) := ⟨o _ _ hr.1, o _ _ hr.2.1, o _ _ hr.2.2.1, o _ _ hr.2.2.2⟩
    by_cases e : k = i
    · subst e
      rw [getD_set_eq _ _ _ _ hk]
      exact hr2
    · rw [getD_set_ne _ _ _ _ _ e]
      exact hr2
  · rw [List.length_set] at hi
    by_cases e : k = i
    · subst e
      rw [getD_set_eq _ _ _ _ hk]
      obtain ⟨A, l', c', e, h1, h2, h3, h4, hx⟩ := h.pgs k hk
      rw [hv] at e
      injection e with e1 e2 e3
      subst e1 e2 e3
      refine ⟨_, _, _, hv, h1, h2, by simpa using h3, fun i hi => ?_, fun h0 => ?_⟩
      · show ((List.set _ n s).getD i ByteArray.empty).size ≤ _
        by_cases e : n = i
        · subst e; rw [getD_set_eq _ _ _ _ (by omega)]; exact hs
        · rw [getD_set_ne _ _ _ _ _ e]; exact h4 i hi
      · obtain ⟨b', o', e4, h5, h6, h7, hf, hc⟩ := hx h0
        injection e4 with e4
        injection e4 with e4 e5
        subst e4 e5
        refine ⟨_, _, rfl, h5, h6, h7, fun j => by rw [World.frozen?_setCell]; exact hf j, fun i hi => ?_⟩
        show _ = some (Value.string ((List.set _ n s).getD i ByteArray.empty))
        by_cases e : n = i
        · subst e; rw [getD_set_eq _ _ _ _ (by omega)]; exact World.cell?_setCell_same w _ _ (hc n hi)
        · rw [getD_set_ne _ _ _ _ _ e, World.cell?_setCell_other w _ _ _ (addr_ne fun _ => by omega)]; exact hc i hi
    · rw [getD_set_ne _ _ _ _ _ e]
      obtain ⟨A, l', c', e', h1, h2, h3, h4, hx⟩ := h.pgs i hi
      refine ⟨A, l', c', e', h1, h2, h3, h4, fun h0 => ?_⟩
      obtain ⟨b', o', rfl, h5, h6, h7, hf, hc⟩ := hx h0
      have ha := h.apart k i hk hi e _ _ _ _ _ _ hv e' (by omega) h0
      refine ⟨b', o', rfl, h5, h6, h7, fun j => by rw [World.frozen?_setCell]; exact hf j, fun j hj => ?_⟩
      rw [World.cell?_setCell_other w _ _ _ (addr_ne fun e2 => ?_)]
      · exact hc j hj
      · simp only at ha; omega
/-- Slices in other blocks share nothing. -/
theorem PgOwn.apart {lo mid hi g g' : Nat} {v u : Value} {L M : List ByteArray} (h : PgOwn w lo mid g v L) (k : PgOwn w mid hi g' u M) : Apart v u := by
  intro a n c a' n' c' e1 e2 h1 h2
  obtain ⟨A, l, c1, e, _, _, _, _, hx⟩ := h
  obtain ⟨A', l', c1', e', _, _, _, _, hx'⟩ := k
  rw [e1] at e
  rw [e2] at e'
  injection e with p1 p2 p3
  injection e' with q1 q2 q3
  subst p2 q2
  obtain ⟨b, o, rfl, _, h5, _⟩ := hx h1
  obtain ⟨b', o', rfl, h6, _, _⟩ := hx' h2
  injection p1 with p1
  injection q1 with q1
  subst p1 q1
  left
  simp only
  omega
/-- Block k of the row gets a new content. -/
theorem BO.fill {pv : Nat → Value} {L : List Blk} {mid : Nat} (h : BO w lo mid g pv L) {k : Nat} (hk : k < L.length) (x : Blk) (u : Value) (hu : PgOwn w mid hi g u x.pg) (hm : mid ≤ hi) :
    BO ((((w.setCell ⟨g, k * 4, none⟩ (.int .i64 x.er)).setCell ⟨g, k * 4 + 1, none⟩ (.int .i64 x.nx)).setCell ⟨g, k * 4 + 2, none⟩ (.bool x.bad)).setCell ⟨g, k * 4 + 3, none⟩ u) lo hi g (fun i => if i = k then u else pv i) (L.set k x) := by
  have h1 := h.low
  have h2 := h.high
  refine ⟨h.low, by omega, fun j => by simp only [World.frozen?_setCell]; exact h.free j, fun i hi' => ?_, fun i hi' => ?_, fun i j hi' hj hne => ?_⟩
  · rw [List.length_set] at hi'
    by_cases e : i = k
    · subst e
      rw [getD_set_eq _ _ _ _ hk, if_pos rfl]
      obtain ⟨r0, r1, r2, r3⟩ := h.row i hi'
      refine ⟨?_, ?_, ?_, ?_⟩
      · rw [World.cell?_setCell_other _ _ _ _ (addr_ne fun _ => by omega), World.cell?_setCell_other _ _ _ _ (addr_ne fun _ => by omega), World.cell?_setCell_other _ _ _ _ (addr_ne fun _ => by omega)]
        exact World.cell?_setCell_same w _ _ r0
      · rw [World.cell?_setCell_other _ _ _ _ (addr_ne fun _ => by omega), World.cell?_setCell_other _ _ _ _ (addr_ne fun _ => by omega)]
        exact World.cell?_setCell_same _ _ _ ((World.cell?_setCell_other w _ _ _ (addr_ne fun _ => by omega)).trans r1)
      · rw [World.cell?_setCell_other _ _ _ _ (addr_ne fun _ => by omega)]
        exact World.cell?_setCell_same _ _ _ ((World.cell?_setCell_other _ _ _ _ (addr_ne fun _ => by omega)).trans ((World.cell?_setCell_other w _ _ _ (addr_ne fun _ => by omega)).trans r2))
      · exact World.cell?_setCell_same _ _ _ ((World.cell?_setCell_other _ _ _ _ (addr_ne fun _ => by omega)).trans ((World.cell?_setCell_other _ _ _ _ (addr_ne fun _ => by omega)).trans ((World.cell?_setCell_other w _ _ _ (addr_ne fun _ => by omega)).trans r3)))
    · rw [getD_set_ne _ _ _ _ _ (fun e' => e e'.symm), if_neg e]
      obtain ⟨r0, r1, r2, r3⟩ := h.row i hi'
      have o : ∀ j t, j < 4 → w.cell? ⟨g, i * 4 + j, none⟩ = some t → ((((w.setCell ⟨g, k * 4, none⟩ (.int .i64 x.er)).setCell ⟨g, k * 4 + 1, none⟩ (.int .i64 x.nx)).setCell ⟨g, k * 4 + 2, none⟩ (.bool x.bad)).setCell ⟨g, k * 4 + 3, none⟩ u).cell? ⟨g, i * 4 + j, none⟩ = some t := fun j t hj ht => by
        rw [World.cell?_setCell_other _ _ _ _ (addr_ne fun _ => by omega), World.cell?_setCell_other _ _ _ _ (addr_ne fun _ => by omega), World.cell?_setCell_other _ _ _ _ (addr_ne fun _ => by omega), World.cell?_setCell_other _ _ _ _ (addr_ne fun _ => by omega)]; exact ht
      exact ⟨o 0 _ (by omega) r0, o 1 _ (by omega) r1, o 2 _ (by omega) r2, o 3 _ (by omega) r3⟩
  · rw [List.length_set] at hi'
    by_cases e : i = k
    · subst e
      rw [getD_set_eq _ _ _ _ hk, if_pos rfl]
      exact ((((hu.far _ _).far _ _).far _ _).far _ _).wide (by omega) (Nat.le_refl _)
    · rw [getD_set_ne _ _ _ _ _ (fun e' => e e'.symm), if_neg e]
      exact (((((h.pgs i hi').wide (Nat.le_refl _) hm).far _ _).far _ _).far _ _).far _ _
  · rw [List.length_set] at hi' hj
    by_cases e : i = k
    · by_cases e2 : j = k
      · omega
      · rw [if_pos e, if_neg e2]
        exact ((h.pgs j hj).apart hu).symm
    · by_cases e2 : j = k
      · rw [if_neg e, if_pos e2]
        exact (h.pgs i hi').apart hu
      · rw [if_neg e, if_neg e2]
        exact h.apart i j hi' hj hne
/-- A row that was just made: blocks without pages. -/
theorem BO.made {B n : Nat} {E : TypeId} (h : w.ownsRow B E 4 (.slice (some ⟨g, 0, none⟩) n n) n (madeCells #[.int .i64 0, .int .i64 0, .bool false, .slice none 0 0] (n * 4)).toList) (hg : g < w.heap.size) (hB : B ≤ g) :
    BO w B w.heap.size g (fun _ => .slice none 0 0) (List.replicate n Blk.zero) := by
  have hx : ∀ i, (List.replicate n Blk.zero).getD i Blk.zero = Blk.zero := fun i => by
    rw [List.getD_eq_getElem?_getD, List.getElem?_replicate]; split <;> rfl
  have hc : ∀ i c, i < n → c < 4 → w.cell? ⟨g, i * 4 + c, none⟩ = some ((#[Value.int .i64 0, .int .i64 0, .bool false, .slice none 0 0] : Array Value)[c]!) := fun i c hi hc => by
    rw [World.ownsRow.cellAt h _ (by omega)]
    have e : (i * 4 + c) % 4 = c := by omega
    simp [madeCells, show i * 4 + c < n * 4 by omega, e]
  refine ⟨hB, hg, World.ownsRow.frozenAt h, fun i hi => ?_, fun i hi => ?_, fun i j hi hj _ => ?_⟩
  · rw [hx]
    rw [List.length_replicate] at hi
    exact ⟨hc i 0 hi (by omega), hc i 1 hi (by omega), hc i 2 hi (by omega), hc i 3 hi (by omega)⟩
  · rw [hx]
    exact ⟨none, 0, 0, rfl, Nat.le_refl _, by omega, rfl, fun i hi => by omega, fun h => by omega⟩
  · intro a n c a' n' c' e; cases e
theorem set_fill (L : List Blk) (n k : Nat) (hn : L.length = n) (h : k < n) : (L.take k ++ List.replicate (n - k) Blk.zero).set k (L.getD k Blk.zero) = L.take (k + 1) ++ List.replicate (n - (k + 1)) Blk.zero := by
  subst hn
  rw [List.set_append_right _ _ (by simp; omega), List.length_take, Nat.min_eq_left (by omega), Nat.sub_self, show L.length - k = (L.length - (k + 1)) + 1 by omega, List.replicate_succ, List.set_cons_zero, List.take_succ_eq_append_getElem h, List.append_assoc, List.getD_eq_getElem?_getD, List.getElem?_eq_getElem h]; rfl
/-- A page's cell. -/
theorem BO.page {pv : Nat → Value} {L : List Blk} (h : BO w lo hi g pv L) {k t b off n cap : Nat} (hk : k < L.length) (hv : pv k = .slice (some ⟨b, off, none⟩) n cap) (ht : t < n) :
    w.cell? ⟨b, off + t, none⟩ = some (.string ((L.getD k Blk.zero).pg.getD t ByteArray.empty)) ∧ w.frozen? ⟨b, off + t, none⟩ = false ∧ lo ≤ b ∧ b < hi ∧ ((L.getD k Blk.zero).pg.getD t ByteArray.empty).size ≤ 9223372036854775807 := by
  obtain ⟨A, l', c', e, h1, h2, h3, h4, hx⟩ := h.pgs k hk
  rw [hv] at e
  injection e with e1 e2 e3
  subst e1 e2 e3
  obtain ⟨b', o', e4, h5, h6, h7, hf, hc⟩ := hx (by omega)
  injection e4 with e4
  injection e4 with e4 e5
  subst e4 e5
  exact ⟨hc t ht, hf _, h5, h6, h4 t ht⟩
theorem BO.pageLen {pv : Nat → Value} {L : List Blk} (h : BO w lo hi g pv L) {k : Nat} (hk : k < L.length) {A : Option Addr} {n cap : Nat} (hv : pv k = .slice A n cap) : (L.getD k Blk.zero).pg.length = n := by
  obtain ⟨A, l', c', e, h1, h2, h3, h4, hx⟩ := h.pgs k hk
  rw [hv] at e
  injection e with e1 e2 e3
  omega
end
end Go.Proofs.Ytlmdpdidjldkpaa
/- A block of memory whose cells are all known (a variable of a struct's type, say). -/
namespace Go.Proofs.Ytlmdpdidjldkpaa
open Go.RowKit
/-- Block g is a row of the cells cs, none frozen. -/
def Rw (w : World) (g : Nat) (t : TypeId) (cs : Array Value) : Prop := w.heap[g]? = some (.cells cs t (0, 0))
section
variable {w w' : World} {g B : Nat} {t : TypeId} {cs : Array Value}
theorem Rw.lt (h : Rw w g t cs) : g < w.heap.size := by
  rcases Nat.lt_or_ge g w.heap.size with hlt | hge
  · exact hlt
  · unfold Rw at h; rw [Array.getElem?_eq_none hge] at h; cases h
theorem Rw.cell (h : Rw w g t cs) (j : Nat) : w.cell? ⟨g, j, none⟩ = cs[j]? := cell_of_row w g j _ t (0, 0) h
theorem Rw.free (h : Rw w g t cs) (j : Nat) : w.frozen? ⟨g, j, none⟩ = false := frozen_of_row w g j _ t h
theorem Rw.below (h : Rw w g t cs) (hb : Below B w w') (hg : g < B) : Rw w' g t cs := (hb.block g hg).trans h
theorem Rw.set_ (h : Rw w g t cs) (j : Nat) (u : Value) : Rw (w.setCell ⟨g, j, none⟩ u) g t (cs.setIfInBounds j u) := by
  unfold Rw at h ⊢; exact heap_setCell_same w g j _ t _ h
theorem Rw.far (h : Rw w g t cs) {p : Addr} (hp : g ≠ p.block) (u : Value) : Rw (w.setCell p u) g t cs := (Below.heap_setCell w p u g hp).trans h
theorem Rw.alloc (h : Rw w g t cs) (o : Obj) : Rw (w.alloc o) g t cs := (Below.heap_alloc w o g h.lt).trans h
theorem Rw.new (w : World) (t : TypeId) (cs : Array Value) : Rw (w.alloc (.cells cs t)) w.heap.size t cs := heap_alloc_new w _
theorem Rw.four {a b c d : Value} (h : Rw w g t #[a, b, c, d]) : w.cell? ⟨g, 0, none⟩ = some a ∧ w.cell? ⟨g, 1, none⟩ = some b ∧ w.cell? ⟨g, 2, none⟩ = some c ∧ w.cell? ⟨g, 3, none⟩ = some d :=
  ⟨h.cell 0, h.cell 1, h.cell 2, h.cell 3⟩
theorem Rw.three {a b c : Value} (h : Rw w g t #[a, b, c]) : w.cell? ⟨g, 0, none⟩ = some a ∧ w.cell? ⟨g, 1, none⟩ = some b ∧ w.cell? ⟨g, 2, none⟩ = some c :=
  ⟨h.cell 0, h.cell 1, h.cell 2⟩
theorem Rw.eight {a b c d e f i j : Value} (h : Rw w g t #[a, b, c, d, e, f, i, j]) : w.cell? ⟨g, 0, none⟩ = some a ∧ w.cell? ⟨g, 1, none⟩ = some b ∧ w.cell? ⟨g, 2, none⟩ = some c ∧ w.cell? ⟨g, 3, none⟩ = some d ∧
    w.cell? ⟨g, 4, none⟩ = some e ∧ w.cell? ⟨g, 5, none⟩ = some f ∧ w.cell? ⟨g, 6, none⟩ = some i ∧ w.cell? ⟨g, 7, none⟩ = some j :=
  ⟨h.cell 0, h.cell 1, h.cell 2, h.cell 3, h.cell 4, h.cell 5, h.cell 6, h.cell 7⟩
theorem Rw.frees (h : Rw w g t cs) : w.frozen? ⟨g, 0, none⟩ = false ∧ w.frozen? ⟨g, 1, none⟩ = false ∧ w.frozen? ⟨g, 2, none⟩ = false ∧ w.frozen? ⟨g, 3, none⟩ = false ∧
    w.frozen? ⟨g, 4, none⟩ = false ∧ w.frozen? ⟨g, 5, none⟩ = false ∧ w.frozen? ⟨g, 6, none⟩ = false ∧ w.frozen? ⟨g, 7, none⟩ = false :=
  ⟨h.free 0, h.free 1, h.free 2, h.free 3, h.free 4, h.free 5, h.free 6, h.free 7⟩
theorem Rw.two_new (w : World) (t1 t2 : TypeId) (c1 c2 : Array Value) : Rw ((w.alloc (.cells c1 t1)).alloc (.cells c2 t2)) w.heap.size t1 c1 ∧
    Rw ((w.alloc (.cells c1 t1)).alloc (.cells c2 t2)) (w.heap.size + 1) t2 c2 ∧ Below w.heap.size w ((w.alloc (.cells c1 t1)).alloc (.cells c2 t2)) := by
  refine ⟨(Rw.new w t1 c1).alloc _, ?_, ((Below.refl w.heap.size w).alloc (Nat.le_refl _) _).alloc (by simp) _⟩
  have := Rw.new (w.alloc (.cells c1 t1)) t2 c2
  simpa using this
theorem Rw.three_new (w : World) (t1 t2 t3 : TypeId) (c1 c2 c3 : Array Value) : Rw (((w.alloc (.cells c1 t1)).alloc (.cells c2 t2)).alloc (.cells c3 t3)) w.heap.size t1 c1 ∧
    Rw (((w.alloc (.cells c1 t1)).alloc (.cells c2 t2)).alloc (.cells c3 t3)) (w.heap.size + 1) t2 c2 ∧ Rw (((w.alloc (.cells c1 t1)).alloc (.cells c2 t2)).alloc (.cells c3 t3)) (w.heap.size + 1 + 1) t3 c3 ∧
    Below w.heap.size w (((w.alloc (.cells c1 t1)).alloc (.cells c2 t2)).alloc (.cells c3 t3)) := by
  obtain ⟨h1, h2, h3⟩ := Rw.two_new w t1 t2 c1 c2
  refine ⟨h1.alloc _, h2.alloc _, ?_, h3.alloc (by simp; omega) _⟩
  have := Rw.new ((w.alloc (.cells c1 t1)).alloc (.cells c2 t2)) t3 c3
  simpa using this
theorem Rw.farA (h : Rw w g t cs) {g' k : Nat} (hp : g ≠ g') (u : Value) : Rw (w.setCell ⟨g', k, none⟩ u) g t cs := h.far (p := ⟨g', k, none⟩) hp u
theorem bset {a : World} (h : Below B a w) {g k : Nat} (hg : B ≤ g) (u : Value) : Below B a (w.setCell ⟨g, k, none⟩ u) := h.setCell (p := ⟨g, k, none⟩) hg u
end
end Go.Proofs.Ytlmdpdidjldkpaa
/- Slices of texts: those that come in and are read, those that the call itself makes; the laws' helpers szStringS, toStringS, eqStringS. -/
namespace Go.Proofs.Ytlmdpdidjldkpaa
open Go.RowKit

/-- What is known of a slice of texts that came in. -/
def IsStrs (w : World) (a : Option Addr) (len cap : Nat) (zs : List ByteArray) : Prop :=
  (a = none ∧ len = 0 ∧ cap = 0 ∧ zs = []) ∨
  ∃ x, a = some x ∧ len ≤ cap ∧ cap ≤ maxLen ∧ zs.length = cap ∧ (∀ i, i < zs.length → w.cell? (x.add i) = some (.string (zs.getD i ByteArray.empty))) ∧ ∀ s ∈ zs, s.size ≤ maxLen
/-- The value v is a slice that reads as the texts L. -/
def StrsIn (w : World) (v : Value) (L : List ByteArray) : Prop := ∃ A len cap, v = .slice A len cap ∧ len ≤ cap ∧ cap ≤ 9223372036854775807 ∧ L.length = len ∧ (0 < len → ∃ b off, A = some ⟨b, off, none⟩ ∧ b < w.heap.size ∧ ∀ i, i < len → w.cell? ⟨b, off + i, none⟩ = some (.string (L.getD i ByteArray.empty)))
theorem StrsIn.below {w w' : World} {B : Nat} {v : Value} {L : List ByteArray} (h : StrsIn w v L) (hb : Below B w w') (hB : w.heap.size ≤ B) : StrsIn w' v L := by
  obtain ⟨A, len, cap, rfl, hlc, hcm, hl, hc⟩ := h
  refine ⟨A, len, cap, rfl, hlc, hcm, hl, fun h0 => ?_⟩
  obtain ⟨b, off, rfl, hbl, hx⟩ := hc h0
  exact ⟨b, off, rfl, by have := hb.size; omega, fun i hi => (hb.cell (p := ⟨b, off + i, none⟩) (Nat.lt_of_lt_of_le hbl hB)).trans (hx i hi)⟩
theorem IsStrs.reads {w : World} {a : Option Addr} {len cap : Nat} {zs : List ByteArray} (h : IsStrs w a len cap zs) : StrsIn w (.slice a len cap) (zs.take len) ∧ ∀ s ∈ zs.take len, s.size ≤ maxLen := by
  rcases h with ⟨rfl, rfl, rfl, rfl⟩ | ⟨x, rfl, h1, h2, h3, hc, hw⟩
  · exact ⟨⟨none, 0, 0, rfl, Nat.le_refl _, by omega, rfl, fun h => by omega⟩, fun s hs => by cases hs⟩
  · refine ⟨⟨_, len, cap, rfl, h1, by unfold maxLen at h2; omega, by simp; omega, fun h0 => ?_⟩, fun s hs => hw s (List.mem_of_mem_take hs)⟩
    obtain ⟨b, off, spot⟩ := x
    have h00 := hc 0 (by omega)
    have hspot : spot = none := by simpa [Addr.add] using World.cell?_spot h00
    subst hspot
    refine ⟨b, off, rfl, World.block_lt_of_cell? w ⟨b, off, none⟩ (by simpa [Addr.add] using h00), fun i hi => ?_⟩
    have := hc i (by omega)
    have e : (⟨b, off, none⟩ : Addr).add i = ⟨b, off + i, none⟩ := by unfold Addr.add; split <;> simp_all
    rw [e] at this
    rw [this, List.getD_eq_getElem?_getD, List.getD_eq_getElem?_getD, List.getElem?_take, if_pos hi]
/-- The value v is a slice of the call's own (in a block from B on) that holds the texts L. -/
def StrsOwn (w : World) (B : Nat) (v : Value) (L : List ByteArray) : Prop := w.ownsRow B 9 1 v L.length (L.map Value.string)
theorem infoStr : (Try.prog.info? 9).map (fun i => (i.zero, i.size, i.bytes)) = some (some (.string ByteArray.empty), 1, 16) := by kernel_rfl
section
variable {w w' : World} {B : Nat} {v : Value} {L : List ByteArray}
theorem StrsOwn.shape (h : StrsOwn w B v L) : (v = .slice none 0 0 ∧ L = []) ∨ ∃ g cap, v = .slice (some ⟨g, 0, none⟩) L.length cap ∧ L.length ≤ cap ∧ cap ≤ 9223372036854775807 ∧ B ≤ g ∧ g < w.heap.size := by
  rcases h.2 with ⟨h1, h2⟩ | ⟨g, cap, cur, h1, h2, h3, h4, h5, _⟩
  · exact .inl ⟨h1, List.eq_nil_of_length_eq_zero h2⟩
  · refine .inr ⟨g, cap, h1, h4, by unfold maxLen at h5; omega, h2, ?_⟩
    rcases Nat.lt_or_ge g w.heap.size with hlt | hge
    · exact hlt
    · rw [Array.getElem?_eq_none hge] at h3; cases h3
theorem StrsOwn.cell {g n cap : Nat} (h : StrsOwn w B (.slice (some ⟨g, 0, none⟩) n cap) L) {j : Nat} (hn : L.length = n) (hj : j < n) : w.cell? ⟨g, j, none⟩ = some (.string (L.getD j ByteArray.empty)) := by
  unfold StrsOwn at h
  rw [hn] at h
  rw [World.ownsRow.cellAt h j (by omega)]
  simp [show j < L.length by omega]
theorem StrsOwn.free {g n cap : Nat} (h : StrsOwn w B (.slice (some ⟨g, 0, none⟩) n cap) L) (hn : L.length = n) (j : Nat) : w.frozen? ⟨g, j, none⟩ = false := by
  unfold StrsOwn at h
  rw [hn] at h
  exact World.ownsRow.frozenAt h j
theorem StrsOwn.stored {g n cap : Nat} (h : StrsOwn w B (.slice (some ⟨g, 0, none⟩) n cap) L) (hn : L.length = n) (j : Nat) (b : ByteArray) :
    StrsOwn (w.setCell ⟨g, j, none⟩ (.string b)) B (.slice (some ⟨g, 0, none⟩) n cap) (L.set j b) := by
  unfold StrsOwn at h ⊢
  rw [hn] at h
  have := (World.ownsRow.stored h j (.string b)).1
  rw [List.length_set, hn, List.map_set]
  exact this
theorem StrsOwn.reads (h : StrsOwn w B v L) : StrsIn w v L := by
  rcases h.shape with ⟨rfl, rfl⟩ | ⟨g, cap, rfl, h1, h2, h3, h4⟩
  · exact ⟨none, 0, 0, rfl, Nat.le_refl _, by omega, rfl, fun h => by omega⟩
  · exact ⟨_, _, _, rfl, h1, h2, rfl, fun _ => ⟨g, 0, rfl, h4, fun i hi => by rw [Nat.zero_add]; exact h.cell rfl hi⟩⟩
theorem StrsOwn.later {B' : Nat} (h : StrsOwn w B v L) (hb : Below B' w w') (hB : w.heap.size ≤ B') : StrsOwn w' B v L := by
  refine ⟨h.1, ?_⟩
  rcases h.2 with h2 | ⟨g, cap, cur, h1, h2, h3, h4⟩
  · exact .inl h2
  · have hg : g < w.heap.size := by
      rcases Nat.lt_or_ge g w.heap.size with hlt | hge
      · exact hlt
      · rw [Array.getElem?_eq_none hge] at h3; cases h3
    exact .inr ⟨g, cap, cur, h1, h2, (hb.block g (by omega)).trans h3, h4⟩
end
theorem wpList_make_strs {Q : Exit → Act → World → Prop} {ops : Array Oper} {rest : List Oper} {o : Oper} {a : Act} {w0 w : World} {B : Nat} (hgd : o.guard = none) (l c : Operand)
    (ho : o.op = Op.makeSlice 37 l c) (n : Nat) (hl : a.eval l = .int .i64 (n : Int)) (hc : a.eval c = .int .i64 (n : Int)) (hn : n ≤ 1048576)
    (hb : Below B w0 w) (hB : B ≤ w.heap.size)
    (h : ∀ w', StrsOwn w' B (.slice (some ⟨w.heap.size, 0, none⟩) n n) (List.replicate n ByteArray.empty) → Below B w0 w' → wpList Try.prog ops Q rest (a.put o.dst (.slice (some ⟨w.heap.size, 0, none⟩) n n)) w') :
    wpList Try.prog ops Q (o :: rest) a w := by
  obtain ⟨i0, hi, hz0, hz1, hz2⟩ := info_parts infoStr
  refine wpList_make_full w hgd l c _ ho B 9 i0 (.string ByteArray.empty) 1 Try.underlying37 hi hz0 hz1 .i64 .i64 (n : Int) (n : Int) n hl hc rfl rfl (by rw [hz2]; omega) (by unfold maxLen; omega) hB ?_
  intro w' h1 h2
  refine h w' ?_ (hb.grown h2 hB fun k hk => by simp at hk)
  have e : (madeCells (Value.string ByteArray.empty).cells (n * 1)).toList = (List.replicate n ByteArray.empty).map Value.string := by
    show (madeCells #[Value.string ByteArray.empty] (n * 1)).toList = _
    rw [toList_madeCells_one]; simp
  rw [e] at h1
  unfold StrsOwn; simpa using h1
end Go.Proofs.Ytlmdpdidjldkpaa
/- The laws' helpers over arrays: szFlash, toFlash, eqFlash: their contracts. -/
namespace Go.Proofs.Ytlmdpdidjldkpaa
open Go.RowKit
set_option linter.unusedVariables false

theorem PgIn.strs {w : World} {lo hi : Nat} {v : Value} {L : List ByteArray} (h : PgIn w lo hi v L) (hh : hi ≤ w.heap.size) : StrsIn w v L := by
  obtain ⟨A, len, cap, e, h1, h2, h3, h4, hc⟩ := h
  refine ⟨A, len, cap, e, h1, h2, h3, fun h0 => ?_⟩
  obtain ⟨b, off, e, h5, h6, hx⟩ := hc h0
  exact ⟨b, off, e, by omega, hx⟩
theorem PgIn.small {w : World} {lo hi : Nat} {v : Value} {L : List ByteArray} (h : PgIn w lo hi v L) : ∀ i, i < L.length → (L.getD i ByteArray.empty).size ≤ 9223372036854775807 := by
  obtain ⟨A, len, cap, e, h1, h2, h3, h4, hc⟩ := h
  exact fun i hi => h4 i (by omega)
theorem StrsOwn.pages {w : World} {B g : Nat} {v : Value} {L : List ByteArray} (h : StrsOwn w B v L) (hg : g < B) (hL : ∀ i, i < L.length → (L.getD i ByteArray.empty).size ≤ 9223372036854775807) : PgOwn w B w.heap.size g v L := by
  rcases h.shape with ⟨rfl, rfl⟩ | ⟨k, cap, rfl, h1, h2, h3, h4⟩
  · exact ⟨none, 0, 0, rfl, Nat.le_refl _, by omega, rfl, fun i hi => by omega, fun h => by omega⟩
  · exact ⟨_, _, _, rfl, h1, h2, rfl, hL, fun _ => ⟨k, 0, rfl, h3, h4, by omega, h.free rfl, fun i hi => by rw [Nat.zero_add]; exact h.cell rfl hi⟩⟩

/-! Sizes. -/
def szS : List ByteArray → Nat
  | [] => 0
  | s :: L => s.size + szS L
theorem szS_append : ∀ L M : List ByteArray, szS (L ++ M) = szS L + szS M
  | [], M => by simp [szS]
  | s :: L, M => by simp only [List.cons_append, szS, szS_append L M]; omega
theorem szS_take {L : List ByteArray} {i : Nat} (h : i < L.length) : szS (L.take (i + 1)) = szS (L.take i) + (L.getD i ByteArray.empty).size := by
  rw [List.take_succ_eq_append_getElem h, szS_append, List.getD_eq_getElem?_getD, List.getElem?_eq_getElem h]
  simp [szS]
theorem szS_one {L : List ByteArray} {i : Nat} (h : i < L.length) : (L.getD i ByteArray.empty).size ≤ szS L := by
  have e := szS_append (L.take (i + 1)) (L.drop (i + 1))
  rw [List.take_append_drop, szS_take h] at e
  omega
theorem szS_le {L : List ByteArray} (i : Nat) : szS (L.take i) ≤ szS L := by
  have e := szS_append (L.take i) (L.drop i)
  rw [List.take_append_drop] at e
  omega
def szP (L : List ByteArray) : Nat := L.length + szS L
def szB : List Blk → Nat
  | [] => 0
  | x :: L => szP x.pg + szB L
theorem szB_append : ∀ L M : List Blk, szB (L ++ M) = szB L + szB M
  | [], M => by simp [szB]
  | s :: L, M => by simp only [List.cons_append, szB, szB_append L M]; omega
theorem szB_take {L : List Blk} {i : Nat} (h : i < L.length) : szB (L.take (i + 1)) = szB (L.take i) + szP (L.getD i Blk.zero).pg := by
  rw [List.take_succ_eq_append_getElem h, szB_append, List.getD_eq_getElem?_getD, List.getElem?_eq_getElem h]
  simp [szB]
theorem szB_one {L : List Blk} {i : Nat} (h : i < L.length) : szP (L.getD i Blk.zero).pg ≤ szB L := by
  have e := szB_append (L.take (i + 1)) (L.drop (i + 1))
  rw [List.take_append_drop, szB_take h] at e
  omega
theorem szB_le {L : List Blk} (i : Nat) : szB (L.take i) ≤ szB L := by
  have e := szB_append (L.take i) (L.drop i)
  rw [List.take_append_drop] at e
  omega
theorem markN_sz : ∀ L : List Blk, markN L ≤ 3 * L.length + szB L
  | [] => by simp [markN]
  | x :: L => by have := markN_sz L; simp only [markN, szB, szP, List.length_cons]; omega
/-- The array fits: blocks, pages and bytes together are few. -/
def FlSz (F : Fl) : Prop := F.bs.length + szB F.bs ≤ 1048576
theorem FlSz.pages {F : Fl} (h : FlSz F) {i : Nat} (hi : i < F.bs.length) : (F.blk i).pg.length ≤ 1048576 ∧ ∀ j, j < (F.blk i).pg.length → ((F.blk i).at j).size ≤ 1048576 := by
  unfold FlSz at h
  have h1 := szB_one hi
  unfold szP at h1
  refine ⟨by show (F.bs.getD i Blk.zero).pg.length ≤ _; omega, fun j hj => ?_⟩
  have := szS_one (L := (F.bs.getD i Blk.zero).pg) hj
  show ((F.bs.getD i Blk.zero).pg.getD j ByteArray.empty).size ≤ _
  omega
/-- What is left of n behind t: the rest, or -1. -/
def Left (n : Int) (t : Nat) (x : Int) : Prop := ((t : Int) ≤ n ∧ x = n - (t : Int)) ∨ (n < (t : Int) ∧ x = -1)
def LeftPost (n : Int) (t : Nat) (w : World) (e : Ending) (w' : World) : Prop := ∃ x : Int, e = .returned (.int .i64 x) ∧ Left n t x ∧ Below w.heap.size w w'
theorem Left.small {F : Fl} {x : Int} (h : Left 1048576 (F.bs.length + szB F.bs) x) (h0 : ¬ x < 0) : FlSz F := by
  unfold FlSz
  rcases h with h | h <;> omega

/-! Copies. -/
theorem infoBk : (Try.prog.info? 39).map (·.size) = some 4 := by kernel_rfl
def ToBk (x : Blk) (w : World) (e : Ending) (w' : World) : Prop := ∃ A c, e = .returned (.agg #[.int .i64 x.er, .int .i64 x.nx, .bool x.bad, .slice A x.pg.length c]) ∧ (∀ g, g < w.heap.size → PgOwn w' w.heap.size w'.heap.size g (.slice A x.pg.length c) x.pg) ∧ Below w.heap.size w w'
theorem infoBkZ : (Try.prog.info? 39).map (fun i => (i.zero, i.size, i.bytes)) = some (some (.agg #[.int .i64 0, .int .i64 0, .bool false, .slice none 0 0]), 4, 48) := by kernel_rfl
theorem wpList_make_blocks {Q : Exit → Act → World → Prop} {ops : Array Oper} {rest : List Oper} {o : Oper} {a : Act} {w0 w : World} {B : Nat} (hgd : o.guard = none) (l c : Operand)
    (ho : o.op = Op.makeSlice 26 l c) (n : Nat) (hl : a.eval l = .int .i64 (n : Int)) (hc : a.eval c = .int .i64 (n : Int)) (hn : n ≤ 1048576)
    (hb : Below B w0 w) (hB : B ≤ w.heap.size)
    (h : ∀ w', BO w' B w'.heap.size w.heap.size (fun _ => .slice none 0 0) (List.replicate n Blk.zero) → Below B w0 w' → wpList Try.prog ops Q rest (a.put o.dst (.slice (some ⟨w.heap.size, 0, none⟩) n n)) w') :
    wpList Try.prog ops Q (o :: rest) a w := by
  obtain ⟨i0, hi, hz0, hz1, hz2⟩ := info_parts infoBkZ
  refine wpList_make_full w hgd l c _ ho B 39 i0 (.agg #[.int .i64 0, .int .i64 0, .bool false, .slice none 0 0]) 4 Try.underlying26 hi hz0 hz1 .i64 .i64 (n : Int) (n : Int) n hl hc rfl rfl (by rw [hz2]; omega) (by unfold maxLen; omega) hB ?_
  intro w' h1 h2
  refine h w' ?_ (hb.grown h2 hB fun k hk => by simp at hk)
  have h3 := World.ownsRow.lt h1 w.heap.size rfl
  exact BO.made h1 h3.2 h3.1
theorem infoGeo : (Try.prog.info? 25).map (·.size) = some 3 := by kernel_rfl
theorem infoFl : (Try.prog.info? 28).map (·.size) = some 8 := by kernel_rfl
end Go.Proofs.Ytlmdpdidjldkpaa
/- What a call that hands back an array leaves behind: plain helpers. -/
namespace Go.Proofs.Ytlmdpdidjldkpaa
open Go.RowKit
set_option linter.unusedVariables false
def OwnPost (G : Fl) (w : World) (e : Ending) (w' : World) : Prop := ∃ u, e = .returned u ∧ FlOwn w' w.heap.size w'.heap.size u G ∧ Below w.heap.size w w'
/-- What PowerOn answers. -/
def OnEnds (F G : Fl) : Prop := (FlOk F ∧ G = F.on) ∨ (¬ FlOk F ∧ G = Fl.zero)
theorem onEnds (F : Fl) : ∃ G, OnEnds F G := by
  by_cases h : FlOk F
  · exact ⟨_, .inl ⟨h, rfl⟩⟩
  · exact ⟨_, .inr ⟨h, rfl⟩⟩
theorem zeroOwn (w : World) (lo hi : Nat) : FlOwn w lo hi (.agg #[.int .i64 0, .int .i64 0, .int .i64 0, .slice none 0 0, .int .i64 0, .int .i64 0, .bool false, .int .i64 0]) Fl.zero := FlOwn.zero w lo hi
/-- The eight cells of a result laid anew. -/
theorem Rw.put8 {w : World} {g : Nat} {t : TypeId} {c0 c1 c2 c3 c4 c5 c6 c7 : Value} (h : Rw w g t #[c0, c1, c2, c3, c4, c5, c6, c7]) (a b c d e f i j : Value) :
    Rw ((((((((w.setCell ⟨g, 0, none⟩ a).setCell ⟨g, 1, none⟩ b).setCell ⟨g, 2, none⟩ c).setCell ⟨g, 3, none⟩ d).setCell ⟨g, 4, none⟩ e).setCell ⟨g, 5, none⟩ f).setCell ⟨g, 6, none⟩ i).setCell ⟨g, 7, none⟩ j) g t #[a, b, c, d, e, f, i, j] := by
  have k := (((((((h.set_ 0 a).set_ 1 b).set_ 2 c).set_ 3 d).set_ 4 e).set_ 5 f).set_ 6 i).set_ 7 j
  simp only [List.setIfInBounds_toArray, List.set_cons_zero, List.set_cons_succ] at k
  exact k
theorem Rw.eightA {w : World} {g : Nat} {t : TypeId} {a b c d e f i j : Value} (h : Rw w g t #[a, b, c, d, e, f, i, j]) : (∀ o, (w.alloc o).cell? ⟨g, 0, none⟩ = some a) ∧ (∀ o, (w.alloc o).cell? ⟨g, 1, none⟩ = some b) ∧ (∀ o, (w.alloc o).cell? ⟨g, 2, none⟩ = some c) ∧ (∀ o, (w.alloc o).cell? ⟨g, 3, none⟩ = some d) ∧
    (∀ o, (w.alloc o).cell? ⟨g, 4, none⟩ = some e) ∧ (∀ o, (w.alloc o).cell? ⟨g, 5, none⟩ = some f) ∧ (∀ o, (w.alloc o).cell? ⟨g, 6, none⟩ = some i) ∧ (∀ o, (w.alloc o).cell? ⟨g, 7, none⟩ = some j) :=
  ⟨fun o => (h.alloc o).cell 0, fun o => (h.alloc o).cell 1, fun o => (h.alloc o).cell 2, fun o => (h.alloc o).cell 3, fun o => (h.alloc o).cell 4, fun o => (h.alloc o).cell 5, fun o => (h.alloc o).cell 6, fun o => (h.alloc o).cell 7⟩
theorem Rw.freesA {w : World} {g : Nat} {t : TypeId} {cs : Array Value} (h : Rw w g t cs) : (∀ o, (w.alloc o).frozen? ⟨g, 0, none⟩ = false) ∧ (∀ o, (w.alloc o).frozen? ⟨g, 1, none⟩ = false) ∧ (∀ o, (w.alloc o).frozen? ⟨g, 2, none⟩ = false) ∧ (∀ o, (w.alloc o).frozen? ⟨g, 3, none⟩ = false) ∧
    (∀ o, (w.alloc o).frozen? ⟨g, 4, none⟩ = false) ∧ (∀ o, (w.alloc o).frozen? ⟨g, 5, none⟩ = false) ∧ (∀ o, (w.alloc o).frozen? ⟨g, 6, none⟩ = false) ∧ (∀ o, (w.alloc o).frozen? ⟨g, 7, none⟩ = false) :=
  ⟨fun o => (h.alloc o).free 0, fun o => (h.alloc o).free 1, fun o => (h.alloc o).free 2, fun o => (h.alloc o).free 3, fun o => (h.alloc o).free 4, fun o => (h.alloc o).free 5, fun o => (h.alloc o).free 6, fun o => (h.alloc o).free 7⟩
theorem BksOwn.slice {w : World} {lo hi : Nat} {v : Value} {L : List Blk} (h : BksOwn w lo hi v L) : ∃ A n c, v = .slice A n c := by
  obtain ⟨A, n, c, e, _⟩ := h; exact ⟨A, n, c, e⟩
theorem BksIn.slice {w : World} {lo hi : Nat} {v : Value} {L : List Blk} (h : BksIn w lo hi v L) : ∃ A n c, v = .slice A n c := by
  obtain ⟨A, n, c, e, _⟩ := h; exact ⟨A, n, c, e⟩
def FlPost (G : Fl) (c : Int) (w : World) (e : Ending) (w' : World) : Prop := ∃ u, e = .returned (.tuple #[u, .int .i64 c]) ∧ FlOwn w' w.heap.size w'.heap.size u G ∧ Below w.heap.size w w'
theorem grown_refl (w : World) (row : Option Nat) : w.grownBy w row := ⟨rfl, rfl, rfl, Nat.le_refl _, fun _ _ _ => rfl⟩
theorem grown_set {w w' : World} {g k : Nat} (h : w.grownBy w' (some g)) (u : Value) : w.grownBy (w'.setCell ⟨g, k, none⟩ u) (some g) :=
  ⟨h.os, h.tape, h.output, by simpa using h.size, fun j hj hr => (Below.heap_setCell w' ⟨g, k, none⟩ u j (fun e => hr (by rw [e]))).trans (h.block j hj hr)⟩
theorem grown_keep {w w' : World} {g : Nat} (h : w.grownBy w' (some g)) {B : Nat} (hB : B ≤ g) (hw : B ≤ w.heap.size) : Below B w w' :=
  (Below.refl B w).grown h hw (fun k hk => by injection hk with hk; omega)
end Go.Proofs.Ytlmdpdidjldkpaa
/- The operations keep an array valid. No program in it. -/
namespace Go.Proofs.Ytlmdpdidjldkpaa
open Go.RowKit
set_option linter.unusedVariables false

theorem PageOk.more {a b : Int} {i : Nat} {s : ByteArray} (h : PageOk a i s) (hab : a ≤ b) : PageOk b i s := by
  rcases h with h | ⟨h, h2⟩
  · exact .inl h
  · exact .inr ⟨h, by omega⟩
theorem BlkOk.prog {p : Int} {x : Blk} (h : BlkOk p x) (hn : x.nx < p) {raw : ByteArray} (hr : raw.size = 91) : BlkOk p (x.prog raw) := by
  obtain ⟨h1, h2, h3, h4⟩ := h
  refine ⟨h1, ⟨by show 0 ≤ x.nx + 1; omega, by show x.nx + 1 ≤ p; omega⟩, by show ((x.pg.set _ _).length : Int) = p; rw [List.length_set]; exact h3, fun i hi => ?_⟩
  change i < (x.pg.set _ _).length at hi
  rw [List.length_set] at hi
  show PageOk (x.nx + 1) i ((x.pg.set x.nx.toNat raw).getD i ByteArray.empty)
  by_cases e : x.nx.toNat = i
  · subst e; rw [getD_set_eq _ _ _ _ hi]; exact .inr ⟨hr, by omega⟩
  · rw [getD_set_ne _ _ _ _ _ e]; exact (h4 i hi).more (by omega)
theorem BlkOk.torn {p : Int} {x : Blk} (h : BlkOk p x) (hn : x.nx < p) {raw : ByteArray} (hr : raw.size = 91) {ke : Int} (hk : 0 ≤ ke ∧ ke ≤ 91) : BlkOk p (x.torn raw ke) := by
  obtain ⟨h1, h2, h3, h4⟩ := h
  have ht := tornB_size (k := ke.toNat) hr (by omega)
  have key : ∀ L : List ByteArray, L.length = x.pg.length → (∀ i, i < L.length → PageOk (x.nx + 1) i (L.getD i ByteArray.empty)) → BlkOk p { x with pg := L.set x.nx.toNat (tornB raw ke.toNat), nx := x.nx + 1 } := by
    intro L hL hp
    refine ⟨h1, ⟨by show 0 ≤ x.nx + 1; omega, by show x.nx + 1 ≤ p; omega⟩, by show ((L.set _ _).length : Int) = p; rw [List.length_set, hL]; exact h3, fun i hi => ?_⟩
    change i < (L.set _ _).length at hi
    rw [List.length_set] at hi
    show PageOk (x.nx + 1) i ((L.set x.nx.toNat (tornB raw ke.toNat)).getD i ByteArray.empty)
    by_cases e : x.nx.toNat = i
    · subst e; rw [getD_set_eq _ _ _ _ hi]; exact .inr ⟨ht, by omega⟩
    · rw [getD_set_ne _ _ _ _ _ e]; exact hp i hi
  unfold Blk.torn
  by_cases hc : x.nx.toNat % 2 = 1 ∧ ke < 91
  · rw [if_pos hc]
    refine key _ (List.length_set) fun i hi => ?_
    rw [List.length_set] at hi
    by_cases e : x.nx.toNat - 1 = i
    · subst e; rw [getD_set_eq _ _ _ _ hi]; exact .inr ⟨destB_size, by omega⟩
    · rw [getD_set_ne _ _ _ _ _ e]; exact (h4 i hi).more (by omega)
  · rw [if_neg hc]
    exact key _ rfl fun i hi => (h4 i hi).more (by omega)
theorem emptied_at (l : List ByteArray) (m i : Nat) (hi : i < l.length) : (emptied l m).getD i ByteArray.empty = if i < m then ByteArray.empty else l.getD i ByteArray.empty := by
  unfold emptied
  rw [List.getD_eq_getElem?_getD]
  by_cases h : i < m
  · rw [if_pos h, List.getElem?_append_left (by simp; omega), List.getElem?_replicate]
    split <;> rfl
  · rw [if_neg h, List.getElem?_append_right (by simp; omega), List.length_replicate, Nat.min_eq_left (by omega), List.getElem?_drop, List.getD_eq_getElem?_getD]
    rw [show m + (i - m) = i by omega]
theorem BlkOk.erase {p : Int} {x : Blk} (h : BlkOk p x) (he : x.er ≠ 1000) (m : Nat) : BlkOk p (x.erase m) := by
  obtain ⟨h1, h2, h3, h4⟩ := h
  refine ⟨⟨by show 0 ≤ x.er + 1; omega, by show x.er + 1 ≤ 1000; omega⟩, ?_, by show ((emptied _ _).length : Int) = p; rw [emptied_length]; exact h3, fun i hi => ?_⟩
  · show 0 ≤ (if m < x.pg.length then (x.pg.length : Int) else 0) ∧ (if m < x.pg.length then (x.pg.length : Int) else 0) ≤ p
    split <;> omega
  · change i < (emptied _ _).length at hi
    rw [emptied_length] at hi
    show PageOk (if m < x.pg.length then (x.pg.length : Int) else 0) i ((emptied x.pg m).getD i ByteArray.empty)
    rw [emptied_at _ _ _ hi]
    by_cases h : i < m
    · rw [if_pos h]; exact .inl rfl
    · rw [if_neg h, if_pos (by omega)]; exact (h4 i hi).more (by omega)
theorem FlOk.upd {F : Fl} (h : FlOk F) (k : Nat) {x : Blk} (hx : BlkOk F.p x) : FlOk (F.upd k x) := by
  obtain ⟨a, b, c, d, e, f⟩ := h
  refine ⟨a, by show ((F.bs.set k x).length : Int) = _; rw [List.length_set]; exact b, fun i hi => ?_, d, e, f⟩
  change i < (F.bs.set k x).length at hi
  rw [List.length_set] at hi
  show BlkOk F.p ((F.bs.set k x).getD i Blk.zero)
  by_cases e : k = i
  · subst e; rw [getD_set_eq _ _ _ _ hi]; exact hx
  · rw [getD_set_ne _ _ _ _ _ e]; exact c i hi
theorem FlOk.tick {F : Fl} (h : FlOk F) (ho : F.op < 9223372036854775807) : FlOk F.tick := by
  obtain ⟨a, b, c, d, e, f⟩ := h
  refine ⟨a, b, c, ?_, e, ?_⟩
  · show -1 ≤ (if F.fu = 0 then -1 else if 0 < F.fu then F.fu - 1 else F.fu) ∧ (if F.fu = 0 then -1 else if 0 < F.fu then F.fu - 1 else F.fu) ≤ 1000000
    split
    · omega
    · split <;> omega
  · show 0 ≤ wrap64 (F.op + 1)
    rw [IntWalk.wrap64_in _ (by omega)]; omega
theorem FlOk.prog {F : Fl} (h : FlOk F) (ho : F.op < 9223372036854775807) {k : Nat} (hk : k < F.bs.length) (hn : (F.blk k).nx < F.p) {raw : ByteArray} (hr : raw.size = 91) : FlOk (F.prog k raw) := by
  have hb := h.2.2.1 k hk
  unfold Fl.prog
  split
  · split
    · exact h.tick ho
    · exact (h.tick ho).upd k (x := (F.blk k).torn raw F.ke) (hb.torn hn hr h.2.2.2.2.1)
  · exact (h.tick ho).upd k (x := (F.blk k).prog raw) (hb.prog hn hr)
theorem FlOk.erase {F : Fl} (h : FlOk F) (ho : F.op < 9223372036854775807) {k : Nat} (hk : k < F.bs.length) (he : (F.blk k).er ≠ 1000) : FlOk (F.erase k) :=
  (h.tick ho).upd k (x := (F.blk k).erase _) ((h.2.2.1 k hk).erase he _)
end Go.Proofs.Ytlmdpdidjldkpaa
/- The start of an operation, in the model and in the program: the contracts. -/
namespace Go.Proofs.Ytlmdpdidjldkpaa
open Go.RowKit
set_option linter.unusedVariables false

/-- How much of an operation takes effect. -/
def Fl.much (F : Fl) : Int := if F.fu = 0 then F.ke else 91
theorem tick_zero {F : Fl} (h : F.fu = 0) : F.tick = { F with op := wrap64 (F.op + 1), off := true, fu := -1 } := by
  unfold Fl.tick; simp [h]
theorem tick_pos {F : Fl} (h : 0 < F.fu) : F.tick = { F with op := wrap64 (F.op + 1), fu := F.fu - 1 } := by
  unfold Fl.tick; simp [show ¬ F.fu = 0 by omega, h]
theorem tick_neg {F : Fl} (h : F.fu < 0) : F.tick = { F with op := wrap64 (F.op + 1) } := by
  unfold Fl.tick; simp [show ¬ F.fu = 0 by omega, show ¬ 0 < F.fu by omega]
def StartPost (g : Nat) (F : Fl) (u : Value) (v : Value) (w : World) (e : Ending) (w' : World) : Prop := e = .returned v ∧ Rw w' g 28 (flc F.tick u) ∧ w.grownBy w' (some g)
set_option maxRecDepth 100000 in
theorem start_any (g : Nat) (F : Fl) (u : Value) (w : World) (h : Rw w g 28 (flc F u)) (hf : -1 ≤ F.fu ∧ F.fu ≤ 1000000) :
    Calls Try.prog 51 #[.pointer (some ⟨g, 0, none⟩)] w (StartPost g F u (.tuple #[.int .i64 F.much, .int .i64 F.code]) w) := by
  unfold StartPost Fl.much Fl.code
  rcases Int.lt_trichotomy F.fu 0 with h0 | h0 | h0
  · rw [tick_neg h0, if_neg (by omega), if_neg (by omega)]
    obtain ⟨d, b, p, bs, fu, ke, off, op⟩ := F
    unfold flc at *
    simp only at *
    obtain ⟨c0, c1, c2, c3, c4, c5, c6, c7⟩ := h.eight
    obtain ⟨f0, f1, f2, f3, f4, f5, f6, f7⟩ := h.frees
    have H := Lib.hid h
    clear h
    go_enter Try.func51, Try.ntmps51
    go_wp2
    go_ret2
    have k := H.out.set_ 7 (.int .i64 (wrap64 (op + 1)))
    simp only [List.setIfInBounds_toArray, List.set_cons_zero, List.set_cons_succ] at k
    exact ⟨rfl, k, grown_set (grown_refl _ _) _⟩
  · rw [tick_zero h0, if_pos h0, if_pos h0]
    obtain ⟨d, b, p, bs, fu, ke, off, op⟩ := F
    unfold flc at *
    simp only at *
    subst h0
    obtain ⟨c0, c1, c2, c3, c4, c5, c6, c7⟩ := h.eight
    obtain ⟨f0, f1, f2, f3, f4, f5, f6, f7⟩ := h.frees
    have H := Lib.hid h
    clear h
    go_enter Try.func51, Try.ntmps51
    go_wp2
    go_ret2
    have k := ((H.out.set_ 7 (.int .i64 (wrap64 (op + 1)))).set_ 6 (.bool true)).set_ 4 (.int .i64 (-1))
    simp only [List.setIfInBounds_toArray, List.set_cons_zero, List.set_cons_succ] at k
    exact ⟨rfl, k, grown_set (grown_set (grown_set (grown_refl _ _) _) _) _⟩
  · rw [tick_pos h0, if_neg (by omega), if_neg (by omega)]
    obtain ⟨d, b, p, bs, fu, ke, off, op⟩ := F
    unfold flc at *
    simp only at *
    obtain ⟨c0, c1, c2, c3, c4, c5, c6, c7⟩ := h.eight
    obtain ⟨f0, f1, f2, f3, f4, f5, f6, f7⟩ := h.frees
    have H := Lib.hid h
    have hz : ¬ fu = 0 := by omega
    clear h
    go_enter Try.func51, Try.ntmps51
    go_wp2
    go_ret2
    have k := (H.out.set_ 7 (.int .i64 (wrap64 (op + 1)))).set_ 4 (.int .i64 (fu - 1))
    simp only [List.setIfInBounds_toArray, List.set_cons_zero, List.set_cons_succ] at k
    exact ⟨rfl, k, grown_set (grown_set (grown_refl _ _) _) _⟩
set_option maxRecDepth 100000 in
theorem tick_any (g : Nat) (F : Fl) (u : Value) (w : World) (h : Rw w g 28 (flc F u)) (hf : -1 ≤ F.fu ∧ F.fu ≤ 1000000) :
    Calls Try.prog 89 #[.pointer (some ⟨g, 0, none⟩)] w (StartPost g F u (.bool (decide (F.fu = 0))) w) := by
  unfold StartPost
  rcases Int.lt_trichotomy F.fu 0 with h0 | h0 | h0
  · rw [tick_neg h0, decide_eq_false (by omega)]
    obtain ⟨d, b, p, bs, fu, ke, off, op⟩ := F
    unfold flc at *
    simp only at *
    obtain ⟨c0, c1, c2, c3, c4, c5, c6, c7⟩ := h.eight
    obtain ⟨f0, f1, f2, f3, f4, f5, f6, f7⟩ := h.frees
    have H := Lib.hid h
    clear h
    go_enter Try.func89, Try.ntmps89
    go_wp2
    go_ret
    have k := H.out.set_ 7 (.int .i64 (wrap64 (op + 1)))
    simp only [List.setIfInBounds_toArray, List.set_cons_zero, List.set_cons_succ] at k
    exact ⟨rfl, k, grown_set (grown_refl _ _) _⟩
  · rw [tick_zero h0, decide_eq_true h0]
    obtain ⟨d, b, p, bs, fu, ke, off, op⟩ := F
    unfold flc at *
    simp only at *
    subst h0
    obtain ⟨c0, c1, c2, c3, c4, c5, c6, c7⟩ := h.eight
    obtain ⟨f0, f1, f2, f3, f4, f5, f6, f7⟩ := h.frees
    have H := Lib.hid h
    clear h
    go_enter Try.func89, Try.ntmps89
    go_wp2
    go_ret
    have k := ((H.out.set_ 7 (.int .i64 (wrap64 (op + 1)))).set_ 6 (.bool true)).set_ 4 (.int .i64 (-1))
    simp only [List.setIfInBounds_toArray, List.set_cons_zero, List.set_cons_succ] at k
    exact ⟨rfl, k, grown_set (grown_set (grown_set (grown_refl _ _) _) _) _⟩
  · rw [tick_pos h0, decide_eq_false (by omega)]
    obtain ⟨d, b, p, bs, fu, ke, off, op⟩ := F
    unfold flc at *
    simp only at *
    obtain ⟨c0, c1, c2, c3, c4, c5, c6, c7⟩ := h.eight
    obtain ⟨f0, f1, f2, f3, f4, f5, f6, f7⟩ := h.frees
    have H := Lib.hid h
    have hz : ¬ fu = 0 := by omega
    clear h
    go_enter Try.func89, Try.ntmps89
    go_wp2
    go_ret
    have k := (H.out.set_ 7 (.int .i64 (wrap64 (op + 1)))).set_ 4 (.int .i64 (fu - 1))
    simp only [List.setIfInBounds_toArray, List.set_cons_zero, List.set_cons_succ] at k
    exact ⟨rfl, k, grown_set (grown_set (grown_refl _ _) _) _⟩
end Go.Proofs.Ytlmdpdidjldkpaa
/- The laws' helpers markFlash and heldFlash: their contracts. -/
namespace Go.Proofs.Ytlmdpdidjldkpaa
open Go.RowKit
set_option linter.unusedVariables false
theorem strOfNums_join (a b : List Int) : strOfNums a ++ strOfNums b = strOfNums (a ++ b) := by
  apply ByteArray.ext
  simp [strOfNums, ByteArray.data_append]
theorem wpList_one_byte {Q : Exit → Act → World → Prop} {ops : Array Oper} {rest : List Oper} {o : Oper} {a : Act} {w : World} (hgd : o.guard = none) (x : Operand)
    (ho : o.op = .convert 22 9 x) (n : Nat) (b : Int) (s : ByteArray) (hx : a.eval x = .slice (some ⟨w.heap.size, 0, none⟩) 1 n) (hs : s = strOfNums [b])
    (h : wpList Try.prog ops Q rest (a.put o.dst (.string s)) (w.alloc (.cells #[.int .u8 b] 5))) : wpList Try.prog ops Q (o :: rest) a (w.alloc (.cells #[.int .u8 b] 5)) := by
  refine wpList_plain hgd fun K hK' => ?_
  have hrun := arr_str (Arr.new w 5 .u8 [b]) 1 n (by simp)
  unfold Oper.wp
  simp only [List.map_cons, List.map_nil, List.take_succ_cons, List.take_zero] at hrun
  simp only [execOp, ho, hx, hrun, Sem.run_bind, Sem.run_pure, Result.andThen]
  rw [← hs]
  exact hK' _ _ h
/-- Outside the blocks from lo up to hi nothing turned (new blocks may lie behind). -/
def Keep (lo hi : Nat) (w w' : World) : Prop := Below lo w w' ∧ Same hi w.heap.size w w'
section
variable {w w' w'' : World} {lo hi : Nat}
theorem Keep.refl (lo hi : Nat) (w : World) : Keep lo hi w w := ⟨Below.refl _ _, Same.refl _ _ _⟩
theorem Keep.trans (h : Keep lo hi w w') (k : Keep lo hi w' w'') : Keep lo hi w w'' := ⟨h.1.trans k.1, h.2.trans (k.2.mono (Nat.le_refl _) h.1.size)⟩
theorem Keep.set_ (h : Keep lo hi w w') {g k : Nat} (h1 : lo ≤ g) (h2 : g < hi) (u : Value) : Keep lo hi w (w'.setCell ⟨g, k, none⟩ u) := ⟨bset h.1 h1 u, sset h.2 (.inl h2) u⟩
theorem Keep.call (h : Keep lo hi w w') (hb : Below w'.heap.size w' w'') (hl : lo ≤ w.heap.size) : Keep lo hi w w'' := ⟨h.1.trans (hb.mono (by have := h.1.size; omega)), h.2.trans (sm hb hi h.1.size)⟩
theorem Keep.size (h : Keep lo hi w w') : w.heap.size ≤ w'.heap.size := h.1.size
theorem Keep.high (h : Keep lo hi w w') {hi' : Nat} (a : hi' ≤ w.heap.size) : Same hi hi' w w' := h.2.mono (Nat.le_refl _) a
theorem Keep.low (h : Keep lo hi w w') (b : Nat) : Same b lo w w' := sm h.1 b (Nat.le_refl _)
end
theorem markT_size (k : Nat) (h : k ≤ 10000000) : (markT k).size ≤ 9223372036854775807 := by
  have hd : ∀ n k, k ≤ n → (digs k).length ≤ k := by
    intro n
    induction n with
    | zero => intro k hk; obtain rfl : k = 0 := by omega
              rw [digs_zero]; simp
    | succ n ih =>
      intro k hk
      rcases Nat.eq_zero_or_pos k with h0 | h0
      · subst h0; rw [digs_zero]; simp
      · rw [digs_pos h0, List.length_append]
        have := ih (k / 10) (by omega)
        simp only [List.length_cons, List.length_nil]
        omega
  unfold markT
  rw [strOfNums_size, List.length_cons]
  have := hd k k (Nat.le_refl _)
  omega
/-- Texts, the first of them marked. -/
def mks (m : Nat) (l : List ByteArray) (i : Nat) : List ByteArray := (List.range i).map (fun t => markT (m + t)) ++ l.drop i
theorem mks_length (m : Nat) (l : List ByteArray) (i : Nat) (h : i ≤ l.length) : (mks m l i).length = l.length := by simp [mks]; omega
theorem mks_set (m : Nat) (l : List ByteArray) (i : Nat) (h : i < l.length) : (mks m l i).set i (markT (m + i)) = mks m l (i + 1) := by
  unfold mks
  rw [List.set_append_right _ _ (by simp), List.length_map, List.length_range, Nat.sub_self, List.drop_eq_getElem_cons h, List.set_cons_zero, List.range_succ, List.map_append, List.append_assoc]; rfl
theorem mks_all (m : Nat) (l : List ByteArray) : mks m l l.length = (List.range l.length).map fun t => markT (m + t) := by simp [mks]
def Blk.pages (x : Blk) (l : List ByteArray) : Blk := { x with pg := l }
theorem set_set_pages (L : List Blk) (k : Nat) (l l' : List ByteArray) (hk : k < L.length) : (L.set k ((L.getD k Blk.zero).pages l)).set k (((L.set k ((L.getD k Blk.zero).pages l)).getD k Blk.zero).pages l') = L.set k ((L.getD k Blk.zero).pages l') := by
  rw [List.set_set, getD_set_eq _ _ _ _ hk]; rfl
def MkPost (B lo hi g : Nat) (pv : Nat → Value) (L : List Blk) (n : Nat) (w : World) (e : Ending) (w' : World) : Prop := e = .returned (.int .i64 n) ∧ BO w' lo hi g pv L ∧ Keep B hi w w'
section
variable {w : World} {lo hi g k c : Nat} {pv : Nat → Value} {L : List Blk} {a : Blk}
theorem BO.self (h : BO w lo hi g pv L) (hk : k < L.length) : BO w lo hi g pv (L.set k (L.getD k Blk.zero)) := by
  rw [List.getD_eq_getElem?_getD, List.getElem?_eq_getElem hk]
  simpa using h
theorem BO.storeS (h : BO w lo hi g pv (L.set k a)) (hk : k < L.length) (u : Value) (hc : (c = 0 ∧ ∃ n, u = .int .i64 n) ∨ (c = 1 ∧ ∃ n, u = .int .i64 n) ∨ (c = 2 ∧ ∃ b, u = .bool b)) :
    BO (w.setCell ⟨g, k * 4 + c, none⟩ u) lo hi g pv (L.set k (a.put c u)) := by
  have := h.store (k := k) (by simpa using hk) u hc
  rwa [List.set_set, getD_set_eq _ _ _ _ hk] at this
theorem BO.cells (h : BO w lo hi g pv (L.set k a)) (hk : k < L.length) : BkAt w g (k * 4) a (pv k) := by
  have := h.row k (by simpa using hk)
  rwa [getD_set_eq _ _ _ _ hk] at this
end
theorem marks_set (L : List Blk) (m i : Nat) (hi : i < L.length) : (markLs m (L.take i) ++ L.drop i).getD i Blk.zero = L.getD i Blk.zero ∧
    (markLs m (L.take i) ++ L.drop i).set i (markB (m + markN (L.take i)) (L.getD i Blk.zero)) = markLs m (L.take (i + 1)) ++ L.drop (i + 1) := by
  have hl : (markLs m (L.take i)).length = i := by rw [markLs_length]; simp; omega
  constructor
  · rw [List.getD_eq_getElem?_getD, List.getElem?_append_right (by omega), hl, Nat.sub_self, List.getElem?_drop, List.getD_eq_getElem?_getD, Nat.add_zero]
  · rw [List.set_append_right _ _ (by omega), hl, Nat.sub_self, List.drop_eq_getElem_cons hi, List.set_cons_zero, markLs_take m hi, List.append_assoc]; rfl
theorem beq3 (q : Nat) : ((1 + (q : Int) + 1 + 1) % 3 == 0) = decide ((1 + q + 2) % 3 = 0) := by
  rw [Bool.eq_iff_iff]; simp; omega
def MbPost (lo hi : Nat) (v : Value) (L : List Blk) (m : Nat) (w : World) (e : Ending) (w' : World) : Prop := e = .returned (.int .i64 (m + markN L : Nat)) ∧ BksOwn w' lo hi v (markLs m L) ∧ Keep lo hi w w'
end Go.Proofs.Ytlmdpdidjldkpaa
/- A block programmed in place, by the program and by the model: the contracts. -/
namespace Go.Proofs.Ytlmdpdidjldkpaa
open Go.RowKit
set_option linter.unusedVariables false
section
variable {w : World} {lo hi g k : Nat} {pv : Nat → Value} {L : List Blk} {a : Blk}
theorem BO.storePgS (h : BO w lo hi g pv (L.set k a)) (hk : k < L.length) {b off n cap t : Nat} (hv : pv k = .slice (some ⟨b, off, none⟩) n cap) (ht : t < n) (s : ByteArray) (hs : s.size ≤ 9223372036854775807) :
    BO (w.setCell ⟨b, off + t, none⟩ (.string s)) lo hi g pv (L.set k (a.pages (a.pg.set t s))) := by
  have := h.storePg (k := k) (n := t) (by simpa using hk) ht hv s hs
  rwa [List.set_set, getD_set_eq _ _ _ _ hk] at this
theorem BO.pageS (h : BO w lo hi g pv (L.set k a)) (hk : k < L.length) {b off n cap t : Nat} (hv : pv k = .slice (some ⟨b, off, none⟩) n cap) (ht : t < n) :
    w.cell? ⟨b, off + t, none⟩ = some (.string (a.pg.getD t ByteArray.empty)) ∧ w.frozen? ⟨b, off + t, none⟩ = false ∧ lo ≤ b ∧ b < hi ∧ b ≠ g := by
  have h1 := h.page (k := k) (by simpa using hk) hv ht
  rw [getD_set_eq _ _ _ _ hk] at h1
  refine ⟨h1.1, h1.2.1, h1.2.2.1, h1.2.2.2.1, ?_⟩
  obtain ⟨A, l', c', e, _, _, _, _, hx⟩ := h.pgs k (by simpa using hk)
  rw [hv] at e
  injection e with e1 e2 e3
  subst e2
  obtain ⟨b', o', e4, _, _, h6, _⟩ := hx (by omega)
  rw [e4] at e1
  injection e1 with e1
  injection e1 with e1
  omega
end
/-- What is written of a page. -/
def Blk.takes (x : Blk) (raw : ByteArray) (ke : Int) : Blk := if ke = 0 then x else x.torn raw ke
theorem Blk.torn_whole {x : Blk} {raw : ByteArray} (h : raw.size = 91) : x.torn raw 91 = x.prog raw := by
  unfold Blk.torn Blk.prog
  rw [if_neg (by omega)]
  show { x with pg := x.pg.set x.nx.toNat (tornB raw 91), nx := x.nx + 1 } = _
  rw [tornB_all h]
/-- The pages of a block: the slice is there. -/
theorem BO.somePg {w : World} {lo hi g k : Nat} {pv : Nat → Value} {L : List Blk} (h : BO w lo hi g pv L) (hk : k < L.length) (h0 : 0 < (L.getD k Blk.zero).pg.length) :
    ∃ b off cap, pv k = .slice (some ⟨b, off, none⟩) (L.getD k Blk.zero).pg.length cap ∧ (L.getD k Blk.zero).pg.length ≤ cap ∧ cap ≤ 9223372036854775807 := by
  obtain ⟨A, n, cap, e, h1, h2, h3, _, hx⟩ := h.pgs k hk
  obtain ⟨b, off, rfl, _⟩ := hx (by omega)
  exact ⟨b, off, cap, by rw [e, h3], by omega, h2⟩
def UnitPost (P : World → Prop) (e : Ending) (w' : World) : Prop := e = .returned (.tuple #[]) ∧ P w'
set_option maxRecDepth 100000 in
theorem blkProg_any (w : World) (lo hi g : Nat) (pv : Nat → Value) (L : List Blk) (k : Nat) (raw : ByteArray) (ke : Int) (h : BO w lo hi g pv L) (hk : k < L.length) (hh : hi ≤ w.heap.size)
    (h0 : 0 ≤ (L.getD k Blk.zero).nx) (h1 : (L.getD k Blk.zero).nx < ((L.getD k Blk.zero).pg.length : Int)) (h2 : (L.getD k Blk.zero).pg.length ≤ 16) (hr : raw.size = 91) (hke : 0 ≤ ke ∧ ke ≤ 91) :
    Calls Try.prog 52 #[.pointer (some ⟨g, k * 4, none⟩), .string raw, .int .i64 ke] w
      (UnitPost fun w' => BO w' lo hi g pv (L.set k ((L.getD k Blk.zero).takes raw ke)) ∧ Keep lo hi w w') := by
  have o0 := h.self hk
  obtain ⟨b, off, cap, hv, hv1, hv2⟩ := h.somePg hk (by omega)
  generalize L.getD k Blk.zero = y at *
  obtain ⟨q0, q1, q2, q3⟩ := o0.cells hk
  rw [hv] at q3
  have f1 := o0.free (k * 4 + 1)
  have O0 := Lib.hid o0
  have HK := Lib.hid hk
  obtain ⟨er, nx, bad, pg⟩ := y
  simp only at h0 h1 h2 q0 q1 q2 q3 hv hv1
  obtain ⟨n, hn⟩ : ∃ n, n = pg.length := ⟨_, rfl⟩
  obtain ⟨p, rfl⟩ := Int.eq_ofNat_of_zero_le h0
  have HN := Lib.hid hn
  rw [← hn] at h1 h2 q3 hv hv1
  have HV := Lib.hid hv
  have hlow := h.low
  have hhigh := h.high
  clear h o0 hn hk
  by_cases hz : ke = 0
  · subst hz
    go_enter Try.func52, Try.ntmps52
    go_wp2
    go_end0
    exact ⟨rfl, by unfold Blk.takes; rw [if_pos rfl]; exact O0.out, Keep.refl _ _ _⟩
  · have hz' : (ke == 0) = false := by simp [hz]
    have hT : ∀ W : World, Calls Try.prog 68 #[.string raw, .int .i64 ke] W (PairPost (tornB raw ke.toNat) 0 W) := fun W =>
      implTorn_any raw ke _ 0 W (by omega) (.done hr ke.toNat (by omega) (by omega))
    have HT := Lib.hid hT
    have HTS := Lib.hid (tornB_size (k := ke.toNat) hr (by omega))
    generalize htt : tornB raw ke.toNat = t at *
    have HTT := Lib.hid htt
    clear hT htt
    have hpn : p < n := by omega
    by_cases hodd : ke < 91 ∧ p % 2 = 1
    · obtain ⟨hk91, hp2⟩ := hodd
      obtain ⟨m, hm⟩ : ∃ m, m = p - 1 := ⟨_, rfl⟩
      obtain ⟨c1, d1, e1, e2, e3⟩ := O0.out.pageS HK.out HV.out (t := m) (by omega)
      have hd := Lib.hid (fun (W : World) => implDestroyed_any W)
      go_enter Try.func52, Try.ntmps52
      go_wp2
      have i2 : (m : Int) < (n : Int) := by omega
      have i4 : IntKind.i64.wrap ((p : Int) - 1) = (m : Int) := by rw [IntWalk.i64_in _ (by omega)]; omega
      have HM := Lib.hid hm
      clear hm
      go_region_held3 (fun W => W.cell? ⟨g, k * 4 + 3, none⟩ = some (.slice (some ⟨b, off, none⟩) n cap))
        (first
          | exact q3
          | exact (hb1.cell (p := ⟨g, k * 4 + 3, none⟩) (by show g < _; omega)).trans q3
          | exact (World.cell?_setCell_other _ _ _ _ (addr_ne fun e => absurd e e3)).trans ((hb1.cell (p := ⟨g, k * 4 + 3, none⟩) (by show g < _; omega)).trans q3))
        (first
          | (go_at_call 17
             refine (hd.out _).mono ?_
             rintro e w1 ⟨rfl, hb0⟩
             have hb1 : Below w.heap.size w w1 := (Below.refl w.heap.size w).drew.trans hb0
             have c1' := (hb1.cell (p := ⟨b, off + m, none⟩) (by show b < _; omega)).trans c1
             have d1' := (hb1.frozen (p := ⟨b, off + m, none⟩) (by show b < _; omega)).trans d1))
      have O1 := Lib.hid ((O0.out.same (sm hb1 lo hh)).storePgS HK.out HV.out (t := m) (by omega) (fillB 0 91) (by rw [fillB_size]; omega))
      have K1 := Lib.hid (((Keep.refl lo hi w).call hb1 (by omega)).set_ (g := b) (k := off + m) e1 e2 (.string (fillB 0 91)))
      generalize w1.setCell ⟨b, off + m, none⟩ (.string (fillB 0 91)) = wx at *
      clear q0 q1 q2 q3 f1 c1 d1 c1' d1' i2 i4
      obtain ⟨r0, r1, r2, r3⟩ := O1.out.cells HK.out
      rw [HV.out] at r3
      simp only [Blk.pages] at r1
      have g1 := O1.out.free (k * 4 + 1)
      obtain ⟨c2, d2, a1, a2, a3⟩ := O1.out.pageS HK.out HV.out (t := p) hpn
      have hsx := K1.out.size
      go_wp2
      go_region_held3 (fun W => W.cell? ⟨g, k * 4 + 3, none⟩ = some (.slice (some ⟨b, off, none⟩) n cap))
        (first
          | exact r3
          | exact (hb2.cell (p := ⟨g, k * 4 + 3, none⟩) (by show g < _; omega)).trans r3
          | exact (World.cell?_setCell_other _ _ _ _ (addr_ne fun e => absurd e a3)).trans ((hb2.cell (p := ⟨g, k * 4 + 3, none⟩) (by show g < _; omega)).trans r3))
        (first
          | (go_at_call 68
             refine (HT.out _).mono ?_
             rintro e w2 ⟨rfl, hb0⟩
             have hb2 : Below wx.heap.size wx w2 := (Below.refl wx.heap.size wx).drew.trans hb0
             have c2' := (hb2.cell (p := ⟨b, off + p, none⟩) (by show b < _; omega)).trans c2
             have d2' := (hb2.frozen (p := ⟨b, off + p, none⟩) (by show b < _; omega)).trans d2))
      have O2 := Lib.hid ((O1.out.same (sm hb2 lo (by omega))).storePgS HK.out HV.out (t := p) hpn t (by have := HTS.out; omega))
      have K2 := Lib.hid ((K1.out.call hb2 (by omega)).set_ (g := b) (k := off + p) a1 a2 (.string t))
      generalize w2.setCell ⟨b, off + p, none⟩ (.string t) = wy at *
      obtain ⟨u0, u1, u2, u3⟩ := O2.out.cells HK.out
      simp only [Blk.pages] at u1
      have v1 := O2.out.free (k * 4 + 1)
      clear r0 r1 r2 r3 g1 c2 d2 c2' d2' u0 u2 u3
      go_wp2
      go_end0
      have O3 := O2.out.storeS (c := 1) HK.out (.int .i64 ((p : Int) + 1)) (.inr (.inl ⟨rfl, _, rfl⟩))
      refine ⟨rfl, ?_, K2.out.set_ (g := g) (k := k * 4 + 1) hlow hhigh (.int .i64 ((p : Int) + 1))⟩
      have e9 : Blk.takes ⟨er, (p : Int), bad, pg⟩ raw ke = (((Blk.mk er (p : Int) bad pg).pages (pg.set m (fillB 0 91))).pages ((pg.set m (fillB 0 91)).set p t)).put 1 (.int .i64 ((p : Int) + 1)) := by
        unfold Blk.takes Blk.torn
        rw [if_neg hz]
        rw [if_pos ⟨by simp only [Int.toNat_natCast]; exact hp2, hk91⟩]
        simp only [Int.toNat_natCast]
        rw [HTT.out, ← HM.out]; rfl
      rw [e9]
      exact O3
    · have hc2 : decide (ke < 91) = false ∨ ((p : Int) % 2 == 1) = false := by
        by_cases a : ke < 91
        · right
          have : ¬ p % 2 = 1 := fun b => hodd ⟨a, b⟩
          simp; omega
        · left; simp; omega
      have O1 := Lib.hid O0.out
      have K1 := Lib.hid (Keep.refl lo hi w)
      clear O0 q0 q1 q2 q3 f1
      by_cases hq : ke < 91
      · have hq2 : ((p : Int) % 2 == 1) = false := by
          rcases hc2 with hc2 | hc2
          · simp at hc2; omega
          · exact hc2
        go_enter Try.func52, Try.ntmps52
        obtain ⟨r0, r1, r2, r3⟩ := O1.out.cells HK.out
        rw [HV.out] at r3
        have g1 := O1.out.free (k * 4 + 1)
        obtain ⟨c2, d2, a1, a2, a3⟩ := O1.out.pageS HK.out HV.out (t := p) hpn
        have hsx := K1.out.size
        go_wp2
        go_region_held3 (fun W => W.cell? ⟨g, k * 4 + 3, none⟩ = some (.slice (some ⟨b, off, none⟩) n cap))
          (first
            | exact r3
            | exact (hb2.cell (p := ⟨g, k * 4 + 3, none⟩) (by show g < _; omega)).trans r3
            | exact (World.cell?_setCell_other _ _ _ _ (addr_ne fun e => absurd e a3)).trans ((hb2.cell (p := ⟨g, k * 4 + 3, none⟩) (by show g < _; omega)).trans r3))
          (first
            | (go_at_call 68
               refine (HT.out _).mono ?_
               rintro e w2 ⟨rfl, hb0⟩
               have hb2 : Below w.heap.size w w2 := (Below.refl w.heap.size w).drew.trans hb0
               have c2' := (hb2.cell (p := ⟨b, off + p, none⟩) (by show b < _; omega)).trans c2
               have d2' := (hb2.frozen (p := ⟨b, off + p, none⟩) (by show b < _; omega)).trans d2))
        have O2 := Lib.hid ((O1.out.same (sm hb2 lo (by omega))).storePgS HK.out HV.out (t := p) hpn t (by have := HTS.out; omega))
        have K2 := Lib.hid ((K1.out.call hb2 (by omega)).set_ (g := b) (k := off + p) a1 a2 (.string t))
        generalize w2.setCell ⟨b, off + p, none⟩ (.string t) = wy at *
        obtain ⟨u0, u1, u2, u3⟩ := O2.out.cells HK.out
        simp only [Blk.pages] at u1
        have v1 := O2.out.free (k * 4 + 1)
        clear r0 r1 r2 r3 g1 c2 d2 c2' d2' u0 u2 u3
        go_wp2
        go_end0
        have O3 := O2.out.storeS (c := 1) HK.out (.int .i64 ((p : Int) + 1)) (.inr (.inl ⟨rfl, _, rfl⟩))
        refine ⟨rfl, ?_, K2.out.set_ (g := g) (k := k * 4 + 1) hlow hhigh (.int .i64 ((p : Int) + 1))⟩
        have e9 : Blk.takes ⟨er, (p : Int), bad, pg⟩ raw ke = ((Blk.mk er (p : Int) bad pg).pages (pg.set p t)).put 1 (.int .i64 ((p : Int) + 1)) := by
          unfold Blk.takes Blk.torn
          rw [if_neg hz]
          rw [if_neg (fun hc => hodd ⟨hc.2, by have := hc.1; simp only [Int.toNat_natCast] at this; exact this⟩)]
          simp only [Int.toNat_natCast]
          rw [HTT.out]; rfl
        rw [e9]
        exact O3
      · go_enter Try.func52, Try.ntmps52
        obtain ⟨r0, r1, r2, r3⟩ := O1.out.cells HK.out
        rw [HV.out] at r3
        have g1 := O1.out.free (k * 4 + 1)
        obtain ⟨c2, d2, a1, a2, a3⟩ := O1.out.pageS HK.out HV.out (t := p) hpn
        have hsx := K1.out.size
        go_wp2
        go_region_held3 (fun W => W.cell? ⟨g, k * 4 + 3, none⟩ = some (.slice (some ⟨b, off, none⟩) n cap))
          (first
            | exact r3
            | exact (hb2.cell (p := ⟨g, k * 4 + 3, none⟩) (by show g < _; omega)).trans r3
            | exact (World.cell?_setCell_other _ _ _ _ (addr_ne fun e => absurd e a3)).trans ((hb2.cell (p := ⟨g, k * 4 + 3, none⟩) (by show g < _; omega)).trans r3))
          (first
            | (go_at_call 68
               refine (HT.out _).mono ?_
               rintro e w2 ⟨rfl, hb0⟩
               have hb2 : Below w.heap.size w w2 := (Below.refl w.heap.size w).drew.trans hb0
               have c2' := (hb2.cell (p := ⟨b, off + p, none⟩) (by show b < _; omega)).trans c2
               have d2' := (hb2.frozen (p := ⟨b, off + p, none⟩) (by show b < _; omega)).trans d2))
        have O2 := Lib.hid ((O1.out.same (sm hb2 lo (by omega))).storePgS HK.out HV.out (t := p) hpn t (by have := HTS.out; omega))
        have K2 := Lib.hid ((K1.out.call hb2 (by omega)).set_ (g := b) (k := off + p) a1 a2 (.string t))
        generalize w2.setCell ⟨b, off + p, none⟩ (.string t) = wy at *
        obtain ⟨u0, u1, u2, u3⟩ := O2.out.cells HK.out
        simp only [Blk.pages] at u1
        have v1 := O2.out.free (k * 4 + 1)
        clear r0 r1 r2 r3 g1 c2 d2 c2' d2' u0 u2 u3
        go_wp2
        go_end0
        have O3 := O2.out.storeS (c := 1) HK.out (.int .i64 ((p : Int) + 1)) (.inr (.inl ⟨rfl, _, rfl⟩))
        refine ⟨rfl, ?_, K2.out.set_ (g := g) (k := k * 4 + 1) hlow hhigh (.int .i64 ((p : Int) + 1))⟩
        have e9 : Blk.takes ⟨er, (p : Int), bad, pg⟩ raw ke = ((Blk.mk er (p : Int) bad pg).pages (pg.set p t)).put 1 (.int .i64 ((p : Int) + 1)) := by
          unfold Blk.takes Blk.torn
          rw [if_neg hz]
          rw [if_neg (fun hc => hodd ⟨hc.2, by have := hc.1; simp only [Int.toNat_natCast] at this; exact this⟩)]
          simp only [Int.toNat_natCast]
          rw [HTT.out]; rfl
        rw [e9]
        exact O3
end Go.Proofs.Ytlmdpdidjldkpaa
/- Which geometries and arrays are valid, in the model and in the program: the contracts. -/
namespace Go.Proofs.Ytlmdpdidjldkpaa
open Go.RowKit
set_option linter.unusedVariables false

theorem bool_of {P : Prop} (b : Bool) (h : b = true ↔ P) : (P → b = true) ∧ (¬ P → b = false) := by
  refine ⟨h.2, fun n => ?_⟩
  cases b with
  | true => exact absurd (h.1 rfl) n
  | false => rfl
theorem prop_dec' (P : Prop) : ∃ b : Bool, b = true ↔ P := by
  by_cases h : P
  · exact ⟨true, by simp [h]⟩
  · exact ⟨false, by simp [h]⟩
theorem geo_not {d b p : Int} (h : ¬ GeoOk d b p) : ¬ (2 ≤ d ∧ d ≤ 3) ∨ ((2 ≤ d ∧ d ≤ 3) ∧ ¬ (4 ≤ b ∧ b ≤ 12)) ∨ ((2 ≤ d ∧ d ≤ 3) ∧ (4 ≤ b ∧ b ≤ 12) ∧ p ≠ 8 ∧ p ≠ 16) := by
  unfold GeoOk at h
  by_cases h1 : 2 ≤ d ∧ d ≤ 3
  · by_cases h2 : 4 ≤ b ∧ b ≤ 12
    · by_cases h3 : p = 8
      · exact absurd ⟨h1, h2, .inl h3⟩ h
      · by_cases h4 : p = 16
        · exact absurd ⟨h1, h2, .inr h4⟩ h
        · exact .inr (.inr ⟨h1, h2, h3, h4⟩)
    · exact .inr (.inl ⟨h1, h2⟩)
  · exact .inl h1
theorem specGeo_any (d b p : Int) (r : Bool) (w : World) (h : r = true ↔ GeoOk d b p) :
    Calls Try.prog 30 #[.agg #[.int .i64 d, .int .i64 b, .int .i64 p]] w fun e w' => e = .returned (.bool r) ∧ Below w.heap.size w w' := by
  have hb0 := (Below.refl w.heap.size w).alloc (Nat.le_refl _) (.cells #[.int .i64 d, .int .i64 b, .int .i64 p] 25)
  obtain ⟨hy, hn⟩ := bool_of r h
  by_cases hg : GeoOk d b p
  · obtain rfl := hy hg
    obtain ⟨h1, h2, h3⟩ := hg
    clear h hy hn
    rcases h3 with rfl | rfl
    all_goals
      go_enter Try.func30, Try.ntmps30
      go_wp2_with fail
      refine (inr_yes d 2 3 _ h1.1 h1.2).mono ?_
      rintro e w1 ⟨rfl, rfl⟩
      go_wp2_with fail
      refine (inr_yes b 4 12 _ h2.1 h2.2).mono ?_
      rintro e w1 ⟨rfl, rfl⟩
      go_wp2
      go_ret
      exact ⟨rfl, hb0⟩
  · obtain rfl := hn hg
    clear h hy hn
    rcases geo_not hg with h1 | ⟨h1, h2⟩ | ⟨h1, h2, h3, h4⟩
    · go_enter Try.func30, Try.ntmps30
      go_wp2_with fail
      refine (inr_no d 2 3 _ h1).mono ?_
      rintro e w1 ⟨rfl, rfl⟩
      go_wp2
      go_ret
      exact ⟨rfl, hb0⟩
    · go_enter Try.func30, Try.ntmps30
      go_wp2_with fail
      refine (inr_yes d 2 3 _ h1.1 h1.2).mono ?_
      rintro e w1 ⟨rfl, rfl⟩
      go_wp2_with fail
      refine (inr_no b 4 12 _ h2).mono ?_
      rintro e w1 ⟨rfl, rfl⟩
      go_wp2
      go_ret
      exact ⟨rfl, hb0⟩
    · have q1 : (p == 8) = false := by simp [h3]
      have q2 : (p == 16) = false := by simp [h4]
      go_enter Try.func30, Try.ntmps30
      go_wp2_with fail
      refine (inr_yes d 2 3 _ h1.1 h1.2).mono ?_
      rintro e w1 ⟨rfl, rfl⟩
      go_wp2_with fail
      refine (inr_yes b 4 12 _ h2.1 h2.2).mono ?_
      rintro e w1 ⟨rfl, rfl⟩
      go_wp2
      go_ret
      exact ⟨rfl, hb0⟩
theorem implGeo_any (d b p : Int) (r : Bool) (w : World) (h : r = true ↔ GeoOk d b p) :
    Calls Try.prog 49 #[.agg #[.int .i64 d, .int .i64 b, .int .i64 p]] w fun e w' => e = .returned (.bool r) ∧ Below w.heap.size w w' := by
  have hb0 := (Below.refl w.heap.size w).alloc (Nat.le_refl _) (.cells #[.int .i64 d, .int .i64 b, .int .i64 p] 25)
  obtain ⟨hy, hn⟩ := bool_of r h
  have hd1 : ∀ a c : Int, (2 : Int) ≤ d → decide (d ≥ 2) = true := fun _ _ h => by simp; omega
  have key : r = (decide (d ≥ 2) && decide (d ≤ 3) && decide (b ≥ 4) && decide (b ≤ 12) && (p == 8 || p == 16)) := by
    rw [Bool.eq_iff_iff, h]
    unfold GeoOk
    simp
    omega
  clear h hy hn hd1
  have HKey := Lib.hid key
  clear key
  have E : ∀ x : Bool, ((decide (d ≥ 2) && decide (d ≤ 3) && decide (b ≥ 4) && decide (b ≤ 12) && (p == 8 || p == 16)) = x) → x = r := fun x hx => by rw [HKey.out, hx]
  have HE := Lib.hid E
  clear E
  by_cases h1 : 2 ≤ d
  · by_cases h2 : d ≤ 3
    · by_cases h3 : 4 ≤ b
      · by_cases h4 : b ≤ 12
        · by_cases h5 : p = 8
          · subst h5
            go_enter Try.func49, Try.ntmps49
            go_wp2
            go_ret
            exact ⟨ret_bool (HE.out _ (by simp [h1, h2, h3, h4])), hb0⟩
          · have h6 : (p == 8) = false := by simp [h5]
            go_enter Try.func49, Try.ntmps49
            go_wp2
            go_ret
            exact ⟨ret_bool (HE.out _ (by simp [h1, h2, h3, h4, h6])), hb0⟩
        · go_enter Try.func49, Try.ntmps49
          go_wp2
          go_ret
          exact ⟨ret_bool (HE.out _ (by simp; omega)), hb0⟩
      · go_enter Try.func49, Try.ntmps49
        go_wp2
        go_ret
        exact ⟨ret_bool (HE.out _ (by simp; omega)), hb0⟩
    · go_enter Try.func49, Try.ntmps49
      go_wp2
      go_ret
      exact ⟨ret_bool (HE.out _ (by simp; omega)), hb0⟩
  · go_enter Try.func49, Try.ntmps49
    go_wp2
    go_ret
    exact ⟨ret_bool (HE.out _ (by simp; omega)), hb0⟩
/-! One block. -/
theorem blk_not {p : Int} {x : Blk} (h : ¬ BlkOk p x) : ¬ (0 ≤ x.er ∧ x.er ≤ 1000) ∨ ((0 ≤ x.er ∧ x.er ≤ 1000) ∧ ¬ (0 ≤ x.nx ∧ x.nx ≤ p)) ∨ ((0 ≤ x.er ∧ x.er ≤ 1000) ∧ (0 ≤ x.nx ∧ x.nx ≤ p) ∧ (x.pg.length : Int) ≠ p) ∨
    ((0 ≤ x.er ∧ x.er ≤ 1000) ∧ (0 ≤ x.nx ∧ x.nx ≤ p) ∧ (x.pg.length : Int) = p ∧ ¬ ∀ i, i < x.pg.length → PageOk x.nx i (x.at i)) := by
  unfold BlkOk at h
  by_cases h1 : 0 ≤ x.er ∧ x.er ≤ 1000
  · by_cases h2 : 0 ≤ x.nx ∧ x.nx ≤ p
    · by_cases h3 : (x.pg.length : Int) = p
      · exact .inr (.inr (.inr ⟨h1, h2, h3, fun h4 => h ⟨h1, h2, h3, h4⟩⟩))
      · exact .inr (.inr (.inl ⟨h1, h2, h3⟩))
    · exact .inr (.inl ⟨h1, h2⟩)
  · exact .inl h1
def BoolPost (r : Bool) (w : World) (e : Ending) (w' : World) : Prop := e = .returned (.bool r) ∧ Below w.heap.size w w'
/-- The loop over a block's pages comes to r. -/
theorem specBlk_any (x : Blk) (pv : Value) (p : Int) (r : Bool) (w : World) (lo hi : Nat) (hp : PgIn w lo hi pv x.pg) (hh : hi ≤ w.heap.size) (h : r = true ↔ BlkOk p x) (hl : x.pg.length ≤ 1048576) :
    Calls Try.prog 32 #[.agg #[.int .i64 x.er, .int .i64 x.nx, .bool x.bad, pv], .int .i64 p] w (BoolPost r w) := by
  have hb0 := (Below.refl w.heap.size w).alloc (Nat.le_refl _) (.cells #[.int .i64 x.er, .int .i64 x.nx, .bool x.bad, pv] 39)
  obtain ⟨hy, hn⟩ := bool_of r h
  obtain ⟨A, n, cap, rfl, hlc, hcm, hlen, hsz, hA⟩ := hp
  have hnm : (n : Int) ≤ 1048576 := by omega
  have shortcut : ¬ (BlkOk p x) → r = false := hn
  obtain ⟨er, nx, bad, pg⟩ := x
  simp only at *
  by_cases hbad : ¬ (0 ≤ er ∧ er ≤ 1000) ∨ ((0 ≤ er ∧ er ≤ 1000) ∧ ¬ (0 ≤ nx ∧ nx ≤ p)) ∨ ((0 ≤ er ∧ er ≤ 1000) ∧ (0 ≤ nx ∧ nx ≤ p) ∧ (n : Int) ≠ p)
  · obtain rfl : r = false := hn (fun k => by obtain ⟨k1, k2, k3, _⟩ := k; simp only at k1 k2 k3; rw [hlen] at k3; rcases hbad with a | ⟨_, a⟩ | ⟨_, _, a⟩ <;> contradiction)
    clear hy hn h shortcut hA hsz hlen
    rcases hbad with h1 | ⟨h1, h2⟩ | ⟨h1, h2, h3⟩
    · go_enter Try.func32, Try.ntmps32
      go_wp2_with fail
      refine (inr_no er 0 1000 _ h1).mono ?_
      rintro e w1 ⟨rfl, rfl⟩
      go_wp2
      go_ret
      exact ⟨rfl, hb0⟩
    · go_enter Try.func32, Try.ntmps32
      go_wp2_with fail
      refine (inr_yes er 0 1000 _ h1.1 h1.2).mono ?_
      rintro e w1 ⟨rfl, rfl⟩
      go_wp2_with fail
      refine (inr_no nx 0 p _ h2).mono ?_
      rintro e w1 ⟨rfl, rfl⟩
      go_wp2
      go_ret
      exact ⟨rfl, hb0⟩
    · have q1 : ((n : Int) != p) = true := by simp; exact h3
      go_enter Try.func32, Try.ntmps32
      go_wp2_with fail
      refine (inr_yes er 0 1000 _ h1.1 h1.2).mono ?_
      rintro e w1 ⟨rfl, rfl⟩
      go_wp2_with fail
      refine (inr_yes nx 0 p _ h2.1 h2.2).mono ?_
      rintro e w1 ⟨rfl, rfl⟩
      go_wp2
      go_ret
      exact ⟨rfl, hb0⟩
  · have h1 : 0 ≤ er ∧ er ≤ 1000 := by
      by_cases k : 0 ≤ er ∧ er ≤ 1000
      · exact k
      · exact absurd (.inl k) hbad
    have h2 : 0 ≤ nx ∧ nx ≤ p := by
      by_cases k : 0 ≤ nx ∧ nx ≤ p
      · exact k
      · exact absurd (.inr (.inl ⟨h1, k⟩)) hbad
    have h3 : (n : Int) = p := by
      by_cases k : (n : Int) = p
      · exact k
      · exact absurd (.inr (.inr ⟨h1, h2, k⟩)) hbad
    subst h3
    have q1 : ((n : Int) != (n : Int)) = false := by simp
    have HR := Lib.hid (show r = true ↔ ∀ i, i < n → PageOk nx i (pg.getD i ByteArray.empty) from by
      rw [h]; unfold BlkOk; simp only [hlen]
      exact ⟨fun k i hi => k.2.2.2 i hi, fun k => ⟨h1, h2, trivial, fun i hi => k i hi⟩⟩)
    have HSZ := Lib.hid hsz
    clear hbad hy hn h shortcut hsz hlen
    go_enter Try.func32, Try.ntmps32
    go_wp2_with fail
    refine (inr_yes er 0 1000 _ h1.1 h1.2).mono ?_
    rintro e w1 ⟨rfl, rfl⟩
    go_wp2_with fail
    refine (inr_yes nx 0 (n : Int) _ h2.1 h2.2).mono ?_
    rintro e w1 ⟨rfl, rfl⟩
    go_wp2_with fail
    go_loop [5] (fun i => ∃ k : Nat, k ≤ n ∧ i = .int .i64 k ∧ Hid (∀ j, j < k → PageOk nx j (pg.getD j ByteArray.empty))) (fun i => n - (intOf i).toNat)
    case atStart => exact ⟨0, by omega, rfl, Lib.hid (fun j hj => by omega)⟩
    case round =>
      obtain ⟨k, hk, rfl, HA⟩ := hrel
      by_cases hlt : k < n
      · have hki : (k : Int) < (n : Int) := by omega
        obtain ⟨b, off, rfl, hb1, hb2, hx⟩ := hA (by omega)
        have hc : ∀ o, (w.alloc o).cell? ⟨b, off + k, none⟩ = some (.string (pg.getD k ByteArray.empty)) := fun o => (World.cell?_alloc_lt w _ _ (by show b < _; omega)).trans (hx k hlt)
        have hsz := HSZ.out k hlt
        have HY := Lib.hid (show ∀ y, y = pg.getD k ByteArray.empty → PageOk nx k y → ∀ j, j < k + 1 → PageOk nx j (pg.getD j ByteArray.empty) from fun y hy ho j hj => by
          by_cases e : j = k
          · rw [e, ← hy]; exact ho
          · exact HA.out j (by omega))
        have HZ := Lib.hid (show ∀ y, y = pg.getD k ByteArray.empty → ¬ PageOk nx k y → r = false from fun y hy ho => by
          cases r with
          | false => rfl
          | true => exact absurd (HR.out.1 rfl k hlt) (by rw [← hy]; exact ho))
        generalize hgy : pg.getD k ByteArray.empty = y at *
        have HGY := Lib.hid hgy
        clear hgy hx hA
        by_cases y0 : y.size = 0
        · have g1 : ((y.size : Int) != 0) = false := by rw [y0]; rfl
          clear HZ
          go_wp2
          go_round
          case rel => exact ⟨k + 1, by omega, by go_num, Lib.hid (HY.out y rfl (.inl y0))⟩
          case measure => simp [intOf]; omega
        · have g1 : ((y.size : Int) != 0) = true := bne_iff_ne.2 (by omega)
          by_cases y1 : y.size = 91
          · have g2 : ((y.size : Int) != 91) = false := by rw [y1]; rfl
            by_cases y2 : (k : Int) < nx
            · have g3 : decide ((k : Int) ≥ nx) = false := by simp; omega
              have g4 : decide (nx ≤ (k : Int)) = false := by simp; omega
              clear HZ
              go_wp2
              go_round
              case rel => exact ⟨k + 1, by omega, by go_num, Lib.hid (HY.out y rfl (.inr ⟨y1, y2⟩))⟩
              case measure => simp [intOf]; omega
            · have g3 : decide ((k : Int) ≥ nx) = true := by simp; omega
              have g4 : decide (nx ≤ (k : Int)) = true := by simp; omega
              have HF := Lib.hid (HZ.out y rfl (fun o => by rcases o with o | ⟨_, o⟩; exact y0 o; exact y2 o))
              go_wp2
              go_ret
              exact ⟨by rw [HF.out]; rfl, hb0⟩
          · have g2 : ((y.size : Int) != 91) = true := bne_iff_ne.2 (by omega)
            have HF := Lib.hid (HZ.out y rfl (fun o => by rcases o with o | ⟨o, _⟩; exact y0 o; exact y1 o))
            go_wp2
            go_ret
            exact ⟨by rw [HF.out]; rfl, hb0⟩
      · obtain rfl : k = n := by omega
        have HT := Lib.hid (HR.out.2 HA.out)
        go_wp2
        go_ret
        exact ⟨by rw [HT.out]; rfl, hb0⟩
theorem bytes_ne {y : ByteArray} (h : y.size ≠ 0) : ¬ y.toList = [] ∧ y.toList.isEmpty = false := by
  have e : y.toList ≠ [] := by
    rw [ByteArray.toList_eq]
    intro e
    apply h
    show y.data.size = 0
    rw [← Array.length_toList, e]; rfl
  exact ⟨e, by cases hq : y.toList with
    | nil => exact absurd hq e
    | cons a l => rfl⟩
theorem implBlk_any (x : Blk) (pv : Value) (g o : Nat) (p : Int) (r : Bool) (w : World) (lo hi : Nat) (hat : BkAt w g o x pv) (hp : PgIn w lo hi pv x.pg) (hh : hi ≤ w.heap.size) (h : r = true ↔ BlkOk p x) (hl : x.pg.length ≤ 1048576) :
    Calls Try.prog 50 #[.pointer (some ⟨g, o, none⟩), .int .i64 p] w (BoolPost r w) := by
  have hb0 := Below.refl w.heap.size w
  obtain ⟨hy, hn⟩ := bool_of r h
  obtain ⟨A, n, cap, rfl, hlc, hcm, hlen, hsz, hA⟩ := hp
  obtain ⟨c0, c1, c2, c3⟩ := hat
  have hnm : (n : Int) ≤ 1048576 := by omega
  obtain ⟨er, nx, bad, pg⟩ := x
  simp only at *
  by_cases hbad : ¬ (0 ≤ er ∧ er ≤ 1000) ∨ ((0 ≤ er ∧ er ≤ 1000) ∧ ¬ (0 ≤ nx ∧ nx ≤ p)) ∨ ((0 ≤ er ∧ er ≤ 1000) ∧ (0 ≤ nx ∧ nx ≤ p) ∧ (n : Int) ≠ p)
  · obtain rfl : r = false := hn (fun k => by obtain ⟨k1, k2, k3, _⟩ := k; simp only at k1 k2 k3; rw [hlen] at k3; rcases hbad with a | ⟨_, a⟩ | ⟨_, _, a⟩ <;> contradiction)
    clear hy hn h hA hsz hlen
    by_cases a1 : er < 0
    · go_enter Try.func50, Try.ntmps50
      go_wp2
      go_ret
      exact ⟨rfl, hb0⟩
    · by_cases a2 : er > 1000
      · go_enter Try.func50, Try.ntmps50
        go_wp2
        go_ret
        exact ⟨rfl, hb0⟩
      · by_cases a3 : nx < 0
        · go_enter Try.func50, Try.ntmps50
          go_wp2
          go_ret
          exact ⟨rfl, hb0⟩
        · by_cases a4 : nx > p
          · go_enter Try.func50, Try.ntmps50
            go_wp2
            go_ret
            exact ⟨rfl, hb0⟩
          · have q1 : ((n : Int) != p) = true := bne_iff_ne.2 (by
              intro e
              rcases hbad with a | ⟨_, a⟩ | ⟨_, _, a⟩
              · exact a ⟨by omega, by omega⟩
              · exact a ⟨by omega, by omega⟩
              · exact a e)
            clear hbad
            go_enter Try.func50, Try.ntmps50
            go_wp2
            go_ret
            exact ⟨rfl, hb0⟩
  · have h1 : 0 ≤ er ∧ er ≤ 1000 := by
      by_cases k : 0 ≤ er ∧ er ≤ 1000
      · exact k
      · exact absurd (.inl k) hbad
    have h2 : 0 ≤ nx ∧ nx ≤ p := by
      by_cases k : 0 ≤ nx ∧ nx ≤ p
      · exact k
      · exact absurd (.inr (.inl ⟨h1, k⟩)) hbad
    have h3 : (n : Int) = p := by
      by_cases k : (n : Int) = p
      · exact k
      · exact absurd (.inr (.inr ⟨h1, h2, k⟩)) hbad
    subst h3
    have q1 : ((n : Int) != (n : Int)) = false := by simp
    have HR := Lib.hid (show r = true ↔ ∀ i, i < n → PageOk nx i (pg.getD i ByteArray.empty) from by
      rw [h]; unfold BlkOk; simp only [hlen]
      exact ⟨fun k i hi => k.2.2.2 i hi, fun k => ⟨h1, h2, trivial, fun i hi => k i hi⟩⟩)
    have HSZ := Lib.hid hsz
    obtain ⟨h1, h1'⟩ := h1
    obtain ⟨h2, h2'⟩ := h2
    have a1 : ¬ er < 0 := by omega
    have a2 : ¬ er > 1000 := by omega
    have a3 : ¬ nx < 0 := by omega
    have a4 : ¬ nx > (n : Int) := by omega
    clear hbad hy hn h hsz hlen
    go_enter Try.func50, Try.ntmps50
    go_wp2_with fail
    go_loop [48] (fun i => ∃ k : Nat, k ≤ n ∧ i = .int .i64 k ∧ Hid (∀ j, j < k → PageOk nx j (pg.getD j ByteArray.empty))) (fun i => n - (intOf i).toNat)
    case atStart => exact ⟨0, by omega, rfl, Lib.hid (fun j hj => by omega)⟩
    case round =>
      obtain ⟨k, hk, rfl, HA⟩ := hrel
      by_cases hlt : k < n
      · have hki : (k : Int) < (n : Int) := by omega
        obtain ⟨b, off, rfl, hb1, hb2, hx⟩ := hA (by omega)
        have hc := hx k hlt
        have hsz := HSZ.out k hlt
        have HY := Lib.hid (show ∀ y, y = pg.getD k ByteArray.empty → PageOk nx k y → ∀ j, j < k + 1 → PageOk nx j (pg.getD j ByteArray.empty) from fun y hy ho j hj => by
          by_cases e : j = k
          · rw [e, ← hy]; exact ho
          · exact HA.out j (by omega))
        have HZ := Lib.hid (show ∀ y, y = pg.getD k ByteArray.empty → ¬ PageOk nx k y → r = false from fun y hy ho => by
          cases r with
          | false => rfl
          | true => exact absurd (HR.out.1 rfl k hlt) (by rw [← hy]; exact ho))
        generalize hgy : pg.getD k ByteArray.empty = y at *
        have HGY := Lib.hid hgy
        clear hgy hx hA
        by_cases y0 : y.size = 0
        · have hy0 : y = ⟨#[]⟩ := ByteArray.ext (Array.eq_empty_of_size_eq_zero y0)
          clear HZ
          have HP := Lib.hid (HY.out y rfl (.inl y0))
          subst hy0
          go_wp2
          go_round
          case rel => exact ⟨k + 1, by omega, by go_num, HP⟩
          case measure => simp [intOf]; omega
        · have g1 : ((y.size : Int) != 0) = true := bne_iff_ne.2 (by omega)
          obtain ⟨hne, hie⟩ := bytes_ne y0
          by_cases y1 : y.size = 91
          · have g2 : ((y.size : Int) != 91) = false := by rw [y1]; rfl
            by_cases y2 : (k : Int) < nx
            · have g3 : decide ((k : Int) ≥ nx) = false := by simp; omega
              have g4 : decide (nx ≤ (k : Int)) = false := by simp; omega
              clear HZ
              go_wp2
              go_round
              case rel => exact ⟨k + 1, by omega, by go_num, Lib.hid (HY.out y rfl (.inr ⟨y1, y2⟩))⟩
              case measure => simp [intOf]; omega
            · have g3 : decide ((k : Int) ≥ nx) = true := by simp; omega
              have g4 : decide (nx ≤ (k : Int)) = true := by simp; omega
              have HF := Lib.hid (HZ.out y rfl (fun o => by rcases o with o | ⟨_, o⟩; exact y0 o; exact y2 o))
              go_wp2
              go_ret
              exact ⟨by rw [HF.out]; rfl, hb0⟩
          · have g2 : ((y.size : Int) != 91) = true := bne_iff_ne.2 (by omega)
            have HF := Lib.hid (HZ.out y rfl (fun o => by rcases o with o | ⟨o, _⟩; exact y0 o; exact y1 o))
            go_wp2
            go_ret
            exact ⟨by rw [HF.out]; rfl, hb0⟩
      · obtain rfl : k = n := by omega
        have HT := Lib.hid (HR.out.2 HA.out)
        go_wp2
        go_ret
        exact ⟨by rw [HT.out]; rfl, hb0⟩
end Go.Proofs.Ytlmdpdidjldkpaa
/- Valid arrays, in the model and in the program: the contracts. -/
namespace Go.Proofs.Ytlmdpdidjldkpaa
open Go.RowKit
set_option linter.unusedVariables false

/-- Not too many blocks and pages. -/
def FlLen (F : Fl) : Prop := F.bs.length ≤ 1048576 ∧ ∀ i, i < F.bs.length → (F.blk i).pg.length ≤ 1048576
theorem FlOk.lens {F : Fl} (h : FlOk F) : FlLen F := ⟨by have := h.len; omega, fun i hi => by have := h.plen hi; omega⟩
def GateOk (F : Fl) : Prop := GeoOk F.d F.b F.p ∧ (F.bs.length : Int) = F.d * F.b ∧ (-1 ≤ F.fu ∧ F.fu ≤ 1000000) ∧ (0 ≤ F.ke ∧ F.ke ≤ 91) ∧ 0 ≤ F.op
theorem flOk_iff (F : Fl) : FlOk F ↔ GateOk F ∧ ∀ i, i < F.bs.length → BlkOk F.p (F.blk i) := by
  unfold FlOk GateOk
  constructor
  · rintro ⟨a, b, c, d, e, f⟩; exact ⟨⟨a, b, d, e, f⟩, c⟩
  · rintro ⟨⟨a, b, d, e, f⟩, c⟩; exact ⟨a, b, c, d, e, f⟩
theorem prop_dec (P : Prop) : ∃ b : Bool, b = true ↔ P := by
  by_cases h : P
  · exact ⟨true, by simp [h]⟩
  · exact ⟨false, by simp [h]⟩
set_option maxRecDepth 100000 in
theorem specValid_any (v : Value) (F : Fl) (r : Bool) (w : World) (lo hi : Nat) (h : FlIn w lo hi v F) (hh : hi ≤ w.heap.size) (hr : r = true ↔ FlOk F) (hl : FlLen F) :
    Calls Try.prog 9 #[v] w (BoolPost r w) := by
  obtain ⟨u, rfl, h⟩ := h
  rw [flOk_iff] at hr
  obtain ⟨d, b, p, bs, fu, ke, off, op⟩ := F
  obtain ⟨A, n, cap, rfl, hlc, hcm, hlen, hA⟩ := h
  obtain ⟨hl1, hl2⟩ := hl
  unfold flc
  simp only at hl1 hl2 hlen hA
  rw [hlen] at hl1
  have hnm : (n : Int) ≤ 1048576 := by omega
  have r0 := Rw.new w 28 #[.int .i64 d, .int .i64 b, .int .i64 p, .slice A n cap, .int .i64 fu, .int .i64 ke, .bool off, .int .i64 op]
  have hb0 := (Below.refl w.heap.size w).alloc (Nat.le_refl _) (.cells #[.int .i64 d, .int .i64 b, .int .i64 p, .slice A n cap, .int .i64 fu, .int .i64 ke, .bool off, .int .i64 op] 28)
  have HB0 := Lib.hid hb0
  obtain ⟨hy, hn⟩ := bool_of r hr
  obtain ⟨rg, hrg⟩ := prop_dec (GeoOk d b p)
  have HG := Lib.hid (fun (W : World) => specGeo_any d b p rg W hrg)
  have hsz0 : (w.alloc (.cells #[.int .i64 d, .int .i64 b, .int .i64 p, .slice A n cap, .int .i64 fu, .int .i64 ke, .bool off, .int .i64 op] 28)).heap.size = w.heap.size + 1 := by simp
  have R0 := Lib.hid r0
  by_cases hg : GeoOk d b p
  case neg =>
    obtain rfl : rg = false := (bool_of rg hrg).2 hg
    obtain rfl : r = false := hn (fun k => hg k.1.1)
    clear hr hy hn hrg hA hl2 hb0 r0
    go_enter Try.func9, Try.ntmps9
    go_wp2_with fail
    refine (HG.out _).mono ?_
    rintro e w1 ⟨rfl, b1⟩
    have HB1 := Lib.hid (HB0.out.trans (b1.mono (by simp)))
    obtain ⟨c0, c1, c2, c3, c4, c5, c6, c7⟩ := (R0.out.below b1 (by simp)).eight
    clear b1
    go_wp2
    go_ret
    exact ⟨rfl, HB1.out⟩
  obtain rfl : rg = true := (bool_of rg hrg).1 hg
  obtain ⟨m1, m2⟩ := hg.mul
  have HGE := Lib.hid hg
  generalize hq : d * b = q at *
  by_cases gate : (n : Int) = q ∧ (-1 ≤ fu ∧ fu ≤ 1000000) ∧ (0 ≤ ke ∧ ke ≤ 91) ∧ 0 ≤ op
  case neg =>
    obtain rfl : r = false := hn (fun k => gate ⟨by have := k.1.2.1; simp only at this; rw [hlen, hq] at this; exact this, k.1.2.2⟩)
    clear hr hy hn hrg hA hl2 hb0 r0
    go_enter Try.func9, Try.ntmps9
    go_wp2_with fail
    refine (HG.out _).mono ?_
    rintro e w1 ⟨rfl, b1⟩
    have HB1 := Lib.hid (HB0.out.trans (b1.mono (by simp)))
    obtain ⟨c0, c1, c2, c3, c4, c5, c6, c7⟩ := (R0.out.below b1 (by simp)).eight
    clear b1
    by_cases g1 : (n : Int) = q
    · have e1 : ((n : Int) != q) = false := by simp [g1]
      by_cases g2 : -1 ≤ fu ∧ fu ≤ 1000000
      · have k2 := Lib.hid (fun (W : World) => inr_yes fu (-1) 1000000 W g2.1 g2.2)
        by_cases g3 : 0 ≤ ke ∧ ke ≤ 91
        · have k3 := Lib.hid (fun (W : World) => inr_yes ke 0 91 W g3.1 g3.2)
          have g4 : op < 0 := by
            by_cases k : op < 0
            · exact k
            · exact absurd ⟨g1, g2, g3, by omega⟩ gate
          clear gate g2 g3
          go_wp2_with fail
          refine (k2.out _).mono ?_
          rintro e w2 ⟨rfl, rfl⟩
          go_wp2_with fail
          refine (k3.out _).mono ?_
          rintro e w2 ⟨rfl, rfl⟩
          go_wp2
          go_ret
          exact ⟨rfl, HB1.out⟩
        · have k3 := Lib.hid (fun (W : World) => inr_no ke 0 91 W g3)
          clear gate g2 g3
          go_wp2_with fail
          refine (k2.out _).mono ?_
          rintro e w2 ⟨rfl, rfl⟩
          go_wp2_with fail
          refine (k3.out _).mono ?_
          rintro e w2 ⟨rfl, rfl⟩
          go_wp2
          go_ret
          exact ⟨rfl, HB1.out⟩
      · have k2 := Lib.hid (fun (W : World) => inr_no fu (-1) 1000000 W g2)
        clear gate g2
        go_wp2_with fail
        refine (k2.out _).mono ?_
        rintro e w2 ⟨rfl, rfl⟩
        go_wp2
        go_ret
        exact ⟨rfl, HB1.out⟩
    · have e1 : ((n : Int) != q) = true := bne_iff_ne.2 g1
      clear gate
      go_wp2
      go_ret
      exact ⟨rfl, HB1.out⟩
  obtain ⟨g1, g2, g3, g4⟩ := gate
  have HR := Lib.hid (show r = true ↔ ∀ i, i < n → BlkOk p (bs.getD i Blk.zero) from by
    rw [hr]
    constructor
    · rintro ⟨_, k⟩ i hi
      exact k i (by show i < bs.length; omega)
    · intro k
      exact ⟨⟨HGE.out, by show (bs.length : Int) = d * b; rw [hlen, hq]; exact g1, g2, g3, g4⟩, fun i hi => k i (by have : i < bs.length := hi; omega)⟩)
  have k2 := Lib.hid (fun (W : World) => inr_yes fu (-1) 1000000 W g2.1 g2.2)
  have k3 := Lib.hid (fun (W : World) => inr_yes ke 0 91 W g3.1 g3.2)
  have e1 : ((n : Int) != q) = false := by simp [g1]
  have hn0 : 0 < n := by omega
  obtain ⟨g, o, rfl, hg1, hg2, hx⟩ := hA hn0
  have HX := Lib.hid hx
  have HL2 := Lib.hid (show ∀ i, i < n → (bs.getD i Blk.zero).pg.length ≤ 1048576 from fun i hi => hl2 i (by show i < bs.length; omega))
  have g5 : ¬ op < 0 := by omega
  clear hr hy hn hrg hA hl2 hb0 r0 hx g2 g3 hg
  go_enter Try.func9, Try.ntmps9
  go_wp2_with fail
  refine (HG.out _).mono ?_
  rintro e w1 ⟨rfl, b1⟩
  have HB1 := Lib.hid (HB0.out.trans (b1.mono (by simp)))
  have R1 := Lib.hid (R0.out.below b1 (by simp))
  obtain ⟨c0, c1, c2, c3, c4, c5, c6, c7⟩ := R1.out.eight
  clear b1
  go_wp2_with fail
  refine (k2.out _).mono ?_
  rintro e w2 ⟨rfl, rfl⟩
  go_wp2_with fail
  refine (k3.out _).mono ?_
  rintro e w2 ⟨rfl, rfl⟩
  go_wp2_with fail
  go_loopw [3] (fun i wr => ∃ k : Nat, k ≤ n ∧ i = .int .i64 k ∧ Hid (∀ j, j < k → BlkOk p (bs.getD j Blk.zero)) ∧ Below w.heap.size w wr ∧ Hid (Rw wr w.heap.size 28 #[.int .i64 d, .int .i64 b, .int .i64 p, .slice (some ⟨g, o, none⟩) n cap, .int .i64 fu, .int .i64 ke, .bool off, .int .i64 op])) (fun i _ => n - (intOf i).toNat)
  case atStart => exact ⟨0, by omega, rfl, Lib.hid (fun j hj => by omega), HB1.out, R1⟩
  case round =>
    clear c0 c1 c2 c3 c4 c5 c6 c7
    obtain ⟨k, hk, rfl, HA, hb, RR⟩ := hrel
    obtain ⟨c0, c1, c2, c3, c4, c5, c6, c7⟩ := RR.out.eight
    by_cases hlt : k < n
    · have hki : (k : Int) < (n : Int) := by omega
      obtain ⟨pu, ⟨d0, d1, d2, d3⟩, hpu⟩ := HX.out k hlt
      have q0 := (hb.cell (p := ⟨g, o + k * 4, none⟩) (by simp; omega)).trans d0
      have q1 := (hb.cell (p := ⟨g, o + k * 4 + 1, none⟩) (by simp; omega)).trans d1
      have q2 := (hb.cell (p := ⟨g, o + k * 4 + 2, none⟩) (by simp; omega)).trans d2
      have q3 := (hb.cell (p := ⟨g, o + k * 4 + 3, none⟩) (by simp; omega)).trans d3
      have HU := Lib.hid (hpu.same (sm hb lo hh))
      have hsz := hb.size
      have HQ := HL2.out k hlt
      have HB := Lib.hid hb
      have HY := Lib.hid (show ∀ y, y = bs.getD k Blk.zero → BlkOk p y → ∀ j, j < k + 1 → BlkOk p (bs.getD j Blk.zero) from fun y hy ho j hj => by
        by_cases e : j = k
        · rw [e, ← hy]; exact ho
        · exact HA.out j (by omega))
      have HZ := Lib.hid (show ∀ y, y = bs.getD k Blk.zero → ¬ BlkOk p y → r = false from fun y hy ho => by
        cases r with
        | false => rfl
        | true => exact absurd (HR.out.1 rfl k hlt) (by rw [← hy]; exact ho))
      generalize bs.getD k Blk.zero = y at *
      obtain ⟨rb, hrb⟩ := prop_dec (BlkOk p y)
      have HC := Lib.hid (fun (W : World) (a : PgIn W lo hi pu y.pg) (c : hi ≤ W.heap.size) => specBlk_any y pu p rb W lo hi a c hrb HQ)
      by_cases hbk : BlkOk p y
      · obtain rfl : rb = true := hrb.2 hbk
        have HD := Lib.hid (HY.out y rfl hbk)
        clear d0 d1 d2 d3 hpu hb hrb hbk HZ HY
        go_wp2_with fail
        go_still_tail 8, (by kernel_rfl)
        change wpList _ _ _ _ _ wr.drew
        go_wp2_with fail
        refine (HC.out _ (show PgIn wr.drew lo hi pu y.pg from HU.out) (by simp; omega)).mono ?_
        rintro e w2 ⟨rfl, b2⟩
        have HB2 := Lib.hid (HB.out.drew.trans (b2.mono (by simpa using hsz)))
        have R2 := Lib.hid (Rw.below (show Rw wr.drew _ _ _ from RR.out) b2 RR.out.lt)
        clear b2 HB RR c0 c1 c2 c3 c4 c5 c6 c7 q0 q1 q2 q3
        go_wp2
        go_roundw
        case rel => exact ⟨k + 1, by omega, by go_num, HD, HB2.out, R2⟩
        case measure => simp [intOf]; omega
      · obtain rfl : rb = false := (bool_of rb hrb).2 hbk
        have HF := Lib.hid (HZ.out y rfl hbk)
        clear d0 d1 d2 d3 hpu hb hrb hbk HZ HY
        go_wp2_with fail
        go_still_tail 8, (by kernel_rfl)
        change wpList _ _ _ _ _ wr.drew
        go_wp2_with fail
        refine (HC.out _ (show PgIn wr.drew lo hi pu y.pg from HU.out) (by simp; omega)).mono ?_
        rintro e w2 ⟨rfl, b2⟩
        have HB2 := Lib.hid (HB.out.drew.trans (b2.mono (by simpa using hsz)))
        clear b2 HB RR c0 c1 c2 c3 c4 c5 c6 c7 q0 q1 q2 q3
        go_wp2
        go_ret
        exact ⟨by rw [HF.out]; rfl, HB2.out⟩
    · obtain rfl : k = n := by omega
      have HT := Lib.hid (HR.out.2 HA.out)
      go_wp2
      go_ret
      exact ⟨by rw [HT.out]; rfl, hb⟩
theorem validFuse_any (k : Int) (b : Bool) (w : World) (hb : b = true ↔ (-1 ≤ k ∧ k ≤ 1000000)) : Calls Try.prog 35 #[.int .i64 k] w fun e w' => e = .returned (.bool b) ∧ w = w' := by
  by_cases h1 : -1 ≤ k
  · have d1 : decide (-1 ≤ k) = true := by simp; omega
    have d2 : decide (k ≥ -1) = true := by simp; omega
    go_enter Try.func35, Try.ntmps35
    go_wp2
    go_ret
    exact ⟨ret_bool (by rw [Bool.eq_iff_iff, hb]; simp; omega), rfl⟩
  · have d1 : decide (-1 ≤ k) = false := by simp; omega
    have d2 : decide (k ≥ -1) = false := by simp; omega
    go_enter Try.func35, Try.ntmps35
    go_wp2
    go_ret
    exact ⟨ret_bool (by rw [Bool.eq_iff_iff, hb]; simp; omega), rfl⟩
set_option maxRecDepth 100000 in
theorem implValid_any (v : Value) (F : Fl) (r : Bool) (w : World) (lo hi : Nat) (h : FlIn w lo hi v F) (hh : hi ≤ w.heap.size) (hr : r = true ↔ FlOk F) (hl : FlLen F) :
    Calls Try.prog 24 #[v] w (BoolPost r w) := by
  obtain ⟨u, rfl, h⟩ := h
  rw [flOk_iff] at hr
  obtain ⟨d, b, p, bs, fu, ke, off, op⟩ := F
  obtain ⟨A, n, cap, rfl, hlc, hcm, hlen, hA⟩ := h
  obtain ⟨hl1, hl2⟩ := hl
  unfold flc
  simp only at hl1 hl2 hlen hA
  rw [hlen] at hl1
  have hnm : (n : Int) ≤ 1048576 := by omega
  have r0 := Rw.new w 28 #[.int .i64 d, .int .i64 b, .int .i64 p, .slice A n cap, .int .i64 fu, .int .i64 ke, .bool off, .int .i64 op]
  have hb0 := (Below.refl w.heap.size w).alloc (Nat.le_refl _) (.cells #[.int .i64 d, .int .i64 b, .int .i64 p, .slice A n cap, .int .i64 fu, .int .i64 ke, .bool off, .int .i64 op] 28)
  have HB0 := Lib.hid hb0
  obtain ⟨hy, hn⟩ := bool_of r hr
  obtain ⟨rg, hrg⟩ := prop_dec (GeoOk d b p)
  have HG := Lib.hid (fun (W : World) => implGeo_any d b p rg W hrg)
  have R0 := Lib.hid r0
  by_cases hg : GeoOk d b p
  case neg =>
    obtain rfl : rg = false := (bool_of rg hrg).2 hg
    obtain rfl : r = false := hn (fun k => hg k.1.1)
    clear hr hy hn hrg hA hl2 hb0 r0
    go_enter Try.func24, Try.ntmps24
    go_wp2_with fail
    refine (HG.out _).mono ?_
    rintro e w1 ⟨rfl, b1⟩
    have HB1 := Lib.hid (HB0.out.trans (b1.mono (by simp)))
    obtain ⟨c0, c1, c2, c3, c4, c5, c6, c7⟩ := (R0.out.below b1 (by simp)).eight
    clear b1
    go_wp2
    go_ret
    exact ⟨rfl, HB1.out⟩
  obtain rfl : rg = true := (bool_of rg hrg).1 hg
  obtain ⟨m1, m2⟩ := hg.mul
  have HGE := Lib.hid hg
  generalize hq : d * b = q at *
  by_cases g1 : (n : Int) = q
  case neg =>
    obtain rfl : r = false := hn (fun k => g1 (by have := k.1.2.1; simp only at this; rw [hlen, hq] at this; exact this))
    have e1 : ((n : Int) != q) = true := bne_iff_ne.2 g1
    clear hr hy hn hrg hA hl2 hb0 r0
    go_enter Try.func24, Try.ntmps24
    go_wp2_with fail
    refine (HG.out _).mono ?_
    rintro e w1 ⟨rfl, b1⟩
    have HB1 := Lib.hid (HB0.out.trans (b1.mono (by simp)))
    obtain ⟨c0, c1, c2, c3, c4, c5, c6, c7⟩ := (R0.out.below b1 (by simp)).eight
    clear b1
    go_wp2
    go_ret
    exact ⟨rfl, HB1.out⟩
  have HR := Lib.hid (show r = true ↔ ((-1 ≤ fu ∧ fu ≤ 1000000) ∧ (0 ≤ ke ∧ ke ≤ 91) ∧ 0 ≤ op) ∧ ∀ i, i < n → BlkOk p (bs.getD i Blk.zero) from by
    rw [hr]
    constructor
    · rintro ⟨k1, k⟩
      exact ⟨k1.2.2, fun i hi => k i (by show i < bs.length; omega)⟩
    · rintro ⟨k1, k⟩
      exact ⟨⟨HGE.out, by show (bs.length : Int) = d * b; rw [hlen, hq]; exact g1, k1⟩, fun i hi => k i (by have : i < bs.length := hi; omega)⟩)
  subst g1
  have e1 : ((n : Int) != (n : Int)) = false := by simp
  have hn0 : 0 < n := by omega
  obtain ⟨g, o, rfl, hg1, hg2, hx⟩ := hA hn0
  have HX := Lib.hid hx
  have HL2 := Lib.hid (show ∀ i, i < n → (bs.getD i Blk.zero).pg.length ≤ 1048576 from fun i hi => hl2 i (by show i < bs.length; omega))
  clear hr hy hn hrg hA hl2 hb0 r0 hx hg
  go_enter Try.func24, Try.ntmps24
  go_wp2_with fail
  refine (HG.out _).mono ?_
  rintro e w1 ⟨rfl, b1⟩
  have HB1 := Lib.hid (HB0.out.trans (b1.mono (by simp)))
  have R1 := Lib.hid (R0.out.below b1 (by simp))
  obtain ⟨c0, c1, c2, c3, c4, c5, c6, c7⟩ := R1.out.eight
  clear b1
  go_wp2_with fail
  go_loopw [24] (fun i wr => ∃ k : Nat, k ≤ n ∧ i = .int .i64 k ∧ Hid (∀ j, j < k → BlkOk p (bs.getD j Blk.zero)) ∧ Below w.heap.size w wr ∧ Hid (Rw wr w.heap.size 28 #[.int .i64 d, .int .i64 b, .int .i64 p, .slice (some ⟨g, o, none⟩) n cap, .int .i64 fu, .int .i64 ke, .bool off, .int .i64 op])) (fun i _ => n - (intOf i).toNat)
  case atStart => exact ⟨0, by omega, rfl, Lib.hid (fun j hj => by omega), HB1.out, R1⟩
  case round =>
    clear c0 c1 c2 c3 c4 c5 c6 c7
    obtain ⟨k, hk, rfl, HA, hb, RR⟩ := hrel
    obtain ⟨c0, c1, c2, c3, c4, c5, c6, c7⟩ := RR.out.eight
    by_cases hlt : k < n
    · have hki : (k : Int) < (n : Int) := by omega
      obtain ⟨pu, hat, hpu⟩ := HX.out k hlt
      have hat2 := Lib.hid (hat.same (sm hb lo hh) hg1 hg2)
      have HU := Lib.hid (hpu.same (sm hb lo hh))
      have hsz := hb.size
      have HQ := HL2.out k hlt
      have HB := Lib.hid hb
      have HY := Lib.hid (show ∀ y, y = bs.getD k Blk.zero → BlkOk p y → ∀ j, j < k + 1 → BlkOk p (bs.getD j Blk.zero) from fun y hy ho j hj => by
        by_cases e : j = k
        · rw [e, ← hy]; exact ho
        · exact HA.out j (by omega))
      have HZ := Lib.hid (show ∀ y, y = bs.getD k Blk.zero → ¬ BlkOk p y → r = false from fun y hy ho => by
        cases r with
        | false => rfl
        | true => exact absurd ((HR.out.1 rfl).2 k hlt) (by rw [← hy]; exact ho))
      generalize bs.getD k Blk.zero = y at *
      obtain ⟨rb, hrb⟩ := prop_dec (BlkOk p y)
      have HC := Lib.hid (fun (W : World) (a : BkAt W g (o + k * 4) y pu) (a2 : PgIn W lo hi pu y.pg) (c : hi ≤ W.heap.size) => implBlk_any y pu g (o + k * 4) p rb W lo hi a a2 c hrb HQ)
      by_cases hbk : BlkOk p y
      · obtain rfl : rb = true := hrb.2 hbk
        have HD := Lib.hid (HY.out y rfl hbk)
        clear hat hpu hb hrb hbk HZ HY
        go_wp2_with fail
        go_still_tail 7, (by kernel_rfl)
        change wpList _ _ _ _ _ wr.drew
        go_wp2_with fail
        refine (HC.out _ (show BkAt wr.drew _ _ _ _ from hat2.out) (show PgIn wr.drew lo hi pu y.pg from HU.out) (by simp; omega)).mono ?_
        rintro e w2 ⟨rfl, b2⟩
        have HB2 := Lib.hid (HB.out.drew.trans (b2.mono (by simpa using hsz)))
        have R2 := Lib.hid (Rw.below (show Rw wr.drew _ _ _ from RR.out) b2 RR.out.lt)
        clear b2 HB RR c0 c1 c2 c3 c4 c5 c6 c7
        go_wp2
        go_roundw
        case rel => exact ⟨k + 1, by omega, by go_num, HD, HB2.out, R2⟩
        case measure => simp [intOf]; omega
      · obtain rfl : rb = false := (bool_of rb hrb).2 hbk
        have HF := Lib.hid (HZ.out y rfl hbk)
        clear hat hpu hb hrb hbk HZ HY
        go_wp2_with fail
        go_still_tail 7, (by kernel_rfl)
        change wpList _ _ _ _ _ wr.drew
        go_wp2_with fail
        refine (HC.out _ (show BkAt wr.drew _ _ _ _ from hat2.out) (show PgIn wr.drew lo hi pu y.pg from HU.out) (by simp; omega)).mono ?_
        rintro e w2 ⟨rfl, b2⟩
        have HB2 := Lib.hid (HB.out.drew.trans (b2.mono (by simpa using hsz)))
        clear b2 HB RR c0 c1 c2 c3 c4 c5 c6 c7
        go_wp2
        go_ret
        exact ⟨by rw [HF.out]; rfl, HB2.out⟩
    · obtain rfl : k = n := by omega
      have HB := Lib.hid hb
      clear hb
      by_cases f1 : -1 ≤ fu ∧ fu ≤ 1000000
      · have F1 := Lib.hid (fun (W : World) => validFuse_any fu true W (by simp; omega))
        by_cases f2 : 0 ≤ ke ∧ ke ≤ 91
        · have F2 := Lib.hid (fun (W : World) => validKeep_any ke true W (by simp; omega))
          by_cases f3 : 0 ≤ op
          · have HT := Lib.hid (HR.out.2 ⟨⟨f1, f2, f3⟩, HA.out⟩)
            clear f1 f2
            go_wp2_with fail
            refine (F1.out _).mono ?_
            rintro e w2 ⟨rfl, rfl⟩
            go_wp2_with fail
            refine (F2.out _).mono ?_
            rintro e w2 ⟨rfl, rfl⟩
            go_wp2
            go_ret
            exact ⟨by rw [HT.out]; rfl, HB.out⟩
          · have HT := Lib.hid (show r = false by
              cases r with
              | false => rfl
              | true => exact absurd (HR.out.1 rfl).1.2.2 f3)
            have f4 : decide (0 ≤ op) = false := by simp; omega
            have f5 : decide (op ≥ 0) = false := by simp; omega
            clear f1 f2
            go_wp2_with fail
            refine (F1.out _).mono ?_
            rintro e w2 ⟨rfl, rfl⟩
            go_wp2_with fail
            refine (F2.out _).mono ?_
            rintro e w2 ⟨rfl, rfl⟩
            go_wp2
            go_ret
            exact ⟨by rw [HT.out]; rfl, HB.out⟩
        · have F2 := Lib.hid (fun (W : World) => validKeep_any ke false W (by simp; omega))
          have HT := Lib.hid (show r = false by
            cases r with
            | false => rfl
            | true => exact absurd (HR.out.1 rfl).1.2.1 f2)
          clear f1 f2
          go_wp2_with fail
          refine (F1.out _).mono ?_
          rintro e w2 ⟨rfl, rfl⟩
          go_wp2_with fail
          refine (F2.out _).mono ?_
          rintro e w2 ⟨rfl, rfl⟩
          go_wp2
          go_ret
          exact ⟨by rw [HT.out]; rfl, HB.out⟩
      · have F1 := Lib.hid (fun (W : World) => validFuse_any fu false W (by simp; omega))
        have HT := Lib.hid (show r = false by
          cases r with
          | false => rfl
          | true => exact absurd (HR.out.1 rfl).1.1 f1)
        clear f1
        go_wp2_with fail
        refine (F1.out _).mono ?_
        rintro e w2 ⟨rfl, rfl⟩
        go_wp2
        go_ret
        exact ⟨by rw [HT.out]; rfl, HB.out⟩
end Go.Proofs.Ytlmdpdidjldkpaa
