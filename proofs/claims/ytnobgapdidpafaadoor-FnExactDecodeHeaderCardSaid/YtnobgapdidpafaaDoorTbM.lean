/- Tables of bad blocks in memory; what the laws' helpers for tables do. -/
import Derived.Test.YtnobgapdidpafaaDoorProg
import Derived.Test.YtnobgapdidpafaaDoorTbN
import Derived.Test.YtnobgapdidpafaaDoorInts
import Derived.Test.YtnobgapdidpafaaDoorIntsR
import Derived.Test.YtnobgapdidpafaaDoorFlM
import Derived.Test.YtnobgapdidpafaaDoorFlA
import Derived.Test.YtnobgapdidpafaaDoorFlG
namespace Go.Proofs.YtnobgapdidpafaaDoor
open Go.RowKit
set_option linter.unusedVariables false
/-- The value v is a slice, in the blocks below hi, that reads as the integers l. -/
def NI (w : World) (hi : Nat) (v : Value) (l : List Int) : Prop :=
  ∃ A len cap, v = .slice A len cap ∧ len ≤ cap ∧ cap ≤ 9223372036854775807 ∧ l.length = len ∧ (0 < len → ∃ b off, A = some ⟨b, off, none⟩ ∧ b < hi ∧ ∀ i, i < len → w.cell? ⟨b, off + i, none⟩ = some (.int .i64 (l.getD i 0)))
/-- The value v is a slice of the call's own, in the blocks from lo up to hi. -/
def IO (w : World) (lo hi : Nat) (v : Value) (l : List Int) : Prop := IntsOwn w lo v l ∧ ∀ k, v.ownBlock = some k → k < hi
section
variable {w w' : World} {lo hi lo' hi' B : Nat} {v u : Value} {l : List Int}
theorem NI.below (h : NI w hi v l) (hb : Below B w w') (hB : hi ≤ B) : NI w' hi v l := by
  obtain ⟨A, len, cap, rfl, h1, h2, hl, hc⟩ := h
  refine ⟨A, len, cap, rfl, h1, h2, hl, fun h0 => ?_⟩
  obtain ⟨b, off, rfl, hbl, hx⟩ := hc h0
  exact ⟨b, off, rfl, hbl, fun i hi => (hb.cell (p := ⟨b, off + i, none⟩) (Nat.lt_of_lt_of_le hbl hB)).trans (hx i hi)⟩
theorem NI.wide (h : NI w hi v l) (hh : hi ≤ hi') : NI w hi' v l := by
  obtain ⟨A, len, cap, rfl, h1, h2, hl, hc⟩ := h
  refine ⟨A, len, cap, rfl, h1, h2, hl, fun h0 => ?_⟩
  obtain ⟨b, off, rfl, hbl, hx⟩ := hc h0
  exact ⟨b, off, rfl, by omega, hx⟩
theorem NI.ints (h : NI w hi v l) (hh : hi ≤ w.heap.size) : IntsIn w v l := by
  obtain ⟨A, len, cap, rfl, h1, h2, hl, hc⟩ := h
  refine ⟨A, len, cap, rfl, hl, fun h0 => ?_⟩
  obtain ⟨b, off, rfl, hbl, hx⟩ := hc h0
  exact ⟨b, off, rfl, by omega, hx⟩
theorem NI.intsR (h : NI w hi v l) (hh : hi ≤ w.heap.size) : IntsR w v l := by
  obtain ⟨A, len, cap, rfl, h1, h2, hl, hc⟩ := h
  refine ⟨A, len, cap, rfl, h1, h2, hl, fun h0 => ?_⟩
  obtain ⟨b, off, rfl, hbl, hx⟩ := hc h0
  exact ⟨b, off, rfl, by omega, hx⟩
theorem IntsR.ni (h : IntsR w v l) : NI w w.heap.size v l := by
  obtain ⟨A, len, cap, rfl, h1, h2, hl, hc⟩ := h
  exact ⟨A, len, cap, rfl, h1, h2, hl, hc⟩
theorem NI.slice (h : NI w hi v l) : ∃ A n c, v = .slice A n c := by obtain ⟨A, n, c, e, _⟩ := h; exact ⟨A, n, c, e⟩
theorem NI.nil (w : World) (hi : Nat) : NI w hi (.slice none 0 0) [] := ⟨none, 0, 0, rfl, by omega, by omega, rfl, fun h => by omega⟩
theorem IO.reads (h : IO w lo hi v l) : NI w hi v l := by
  obtain ⟨A, len, cap, rfl, h1, h2, hl, hc⟩ := h.1.readsR
  refine ⟨A, len, cap, rfl, h1, h2, hl, fun h0 => ?_⟩
  obtain ⟨b, off, rfl, hbl, hx⟩ := hc h0
  refine ⟨b, off, rfl, ?_, hx⟩
  rcases h.1.shape with ⟨e, _⟩ | ⟨g, cap', e, _⟩
  · cases e
  · injection e with e1 e2 e3
    injection e1 with e1
    injection e1 with e1 e4
    subst e1
    exact h.2 b rfl
theorem IntsOwn.blockOf (h : IntsOwn w lo v l) {k : Nat} (e : v.ownBlock = some k) : lo ≤ k ∧ k < w.heap.size := World.ownsRow.lt h k e
theorem IO.mk_ (h : IntsOwn w lo v l) : IO w lo w.heap.size v l := ⟨h, fun k e => (h.blockOf e).2⟩
theorem IntsOwn.sames (h : IntsOwn w lo v l) (hs : ∀ k, v.ownBlock = some k → w'.heap[k]? = w.heap[k]?) : IntsOwn w' lo v l := by
  refine ⟨h.1, ?_⟩
  rcases h.2 with h2 | ⟨g, cap, cur, h1, h2, h3, h4⟩
  · exact .inl h2
  · exact .inr ⟨g, cap, cur, h1, h2, (hs g (by rw [h1]; rfl)).trans h3, h4⟩
theorem IO.same (h : IO w lo hi v l) (hs : Same lo hi w w') : IO w' lo hi v l := ⟨h.1.sames fun k e => hs k (h.1.blockOf e).1 (h.2 k e), h.2⟩
theorem IO.below (h : IO w lo hi v l) (hb : Below B w w') (hB : hi ≤ B) : IO w' lo hi v l := h.same (sm hb lo hB)
theorem IntsOwn.low {B' : Nat} (h : IntsOwn w B v l) (hB : B' ≤ B) : IntsOwn w B' v l := by
  refine ⟨h.1, ?_⟩
  rcases h.2 with h2 | ⟨g, cap, cur, h1, h2, h3, h4, h5⟩
  · exact .inl h2
  · exact .inr ⟨g, cap, cur, h1, by omega, h3, h4, h5⟩
theorem IO.wide (h : IO w lo hi v l) (hl : lo' ≤ lo) (hh : hi ≤ hi') : IO w lo' hi' v l := ⟨h.1.low hl, fun k e => by have := h.2 k e; omega⟩
theorem IO.nil (w : World) (lo hi : Nat) : IO w lo hi (.slice none 0 0) [] := ⟨World.ownsRow_nil w lo _ 1, fun k e => by cases e⟩
end
/-- The cells of a table whose lists are the slices u and v. -/
def tbc (T : Tb) (u v : Value) : Array Value := #[.int .i64 T.d, .int .i64 T.b, .int .i64 T.p, .int .i64 T.sp, u, v]
def TbIn (w : World) (hi : Nat) (v : Value) (T : Tb) : Prop := ∃ a b, v = .agg (tbc T a b) ∧ NI w hi a T.bad ∧ NI w hi b T.rm
def TbOwn (w : World) (lo hi : Nat) (v : Value) (T : Tb) : Prop := ∃ a b, v = .agg (tbc T a b) ∧ IO w lo hi a T.bad ∧ IO w lo hi b T.rm ∧ (a.ownBlock = none ∨ a.ownBlock ≠ b.ownBlock)
section
variable {w w' : World} {lo hi lo' hi' B : Nat} {v : Value} {T : Tb}
theorem TbIn.below (h : TbIn w hi v T) (hb : Below B w w') (hB : hi ≤ B) : TbIn w' hi v T := by
  obtain ⟨a, b, e, h1, h2⟩ := h; exact ⟨a, b, e, h1.below hb hB, h2.below hb hB⟩
theorem NI.same {l : List Int} (h : NI w hi v l) (hs : Same 0 hi w w') : NI w' hi v l := by
  obtain ⟨A, len, cap, rfl, h1, h2, hl, hc⟩ := h
  refine ⟨A, len, cap, rfl, h1, h2, hl, fun h0 => ?_⟩
  obtain ⟨b, off, rfl, hbl, hx⟩ := hc h0
  exact ⟨b, off, rfl, hbl, fun i hi => (hs.cell (p := ⟨b, off + i, none⟩) (Nat.zero_le _) hbl).trans (hx i hi)⟩
theorem TbIn.same (h : TbIn w hi v T) (hs : Same 0 hi w w') : TbIn w' hi v T := by
  obtain ⟨a, b, e, h1, h2⟩ := h; exact ⟨a, b, e, h1.same hs, h2.same hs⟩
theorem TbIn.wide (h : TbIn w hi v T) (hh : hi ≤ hi') : TbIn w hi' v T := by
  obtain ⟨a, b, e, h1, h2⟩ := h; exact ⟨a, b, e, h1.wide hh, h2.wide hh⟩
theorem TbOwn.reads (h : TbOwn w lo hi v T) : TbIn w hi v T := by
  obtain ⟨a, b, e, h1, h2, _⟩ := h; exact ⟨a, b, e, h1.reads, h2.reads⟩
theorem TbOwn.same (h : TbOwn w lo hi v T) (hs : Same lo hi w w') : TbOwn w' lo hi v T := by
  obtain ⟨a, b, e, h1, h2, h3⟩ := h; exact ⟨a, b, e, h1.same hs, h2.same hs, h3⟩
theorem TbOwn.wide (h : TbOwn w lo hi v T) (hl : lo' ≤ lo) (hh : hi ≤ hi') : TbOwn w lo' hi' v T := by
  obtain ⟨a, b, e, h1, h2, h3⟩ := h; exact ⟨a, b, e, h1.wide hl hh, h2.wide hl hh, h3⟩
theorem TbOwn.zero (w : World) (lo hi : Nat) : TbOwn w lo hi (.agg #[.int .i64 0, .int .i64 0, .int .i64 0, .int .i64 0, .slice none 0 0, .slice none 0 0]) Tb.zero := ⟨_, _, rfl, IO.nil _ _ _, IO.nil _ _ _, .inl rfl⟩
theorem TbIn.agg6 (h : TbIn w hi v T) : ∃ g0 g1 g2 g3 A n c A' n' c', v = .agg #[.int .i64 g0, .int .i64 g1, .int .i64 g2, .int .i64 g3, .slice A n c, .slice A' n' c'] := by
  obtain ⟨a, b, e, h1, h2⟩ := h
  obtain ⟨A, n, c, rfl⟩ := h1.slice
  obtain ⟨A', n', c', rfl⟩ := h2.slice
  exact ⟨_, _, _, _, _, _, _, _, _, _, e⟩
end
theorem TbOwn.agg6 {w : World} {lo hi : Nat} {v : Value} {T : Tb} (h : TbOwn w lo hi v T) : ∃ (g0 g1 g2 g3 : Int) (A : Option Addr) (n c : Nat) (A' : Option Addr) (n' c' : Nat), v = .agg #[.int .i64 g0, .int .i64 g1, .int .i64 g2, .int .i64 g3, .slice A n c, .slice A' n' c'] := h.reads.agg6
section
variable {w : World} {g : Nat} {t : TypeId}
theorem Rw.six {a b c d e f : Value} (h : Rw w g t #[a, b, c, d, e, f]) : w.cell? ⟨g, 0, none⟩ = some a ∧ w.cell? ⟨g, 1, none⟩ = some b ∧ w.cell? ⟨g, 2, none⟩ = some c ∧ w.cell? ⟨g, 3, none⟩ = some d ∧
    w.cell? ⟨g, 4, none⟩ = some e ∧ w.cell? ⟨g, 5, none⟩ = some f :=
  ⟨h.cell 0, h.cell 1, h.cell 2, h.cell 3, h.cell 4, h.cell 5⟩
theorem Rw.put6 {c0 c1 c2 c3 c4 c5 : Value} (h : Rw w g t #[c0, c1, c2, c3, c4, c5]) (a b c d e f : Value) :
    Rw ((((((w.setCell ⟨g, 0, none⟩ a).setCell ⟨g, 1, none⟩ b).setCell ⟨g, 2, none⟩ c).setCell ⟨g, 3, none⟩ d).setCell ⟨g, 4, none⟩ e).setCell ⟨g, 5, none⟩ f) g t #[a, b, c, d, e, f] := by
  have k := (((((h.set_ 0 a).set_ 1 b).set_ 2 c).set_ 3 d).set_ 4 e).set_ 5 f
  simp only [List.setIfInBounds_toArray, List.set_cons_zero, List.set_cons_succ] at k
  exact k
end
/-- The table fits. -/
def TbSz (T : Tb) : Prop := T.bad.length + T.rm.length ≤ 1048576
end Go.Proofs.YtnobgapdidpafaaDoor
