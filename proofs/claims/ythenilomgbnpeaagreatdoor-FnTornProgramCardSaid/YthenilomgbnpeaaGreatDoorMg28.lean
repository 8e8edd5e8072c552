/- The proof's own lemmas, part 29: IntsR TbM EqI SmN Oth. -/
import Derived.Test.YthenilomgbnpeaaGreatDoorProg
import Derived.Test.YthenilomgbnpeaaGreatDoorMg27
import Derived.WalkKit
import Derived.ProofKit
import Derived.Lib.Hide
import Derived.Laws.MakeOwn
import Derived.BigQuiet
import Derived.Deep.QuietTactic
import Derived.Test.YthenilomgbnpeaaGreatDoorMg12
import Derived.Test.YthenilomgbnpeaaGreatDoorMg13
import Derived.Test.YthenilomgbnpeaaGreatDoorMg3
import Derived.Test.YthenilomgbnpeaaGreatDoorMg15
import Derived.Test.YthenilomgbnpeaaGreatDoorMg20
import Derived.Test.YthenilomgbnpeaaGreatDoorMg16
import Derived.Test.YthenilomgbnpeaaGreatDoorMg22
/- Slices of int64 with their bounds; the law's helper toInt64S. -/
namespace Go.Proofs.YthenilomgbnpeaaGreatDoor
open Go.RowKit

/-- The value v is a slice that reads as the integers l, with its bounds. -/
def IntsR (w : World) (v : Value) (l : List Int) : Prop := ∃ A len cap, v = .slice A len cap ∧ len ≤ cap ∧ cap ≤ 9223372036854775807 ∧ l.length = len ∧ (0 < len → ∃ b off, A = some ⟨b, off, none⟩ ∧ b < w.heap.size ∧ ∀ i, i < len → w.cell? ⟨b, off + i, none⟩ = some (.int .i64 (l.getD i 0)))
theorem IntsR.below {w w' : World} {B : Nat} {v : Value} {l : List Int} (h : IntsR w v l) (hb : Below B w w') (hB : w.heap.size ≤ B) : IntsR w' v l := by
  obtain ⟨A, len, cap, rfl, h1, h2, hl, hc⟩ := h
  refine ⟨A, len, cap, rfl, h1, h2, hl, fun h0 => ?_⟩
  obtain ⟨b, off, rfl, hbl, hx⟩ := hc h0
  exact ⟨b, off, rfl, by have := hb.size; omega, fun i hi => (hb.cell (p := ⟨b, off + i, none⟩) (Nat.lt_of_lt_of_le hbl hB)).trans (hx i hi)⟩
theorem IntsOwn.readsR {w : World} {B : Nat} {v : Value} {l : List Int} (h : IntsOwn w B v l) : IntsR w v l := by
  rcases h.2 with ⟨rfl, h2⟩ | ⟨g, cap, cur, rfl, h2, h3, h4, h5, _⟩
  · exact ⟨none, 0, 0, rfl, Nat.le_refl _, by omega, h2, fun h => by omega⟩
  · refine ⟨_, _, _, rfl, h4, by unfold maxLen at h5; omega, rfl, fun _ => ⟨g, 0, rfl, ?_, fun i hi => by rw [Nat.zero_add]; exact h.cell rfl hi⟩⟩
    rcases Nat.lt_or_ge g w.heap.size with hlt | hge
    · exact hlt
    · rw [Array.getElem?_eq_none hge] at h3; cases h3
theorem wpList_make_ints {Q : Exit → Act → World → Prop} {ops : Array Oper} {rest : List Oper} {o : Oper} {a : Act} {w0 w : World} {B : Nat} (hgd : o.guard = none) (l c : Operand)
    (ho : o.op = Op.makeSlice 53 l c) (n : Nat) (hl : a.eval l = .int .i64 (n : Int)) (hc : a.eval c = .int .i64 (n : Int)) (hn : n ≤ 1048576)
    (hb : Below B w0 w) (hB : B ≤ w.heap.size)
    (h : ∀ w', IntsOwn w' B (.slice (some ⟨w.heap.size, 0, none⟩) n n) (List.replicate n 0) → Below B w0 w' → wpList Tryz.prog ops Q rest (a.put o.dst (.slice (some ⟨w.heap.size, 0, none⟩) n n)) w') :
    wpList Tryz.prog ops Q (o :: rest) a w := by
  obtain ⟨i0, hi, hz0, hz1, hz2⟩ := info_parts info64
  refine wpList_make_full w hgd l c _ ho B 2 i0 (.int .i64 0) 1 Tryz.underlying53 hi hz0 hz1 .i64 .i64 (n : Int) (n : Int) n hl hc rfl rfl (by rw [hz2]; omega) (by unfold maxLen; omega) hB ?_
  intro w' h1 h2
  refine h w' ?_ (hb.grown h2 hB fun k hk => by simp at hk)
  have e : (madeCells (Value.int .i64 0).cells (n * 1)).toList = (List.replicate n (0 : Int)).map (Value.int .i64) := by
    show (madeCells #[Value.int .i64 0] (n * 1)).toList = _
    rw [toList_madeCells_one]; simp
  rw [e] at h1
  unfold IntsOwn; simpa using h1
def CopyPostI (L : List Int) (w : World) (e : Ending) (w' : World) : Prop := ∃ v, e = .returned v ∧ IntsOwn w' w.heap.size v L ∧ Below w.heap.size w w'
theorem take_setI (L : List Int) (k : Nat) (h : k < L.length) : (L.take k ++ List.replicate (L.length - k) 0).set k (L.getD k 0) = L.take (k + 1) ++ List.replicate (L.length - (k + 1)) 0 := by
  rw [List.set_append_right _ _ (by simp; omega), List.length_take, Nat.min_eq_left (by omega), Nat.sub_self, show L.length - k = (L.length - (k + 1)) + 1 by omega, List.replicate_succ, List.set_cons_zero, List.take_succ_eq_append_getElem h, List.append_assoc, List.getD_eq_getElem?_getD, List.getElem?_eq_getElem h]; rfl
end Go.Proofs.YthenilomgbnpeaaGreatDoor
/- Tables of bad blocks in memory; what the laws' helpers for tables do. -/
namespace Go.Proofs.YthenilomgbnpeaaGreatDoor
open Go.RowKit
set_option linter.unusedVariables false
/-- The value v is a slice, in the blocks below hi, that reads as the integers l. -/
def NI (w : World) (hi : Nat) (v : Value) (l : List Int) : Prop :=
  ∃ A len cap, v = .slice A len cap ∧ len ≤ cap ∧ cap ≤ 9223372036854775807 ∧ l.length = len ∧ (0 < len → ∃ b off, A = some ⟨b, off, none⟩ ∧ b < hi ∧ ∀ i, i < len → w.cell? ⟨b, off + i, none⟩ = some (.int .i64 (l.getD i 0)))
/-- The value v is a slice of the call's own, in the blocks from lo up to hi. -/
def IO (w : World) (lo hi : Nat) (v : Value) (l : List Int) : Prop := IntsOwn w lo v l ∧ ∀ k, v.ownBlock = some k → k < hi
section
variable {w w' : World} {lo hi lo' hi' B : Nat} {v u : Value} {l : List Int}
theorem NI.below (h : NI w hi v l) (hb : Below B w w') (hB : hi ≤ B) : NI w' hi v l := by
  obtain ⟨A, len, cap, rfl, h1, h2, hl, hc⟩ := h
  refine ⟨A, len, cap, rfl, h1, h2, hl, fun h0 => ?_⟩
  obtain ⟨b, off, rfl, hbl, hx⟩ := hc h0
  exact ⟨b, off, rfl, hbl, fun i hi => (hb.cell (p := ⟨b, off + i, none⟩) (Nat.lt_of_lt_of_le hbl hB)).trans (hx i hi)⟩
theorem NI.wide (h : NI w hi v l) (hh : hi ≤ hi') : NI w hi' v l := by
  obtain ⟨A, len, cap, rfl, h1, h2, hl, hc⟩ := h
  refine ⟨A, len, cap, rfl, h1, h2, hl, fun h0 => ?_⟩
  obtain ⟨b, off, rfl, hbl, hx⟩ := hc h0
  exact ⟨b, off, rfl, by omega, hx⟩
theorem NI.ints (h : NI w hi v l) (hh : hi ≤ w.heap.size) : IntsIn w v l := by
  obtain ⟨A, len, cap, rfl, h1, h2, hl, hc⟩ := h
  refine ⟨A, len, cap, rfl, hl, fun h0 => ?_⟩
  obtain ⟨b, off, rfl, hbl, hx⟩ := hc h0
  exact ⟨b, off, rfl, by omega, hx⟩
theorem NI.intsR (h : NI w hi v l) (hh : hi ≤ w.heap.size) : IntsR w v l := by
  obtain ⟨A, len, cap, rfl, h1, h2, hl, hc⟩ := h
  refine ⟨A, len, cap, rfl, h1, h2, hl, fun h0 => ?_⟩
  obtain ⟨b, off, rfl, hbl, hx⟩ := hc h0
  exact ⟨b, off, rfl, by omega, hx⟩
theorem IntsR.ni (h : IntsR w v l) : NI w w.heap.size v l := by
  obtain ⟨A, len, cap, rfl, h1, h2, hl, hc⟩ := h
  exact ⟨A, len, cap, rfl, h1, h2, hl, hc⟩
theorem NI.slice (h : NI w hi v l) : ∃ A n c, v = .slice A n c := by obtain ⟨A, n, c, e, _⟩ := h; exact ⟨A, n, c, e⟩
theorem NI.nil (w : World) (hi : Nat) : NI w hi (.slice none 0 0) [] := ⟨none, 0, 0, rfl, by omega, by omega, rfl, fun h => by omega⟩
theorem IO.reads (h : IO w lo hi v l) : NI w hi v l := by
  obtain ⟨A, len, cap, rfl, h1, h2, hl, hc⟩ := h.1.readsR
  refine ⟨A, len, cap, rfl, h1, h2, hl, fun h0 => ?_⟩
  obtain ⟨b, off, rfl, hbl, hx⟩ := hc h0
  refine ⟨b, off, rfl, ?_, hx⟩
  rcases h.1.shape with ⟨e, _⟩ | ⟨g, cap', e, _⟩
  · cases e
  · injection e with e1 e2 e3
    injection e1 with e1
    injection e1 with e1 e4
    subst e1
    exact h.2 b rfl
theorem IntsOwn.blockOf (h : IntsOwn w lo v l) {k : Nat} (e : v.ownBlock = some k) : lo ≤ k ∧ k < w.heap.size := World.ownsRow.lt h k e
theorem IO.mk_ (h : IntsOwn w lo v l) : IO w lo w.heap.size v l := ⟨h, fun k e => (h.blockOf e).2⟩
theorem IntsOwn.sames (h : IntsOwn w lo v l) (hs : ∀ k, v.ownBlock = some k → w'.heap[k]? = w.heap[k]?) : IntsOwn w' lo v l := by
  refine ⟨h.1, ?_⟩
  rcases h.2 with h2 | ⟨g, cap, cur, h1, h2, h3, h4⟩
  · exact .inl h2
  · exact .inr ⟨g, cap, cur, h1, h2, (hs g (by rw [h1]; rfl)).trans h3, h4⟩
theorem IO.same (h : IO w lo hi v l) (hs : Same lo hi w w') : IO w' lo hi v l := ⟨h.1.sames fun k e => hs k (h.1.blockOf e).1 (h.2 k e), h.2⟩
theorem IO.below (h : IO w lo hi v l) (hb : Below B w w') (hB : hi ≤ B) : IO w' lo hi v l := h.same (sm hb lo hB)
theorem IntsOwn.low {B' : Nat} (h : IntsOwn w B v l) (hB : B' ≤ B) : IntsOwn w B' v l := by
  refine ⟨h.1, ?_⟩
  rcases h.2 with h2 | ⟨g, cap, cur, h1, h2, h3, h4, h5⟩
  · exact .inl h2
  · exact .inr ⟨g, cap, cur, h1, by omega, h3, h4, h5⟩
theorem IO.wide (h : IO w lo hi v l) (hl : lo' ≤ lo) (hh : hi ≤ hi') : IO w lo' hi' v l := ⟨h.1.low hl, fun k e => by have := h.2 k e; omega⟩
theorem IO.nil (w : World) (lo hi : Nat) : IO w lo hi (.slice none 0 0) [] := ⟨World.ownsRow_nil w lo _ 1, fun k e => by cases e⟩
end
/-- The cells of a table whose lists are the slices u and v. -/
def tbc (T : Tb) (u v : Value) : Array Value := #[.int .i64 T.d, .int .i64 T.b, .int .i64 T.p, .int .i64 T.sp, u, v]
def TbIn (w : World) (hi : Nat) (v : Value) (T : Tb) : Prop := ∃ a b, v = .agg (tbc T a b) ∧ NI w hi a T.bad ∧ NI w hi b T.rm
def TbOwn (w : World) (lo hi : Nat) (v : Value) (T : Tb) : Prop := ∃ a b, v = .agg (tbc T a b) ∧ IO w lo hi a T.bad ∧ IO w lo hi b T.rm ∧ (a.ownBlock = none ∨ a.ownBlock ≠ b.ownBlock)
section
variable {w w' : World} {lo hi lo' hi' B : Nat} {v : Value} {T : Tb}
theorem TbIn.below (h : TbIn w hi v T) (hb : Below B w w') (hB : hi ≤ B) : TbIn w' hi v T := by
  obtain ⟨a, b, e, h1, h2⟩ := h; exact ⟨a, b, e, h1.below hb hB, h2.below hb hB⟩
theorem NI.same {l : List Int} (h : NI w hi v l) (hs : Same 0 hi w w') : NI w' hi v l := by
  obtain ⟨A, len, cap, rfl, h1, h2, hl, hc⟩ := h
  refine ⟨A, len, cap, rfl, h1, h2, hl, fun h0 => ?_⟩
  obtain ⟨b, off, rfl, hbl, hx⟩ := hc h0
  exact ⟨b, off, rfl, hbl, fun i hi => (hs.cell (p := ⟨b, off + i, none⟩) (Nat.zero_le _) hbl).trans (hx i hi)⟩
theorem TbIn.same (h : TbIn w hi v T) (hs : Same 0 hi w w') : TbIn w' hi v T := by
  obtain ⟨a, b, e, h1, h2⟩ := h; exact ⟨a, b, e, h1.same hs, h2.same hs⟩
theorem TbIn.wide (h : TbIn w hi v T) (hh : hi ≤ hi') : TbIn w hi' v T := by
  obtain ⟨a, b, e, h1, h2⟩ := h; exact ⟨a, b, e, h1.wide hh, h2.wide hh⟩
theorem TbOwn.reads (h : TbOwn w lo hi v T) : TbIn w hi v T := by
  obtain ⟨a, b, e, h1, h2, _⟩ := h; exact ⟨a, b, e, h1.reads, h2.reads⟩
theorem TbOwn.same (h : TbOwn w lo hi v T) (hs : Same lo hi w w') : TbOwn w' lo hi v T := by
  obtain ⟨a, b, e, h1, h2, h3⟩ := h; exact ⟨a, b, e, h1.same hs, h2.same hs, h3⟩
theorem TbOwn.wide (h : TbOwn w lo hi v T) (hl : lo' ≤ lo) (hh : hi ≤ hi') : TbOwn w lo' hi' v T := by
  obtain ⟨a, b, e, h1, h2, h3⟩ := h; exact ⟨a, b, e, h1.wide hl hh, h2.wide hl hh, h3⟩
theorem TbOwn.zero (w : World) (lo hi : Nat) : TbOwn w lo hi (.agg #[.int .i64 0, .int .i64 0, .int .i64 0, .int .i64 0, .slice none 0 0, .slice none 0 0]) Tb.zero := ⟨_, _, rfl, IO.nil _ _ _, IO.nil _ _ _, .inl rfl⟩
theorem TbIn.agg6 (h : TbIn w hi v T) : ∃ g0 g1 g2 g3 A n c A' n' c', v = .agg #[.int .i64 g0, .int .i64 g1, .int .i64 g2, .int .i64 g3, .slice A n c, .slice A' n' c'] := by
  obtain ⟨a, b, e, h1, h2⟩ := h
  obtain ⟨A, n, c, rfl⟩ := h1.slice
  obtain ⟨A', n', c', rfl⟩ := h2.slice
  exact ⟨_, _, _, _, _, _, _, _, _, _, e⟩
end
theorem TbOwn.agg6 {w : World} {lo hi : Nat} {v : Value} {T : Tb} (h : TbOwn w lo hi v T) : ∃ (g0 g1 g2 g3 : Int) (A : Option Addr) (n c : Nat) (A' : Option Addr) (n' c' : Nat), v = .agg #[.int .i64 g0, .int .i64 g1, .int .i64 g2, .int .i64 g3, .slice A n c, .slice A' n' c'] := h.reads.agg6
section
variable {w : World} {g : Nat} {t : TypeId}
theorem Rw.six {a b c d e f : Value} (h : Rw w g t #[a, b, c, d, e, f]) : w.cell? ⟨g, 0, none⟩ = some a ∧ w.cell? ⟨g, 1, none⟩ = some b ∧ w.cell? ⟨g, 2, none⟩ = some c ∧ w.cell? ⟨g, 3, none⟩ = some d ∧
    w.cell? ⟨g, 4, none⟩ = some e ∧ w.cell? ⟨g, 5, none⟩ = some f :=
  ⟨h.cell 0, h.cell 1, h.cell 2, h.cell 3, h.cell 4, h.cell 5⟩
theorem Rw.put6 {c0 c1 c2 c3 c4 c5 : Value} (h : Rw w g t #[c0, c1, c2, c3, c4, c5]) (a b c d e f : Value) :
    Rw ((((((w.setCell ⟨g, 0, none⟩ a).setCell ⟨g, 1, none⟩ b).setCell ⟨g, 2, none⟩ c).setCell ⟨g, 3, none⟩ d).setCell ⟨g, 4, none⟩ e).setCell ⟨g, 5, none⟩ f) g t #[a, b, c, d, e, f] := by
  have k := (((((h.set_ 0 a).set_ 1 b).set_ 2 c).set_ 3 d).set_ 4 e).set_ 5 f
  simp only [List.setIfInBounds_toArray, List.set_cons_zero, List.set_cons_succ] at k
  exact k
end
/-- The table fits. -/
def TbSz (T : Tb) : Prop := T.bad.length + T.rm.length ≤ 1048576
end Go.Proofs.YthenilomgbnpeaaGreatDoor
/- Lists of integers compared, in the model and in the program: the contracts. -/
namespace Go.Proofs.YthenilomgbnpeaaGreatDoor
open Go.RowKit
set_option linter.unusedVariables false
theorem list_same {α : Type} {d : α} {L M : List α} (hl : L.length = M.length) (h : ∀ i, i < L.length → L.getD i d = M.getD i d) : L = M := by
  refine List.ext_getElem hl fun i h1 h2 => ?_
  have := h i h1
  rw [List.getD_eq_getElem?_getD, List.getD_eq_getElem?_getD, List.getElem?_eq_getElem h1, List.getElem?_eq_getElem h2] at this
  exact this
theorem not_true {r : Bool} {P : Prop} (hr : r = true ↔ P) (h : ¬ P) : r = false := by
  cases r
  · rfl
  · exact absurd (hr.1 rfl) h
theorem below_drewN {B : Nat} {a w : World} (h : Below B a w) (n : Nat) : Below B a (w.drewN n) := ⟨h.os, h.tape, h.output, h.size, h.block⟩
theorem cast_ne {a b : Nat} (h : a ≠ b) : ((a : Int) != (b : Int)) = true := by simp; omega
end Go.Proofs.YthenilomgbnpeaaGreatDoor
/- Two blocks of an array compared, in the model and in the program: the contracts. -/
namespace Go.Proofs.YthenilomgbnpeaaGreatDoor
open Go.RowKit
set_option linter.unusedVariables false
/-- Two blocks differ at their heads, or are alike up to their pages. -/
theorem blk_heads (x y : Blk) : x.er ≠ y.er ∨ (x.er = y.er ∧ x.nx ≠ y.nx) ∨ (x.er = y.er ∧ x.nx = y.nx ∧ x.bad ≠ y.bad) ∨ (x.er = y.er ∧ x.nx = y.nx ∧ x.bad = y.bad ∧ x.pg.length ≠ y.pg.length) ∨ (x.er = y.er ∧ x.nx = y.nx ∧ x.bad = y.bad ∧ x.pg.length = y.pg.length) := by
  by_cases h1 : x.er = y.er
  case neg => exact .inl h1
  by_cases h2 : x.nx = y.nx
  case neg => exact .inr (.inl ⟨h1, h2⟩)
  by_cases h3 : x.bad = y.bad
  case neg => exact .inr (.inr (.inl ⟨h1, h2, h3⟩))
  by_cases h4 : x.pg.length = y.pg.length
  · exact .inr (.inr (.inr (.inr ⟨h1, h2, h3, h4⟩)))
  · exact .inr (.inr (.inr (.inl ⟨h1, h2, h3, h4⟩)))
theorem blk_eq {x y : Blk} (h1 : x.er = y.er) (h2 : x.nx = y.nx) (h3 : x.bad = y.bad) : x = y ↔ x.pg = y.pg := by
  obtain ⟨a, b, c, d⟩ := x
  obtain ⟨a', b', c', d'⟩ := y
  simp only at h1 h2 h3
  subst h1 h2 h3
  simp
end Go.Proofs.YthenilomgbnpeaaGreatDoor
/- All pages of two arrays compared, but some of one block: the laws' b10Others, where they are equal. -/
namespace Go.Proofs.YthenilomgbnpeaaGreatDoor
open Go.RowKit
set_option linter.unusedVariables false
def OthEq (L M : List Blk) (block low high : Int) : Prop := L.length = M.length ∧ ∀ i, i < L.length → (L.getD i Blk.zero).pg.length = (M.getD i Blk.zero).pg.length ∧
  ∀ k, k < (L.getD i Blk.zero).pg.length → ((i : Int) ≠ block ∨ (k : Int) < low ∨ high < (k : Int)) → (L.getD i Blk.zero).pg.getD k ByteArray.empty = (M.getD i Blk.zero).pg.getD k ByteArray.empty
set_option maxHeartbeats 4000000 in
set_option maxRecDepth 100000 in
theorem others_any (u v : Value) (F G : Fl) (block low high : Int) (w : World) (lo hi lo' hi' : Nat) (hu : FlIn w lo hi u F) (hv : FlIn w lo' hi' v G) (h1 : hi ≤ w.heap.size) (h2 : hi' ≤ w.heap.size) (hE : OthEq F.bs G.bs block low high) (hl : FlLen F) :
    Calls Tryz.prog 12 #[u, v, .int .i64 block, .int .i64 low, .int .i64 high] w fun e w' => e = .returned (.bool true) ∧ Below w.heap.size w w' := by
  obtain ⟨uu, rfl, A, n, c, rfl, hn1, hn2, hn3, hc⟩ := hu
  obtain ⟨vv, rfl, A', n', c', rfl, hm1, hm2, hm3, hc'⟩ := hv
  have hnn : n = n' := by have := hE.1; omega
  subst hnn
  obtain ⟨r0, r1, b0⟩ := Rw.two_new w 28 28 #[.int .i64 F.d, .int .i64 F.b, .int .i64 F.p, .slice A n c, .int .i64 F.fu, .int .i64 F.ke, .bool F.off, .int .i64 F.op] #[.int .i64 G.d, .int .i64 G.b, .int .i64 G.p, .slice A' n c', .int .i64 G.fu, .int .i64 G.ke, .bool G.off, .int .i64 G.op]
  have R0 := Lib.hid r0
  have R1 := Lib.hid r1
  have B0 := Lib.hid b0
  have HC := Lib.hid hc
  have HC' := Lib.hid hc'
  have HE := Lib.hid hE
  have HH := Lib.hid (And.intro h1 h2)
  have HL := Lib.hid hl
  have HN := Lib.hid (show F.bs.length = n from hn3)
  have hnm : (n : Int) ≤ 1048576 := by have := hl.1; omega
  have hnn : ((n : Int) != (n : Int)) = false := by simp
  obtain ⟨d0, d1, d2, d3, d4, d5, d6, d7⟩ := r0.eight
  obtain ⟨e0, e1, e2, e3, e4, e5, e6, e7⟩ := r1.eight
  clear r0 r1 b0 hc hc' hE h1 h2 hl hn1 hn2 hn3 hm1 hm2 hm3
  unfold flc
  go_enter Tryz.func12, Tryz.ntmps12
  go_wp2
  clear d0 d1 d2 d3 d4 d5 d6 d7 e0 e1 e2 e3 e4 e5 e6 e7
  go_loopw [11] (fun i wr => ∃ k : Nat, k ≤ n ∧ i = .int .i64 k ∧ Hid (Rw wr w.heap.size 28 #[.int .i64 F.d, .int .i64 F.b, .int .i64 F.p, .slice A n c, .int .i64 F.fu, .int .i64 F.ke, .bool F.off, .int .i64 F.op]) ∧ Hid (Rw wr (w.heap.size + 1) 28 #[.int .i64 G.d, .int .i64 G.b, .int .i64 G.p, .slice A' n c', .int .i64 G.fu, .int .i64 G.ke, .bool G.off, .int .i64 G.op]) ∧ Hid (Below w.heap.size w wr)) (fun i _ => n - (intOf i).toNat)
  case atStart => exact ⟨0, by omega, rfl, R0, R1, B0⟩
  case round =>
    clear R0 R1 B0
    obtain ⟨i, hi, rfl, R0, R1, B0⟩ := hrel
    obtain ⟨d0, d1, d2, d3, d4, d5, d6, d7⟩ := R0.out.eight
    obtain ⟨e0, e1, e2, e3, e4, e5, e6, e7⟩ := R1.out.eight
    by_cases hlt : i < n
    · have hii : (i : Int) < (n : Int) := by omega
      obtain ⟨gb, off, rfl, hg1, hg2, hcell⟩ := HC.out (by omega)
      obtain ⟨gb', off', rfl, hg1', hg2', hcell'⟩ := HC'.out (by omega)
      obtain ⟨pv, hat, hp⟩ := hcell i hlt
      obtain ⟨pv', hat', hp'⟩ := hcell' i hlt
      obtain ⟨hpl, hpe⟩ := HE.out.2 i (by rw [HN.out]; exact hlt)
      have hpm := HL.out.2 i (by rw [HN.out]; exact hlt)
      unfold Fl.blk at hpm
      obtain ⟨Ap, m, cp, rfl, hq1, hq2, hq3, hq4, hqc⟩ := hp
      obtain ⟨Ap', m', cp', rfl, hq1', hq2', hq3', hq4', hqc'⟩ := hp'
      have hmm : m = m' := by omega
      subst hmm
      have c3 := (B0.out.cell (p := ⟨gb, off + i * 4 + 3, none⟩) (by have := HH.out; show gb < _; omega)).trans hat.2.2.2
      have c3' := (B0.out.cell (p := ⟨gb', off' + i * 4 + 3, none⟩) (by have := HH.out; show gb' < _; omega)).trans hat'.2.2.2
      have QC := Lib.hid hqc
      have QC' := Lib.hid hqc'
      have HPE := Lib.hid hpe
      have HPL := Lib.hid (show (F.bs.getD i Blk.zero).pg.length = m from hq3)
      have hmi : (m : Int) ≤ 1048576 := by omega
      have hmmi : ((m : Int) != (m : Int)) = false := by simp
      clear hcell hcell' hat hat' hpl hpe hpm hq1 hq2 hq3 hq4 hqc hq1' hq2' hq3' hq4' hqc' hg1 hg2 hg1' hg2' HC HC' d0 d1 d2 d4 d5 d6 d7 e0 e1 e2 e4 e5 e6 e7
      go_wp2_with fail
      go_quiet (fail)
      go_wp2_with fail
      obtain ⟨wo, hwo⟩ : ∃ x, x = wr := ⟨_, rfl⟩
      rw [← hwo] at R0 R1 B0 c3 c3' ⊢
      clear hwo
      have T0 := Lib.hid (show Rw (wo.drewN nq) w.heap.size 28 _ from R0.out)
      have T1 := Lib.hid (show Rw (wo.drewN nq) (w.heap.size + 1) 28 _ from R1.out)
      have C3 := Lib.hid (And.intro (show (wo.drewN nq).cell? _ = _ from c3) (show (wo.drewN nq).cell? _ = _ from c3'))
      have TB := Lib.hid (below_drewN B0.out nq)
      clear R0 R1 B0 c3 c3' d3 e3
      go_loopw [12] (fun x wr => ∃ k : Nat, k ≤ m ∧ x = .int .i64 k ∧ Hid (Rw wr w.heap.size 28 #[.int .i64 F.d, .int .i64 F.b, .int .i64 F.p, .slice (some ⟨gb, off, none⟩) n c, .int .i64 F.fu, .int .i64 F.ke, .bool F.off, .int .i64 F.op]) ∧ Hid (Rw wr (w.heap.size + 1) 28 #[.int .i64 G.d, .int .i64 G.b, .int .i64 G.p, .slice (some ⟨gb', off', none⟩) n c', .int .i64 G.fu, .int .i64 G.ke, .bool G.off, .int .i64 G.op]) ∧ Hid (Below w.heap.size w wr) ∧
        Hid (wr.cell? ⟨gb, off + i * 4 + 3, none⟩ = some (.slice Ap m cp) ∧ wr.cell? ⟨gb', off' + i * 4 + 3, none⟩ = some (.slice Ap' m cp'))) (fun x _ => m - (intOf x).toNat)
      case atStart => exact ⟨0, by omega, rfl, T0, T1, TB, C3⟩
      case round =>
        clear T0 T1 TB C3
        obtain ⟨k, hk, rfl, T0, T1, TB, C3⟩ := hrel
        obtain ⟨d0, d1, d2, d3, d4, d5, d6, d7⟩ := T0.out.eight
        obtain ⟨e0, e1, e2, e3, e4, e5, e6, e7⟩ := T1.out.eight
        obtain ⟨c3, c3'⟩ := C3.out
        clear d0 d1 d2 d4 d5 d6 d7 e0 e1 e2 e4 e5 e6 e7
        by_cases hkm : k < m
        · have hki : (k : Int) < (m : Int) := by omega
          obtain ⟨pb, po, rfl, hp1, hp2, hpx⟩ := QC.out (by omega)
          obtain ⟨pb', po', rfl, hp1', hp2', hpx'⟩ := QC'.out (by omega)
          have x1 := (TB.out.cell (p := ⟨pb, po + k, none⟩) (by have := HH.out; show pb < _; omega)).trans (hpx k hkm)
          have x2 := (TB.out.cell (p := ⟨pb', po' + k, none⟩) (by have := HH.out; show pb' < _; omega)).trans (hpx' k hkm)
          have hpe := HPE.out k (by rw [HPL.out]; exact hkm)
          clear hpx hpx' hp1 hp2 hp1' hp2' QC QC'
          by_cases hex : (i : Int) ≠ block ∨ (k : Int) < low ∨ high < (k : Int)
          · have hpe := hpe hex
            rw [hpe] at x1
            clear hpe
            have hs := str_same (rfl : ((G.bs.getD i Blk.zero).pg.getD k ByteArray.empty) = (G.bs.getD i Blk.zero).pg.getD k ByteArray.empty)
            generalize (G.bs.getD i Blk.zero).pg.getD k ByteArray.empty = z at *
            by_cases h1 : (i : Int) = block
            · have b1 : ((i : Int) != block) = false := by simp; omega
              by_cases h2 : (k : Int) < low
              · have b2 : decide ((k : Int) < low) = true := by simp; omega
                clear hex h1
                go_wp2_with fail
                go_quiet (fail)
                go_wp2
                go_roundw
                case rel => exact ⟨k + 1, by omega, by go_num, Lib.hid (show Rw (wr.drewN nq) _ _ _ from T0.out), Lib.hid (show Rw (wr.drewN nq) _ _ _ from T1.out), Lib.hid (below_drewN TB.out nq), C3⟩
                case measure => simp [intOf]; omega
              · have b2 : decide ((k : Int) < low) = false := by simp; omega
                have b3 : decide ((k : Int) > high) = true := by simp; omega
                clear hex h1
                go_wp2_with fail
                go_quiet (fail)
                go_wp2
                go_roundw
                case rel => exact ⟨k + 1, by omega, by go_num, Lib.hid (show Rw (wr.drewN nq) _ _ _ from T0.out), Lib.hid (show Rw (wr.drewN nq) _ _ _ from T1.out), Lib.hid (below_drewN TB.out nq), C3⟩
                case measure => simp [intOf]; omega
            · have b1 : ((i : Int) != block) = true := by simp; omega
              clear hex
              go_wp2_with fail
              go_quiet (fail)
              go_wp2
              go_roundw
              case rel => exact ⟨k + 1, by omega, by go_num, Lib.hid (show Rw (wr.drewN nq) _ _ _ from T0.out), Lib.hid (show Rw (wr.drewN nq) _ _ _ from T1.out), Lib.hid (below_drewN TB.out nq), C3⟩
              case measure => simp [intOf]; omega
          · have b1 : ((i : Int) != block) = false := by simp; omega
            have b2 : decide ((k : Int) < low) = false := by simp; omega
            have b3 : decide ((k : Int) > high) = false := by simp; omega
            clear hpe hex
            go_wp2_with fail
            go_quiet (fail)
            go_wp2
            go_roundw
            case rel => exact ⟨k + 1, by omega, by go_num, Lib.hid (show Rw (wr.drewN nq) _ _ _ from T0.out), Lib.hid (show Rw (wr.drewN nq) _ _ _ from T1.out), Lib.hid (below_drewN TB.out nq), C3⟩
            case measure => simp [intOf]; omega
        · obtain rfl : k = m := by omega
          clear QC QC' HPE
          go_wp2
          go_roundw
          case rel => exact ⟨i + 1, by omega, by go_num, T0, T1, TB⟩
          case measure => simp [intOf]; omega
    · obtain rfl : i = n := by omega
      clear HC HC' HE HL HH HN
      go_wp2
      go_ret
      exact ⟨rfl, B0.out⟩
end Go.Proofs.YthenilomgbnpeaaGreatDoor
