/- The proof's own lemmas, part 14: Strs FlA FlG FlF FlQ. -/
import Derived.Test.YthenilomgbnpeaaGreatDoorProg
import Derived.Test.YthenilomgbnpeaaGreatDoorMg0
import Derived.WalkKit
import Derived.ProofKit
import Derived.Lib.Hide
import Derived.BigQuiet
import Derived.Deep.QuietTactic
import Derived.Test.YthenilomgbnpeaaGreatDoorMg12
import Derived.Test.YthenilomgbnpeaaGreatDoorMg3
import Derived.Test.YthenilomgbnpeaaGreatDoorMg4
/- Slices of texts: those that come in and are read, those that the call itself makes; the laws' helpers szStringS, toStringS, eqStringS. -/
namespace Go.Proofs.YthenilomgbnpeaaGreatDoor
open Go.RowKit

/-- What is known of a slice of texts that came in. -/
def IsStrs (w : World) (a : Option Addr) (len cap : Nat) (zs : List ByteArray) : Prop :=
  (a = none ∧ len = 0 ∧ cap = 0 ∧ zs = []) ∨
  ∃ x, a = some x ∧ len ≤ cap ∧ cap ≤ maxLen ∧ zs.length = cap ∧ (∀ i, i < zs.length → w.cell? (x.add i) = some (.string (zs.getD i ByteArray.empty))) ∧ ∀ s ∈ zs, s.size ≤ maxLen
/-- The value v is a slice that reads as the texts L. -/
def StrsIn (w : World) (v : Value) (L : List ByteArray) : Prop := ∃ A len cap, v = .slice A len cap ∧ len ≤ cap ∧ cap ≤ 9223372036854775807 ∧ L.length = len ∧ (0 < len → ∃ b off, A = some ⟨b, off, none⟩ ∧ b < w.heap.size ∧ ∀ i, i < len → w.cell? ⟨b, off + i, none⟩ = some (.string (L.getD i ByteArray.empty)))
theorem StrsIn.below {w w' : World} {B : Nat} {v : Value} {L : List ByteArray} (h : StrsIn w v L) (hb : Below B w w') (hB : w.heap.size ≤ B) : StrsIn w' v L := by
  obtain ⟨A, len, cap, rfl, hlc, hcm, hl, hc⟩ := h
  refine ⟨A, len, cap, rfl, hlc, hcm, hl, fun h0 => ?_⟩
  obtain ⟨b, off, rfl, hbl, hx⟩ := hc h0
  exact ⟨b, off, rfl, by have := hb.size; omega, fun i hi => (hb.cell (p := ⟨b, off + i, none⟩) (Nat.lt_of_lt_of_le hbl hB)).trans (hx i hi)⟩
theorem IsStrs.reads {w : World} {a : Option Addr} {len cap : Nat} {zs : List ByteArray} (h : IsStrs w a len cap zs) : StrsIn w (.slice a len cap) (zs.take len) ∧ ∀ s ∈ zs.take len, s.size ≤ maxLen := by
  rcases h with ⟨rfl, rfl, rfl, rfl⟩ | ⟨x, rfl, h1, h2, h3, hc, hw⟩
  · exact ⟨⟨none, 0, 0, rfl, Nat.le_refl _, by omega, rfl, fun h => by omega⟩, fun s hs => by cases hs⟩
  · refine ⟨⟨_, len, cap, rfl, h1, by unfold maxLen at h2; omega, by simp; omega, fun h0 => ?_⟩, fun s hs => hw s (List.mem_of_mem_take hs)⟩
    obtain ⟨b, off, spot⟩ := x
    have h00 := hc 0 (by omega)
    have hspot : spot = none := by simpa [Addr.add] using World.cell?_spot h00
    subst hspot
    refine ⟨b, off, rfl, World.block_lt_of_cell? w ⟨b, off, none⟩ (by simpa [Addr.add] using h00), fun i hi => ?_⟩
    have := hc i (by omega)
    have e : (⟨b, off, none⟩ : Addr).add i = ⟨b, off + i, none⟩ := by unfold Addr.add; split <;> simp_all
    rw [e] at this
    rw [this, List.getD_eq_getElem?_getD, List.getD_eq_getElem?_getD, List.getElem?_take, if_pos hi]
/-- The value v is a slice of the call's own (in a block from B on) that holds the texts L. -/
def StrsOwn (w : World) (B : Nat) (v : Value) (L : List ByteArray) : Prop := w.ownsRow B 9 1 v L.length (L.map Value.string)
theorem infoStr : (Tryz.prog.info? 9).map (fun i => (i.zero, i.size, i.bytes)) = some (some (.string ByteArray.empty), 1, 16) := by kernel_rfl
section
variable {w w' : World} {B : Nat} {v : Value} {L : List ByteArray}
theorem StrsOwn.shape (h : StrsOwn w B v L) : (v = .slice none 0 0 ∧ L = []) ∨ ∃ g cap, v = .slice (some ⟨g, 0, none⟩) L.length cap ∧ L.length ≤ cap ∧ cap ≤ 9223372036854775807 ∧ B ≤ g ∧ g < w.heap.size := by
  rcases h.2 with ⟨h1, h2⟩ | ⟨g, cap, cur, h1, h2, h3, h4, h5, _⟩
  · exact .inl ⟨h1, List.eq_nil_of_length_eq_zero h2⟩
  · refine .inr ⟨g, cap, h1, h4, by unfold maxLen at h5; omega, h2, ?_⟩
    rcases Nat.lt_or_ge g w.heap.size with hlt | hge
    · exact hlt
    · rw [Array.getElem?_eq_none hge] at h3; cases h3
theorem StrsOwn.cell {g n cap : Nat} (h : StrsOwn w B (.slice (some ⟨g, 0, none⟩) n cap) L) {j : Nat} (hn : L.length = n) (hj : j < n) : w.cell? ⟨g, j, none⟩ = some (.string (L.getD j ByteArray.empty)) := by
  unfold StrsOwn at h
  rw [hn] at h
  rw [World.ownsRow.cellAt h j (by omega)]
  simp [show j < L.length by omega]
theorem StrsOwn.free {g n cap : Nat} (h : StrsOwn w B (.slice (some ⟨g, 0, none⟩) n cap) L) (hn : L.length = n) (j : Nat) : w.frozen? ⟨g, j, none⟩ = false := by
  unfold StrsOwn at h
  rw [hn] at h
  exact World.ownsRow.frozenAt h j
theorem StrsOwn.stored {g n cap : Nat} (h : StrsOwn w B (.slice (some ⟨g, 0, none⟩) n cap) L) (hn : L.length = n) (j : Nat) (b : ByteArray) :
    StrsOwn (w.setCell ⟨g, j, none⟩ (.string b)) B (.slice (some ⟨g, 0, none⟩) n cap) (L.set j b) := by
  unfold StrsOwn at h ⊢
  rw [hn] at h
  have := (World.ownsRow.stored h j (.string b)).1
  rw [List.length_set, hn, List.map_set]
  exact this
theorem StrsOwn.reads (h : StrsOwn w B v L) : StrsIn w v L := by
  rcases h.shape with ⟨rfl, rfl⟩ | ⟨g, cap, rfl, h1, h2, h3, h4⟩
  · exact ⟨none, 0, 0, rfl, Nat.le_refl _, by omega, rfl, fun h => by omega⟩
  · exact ⟨_, _, _, rfl, h1, h2, rfl, fun _ => ⟨g, 0, rfl, h4, fun i hi => by rw [Nat.zero_add]; exact h.cell rfl hi⟩⟩
theorem StrsOwn.later {B' : Nat} (h : StrsOwn w B v L) (hb : Below B' w w') (hB : w.heap.size ≤ B') : StrsOwn w' B v L := by
  refine ⟨h.1, ?_⟩
  rcases h.2 with h2 | ⟨g, cap, cur, h1, h2, h3, h4⟩
  · exact .inl h2
  · have hg : g < w.heap.size := by
      rcases Nat.lt_or_ge g w.heap.size with hlt | hge
      · exact hlt
      · rw [Array.getElem?_eq_none hge] at h3; cases h3
    exact .inr ⟨g, cap, cur, h1, h2, (hb.block g (by omega)).trans h3, h4⟩
end
theorem wpList_make_strs {Q : Exit → Act → World → Prop} {ops : Array Oper} {rest : List Oper} {o : Oper} {a : Act} {w0 w : World} {B : Nat} (hgd : o.guard = none) (l c : Operand)
    (ho : o.op = Op.makeSlice 49 l c) (n : Nat) (hl : a.eval l = .int .i64 (n : Int)) (hc : a.eval c = .int .i64 (n : Int)) (hn : n ≤ 1048576)
    (hb : Below B w0 w) (hB : B ≤ w.heap.size)
    (h : ∀ w', StrsOwn w' B (.slice (some ⟨w.heap.size, 0, none⟩) n n) (List.replicate n ByteArray.empty) → Below B w0 w' → wpList Tryz.prog ops Q rest (a.put o.dst (.slice (some ⟨w.heap.size, 0, none⟩) n n)) w') :
    wpList Tryz.prog ops Q (o :: rest) a w := by
  obtain ⟨i0, hi, hz0, hz1, hz2⟩ := info_parts infoStr
  refine wpList_make_full w hgd l c _ ho B 9 i0 (.string ByteArray.empty) 1 Tryz.underlying49 hi hz0 hz1 .i64 .i64 (n : Int) (n : Int) n hl hc rfl rfl (by rw [hz2]; omega) (by unfold maxLen; omega) hB ?_
  intro w' h1 h2
  refine h w' ?_ (hb.grown h2 hB fun k hk => by simp at hk)
  have e : (madeCells (Value.string ByteArray.empty).cells (n * 1)).toList = (List.replicate n ByteArray.empty).map Value.string := by
    show (madeCells #[Value.string ByteArray.empty] (n * 1)).toList = _
    rw [toList_madeCells_one]; simp
  rw [e] at h1
  unfold StrsOwn; simpa using h1
end Go.Proofs.YthenilomgbnpeaaGreatDoor
/- The laws' helpers over arrays: szFlash, toFlash, eqFlash: their contracts. -/
namespace Go.Proofs.YthenilomgbnpeaaGreatDoor
open Go.RowKit
set_option linter.unusedVariables false

theorem PgIn.strs {w : World} {lo hi : Nat} {v : Value} {L : List ByteArray} (h : PgIn w lo hi v L) (hh : hi ≤ w.heap.size) : StrsIn w v L := by
  obtain ⟨A, len, cap, e, h1, h2, h3, h4, hc⟩ := h
  refine ⟨A, len, cap, e, h1, h2, h3, fun h0 => ?_⟩
  obtain ⟨b, off, e, h5, h6, hx⟩ := hc h0
  exact ⟨b, off, e, by omega, hx⟩
theorem PgIn.small {w : World} {lo hi : Nat} {v : Value} {L : List ByteArray} (h : PgIn w lo hi v L) : ∀ i, i < L.length → (L.getD i ByteArray.empty).size ≤ 9223372036854775807 := by
  obtain ⟨A, len, cap, e, h1, h2, h3, h4, hc⟩ := h
  exact fun i hi => h4 i (by omega)
theorem StrsOwn.pages {w : World} {B g : Nat} {v : Value} {L : List ByteArray} (h : StrsOwn w B v L) (hg : g < B) (hL : ∀ i, i < L.length → (L.getD i ByteArray.empty).size ≤ 9223372036854775807) : PgOwn w B w.heap.size g v L := by
  rcases h.shape with ⟨rfl, rfl⟩ | ⟨k, cap, rfl, h1, h2, h3, h4⟩
  · exact ⟨none, 0, 0, rfl, Nat.le_refl _, by omega, rfl, fun i hi => by omega, fun h => by omega⟩
  · exact ⟨_, _, _, rfl, h1, h2, rfl, hL, fun _ => ⟨k, 0, rfl, h3, h4, by omega, h.free rfl, fun i hi => by rw [Nat.zero_add]; exact h.cell rfl hi⟩⟩

/-! Sizes. -/
def szS : List ByteArray → Nat
  | [] => 0
  | s :: L => s.size + szS L
theorem szS_append : ∀ L M : List ByteArray, szS (L ++ M) = szS L + szS M
  | [], M => by simp [szS]
  | s :: L, M => by simp only [List.cons_append, szS, szS_append L M]; omega
theorem szS_take {L : List ByteArray} {i : Nat} (h : i < L.length) : szS (L.take (i + 1)) = szS (L.take i) + (L.getD i ByteArray.empty).size := by
  rw [List.take_succ_eq_append_getElem h, szS_append, List.getD_eq_getElem?_getD, List.getElem?_eq_getElem h]
  simp [szS]
theorem szS_one {L : List ByteArray} {i : Nat} (h : i < L.length) : (L.getD i ByteArray.empty).size ≤ szS L := by
  have e := szS_append (L.take (i + 1)) (L.drop (i + 1))
  rw [List.take_append_drop, szS_take h] at e
  omega
theorem szS_le {L : List ByteArray} (i : Nat) : szS (L.take i) ≤ szS L := by
  have e := szS_append (L.take i) (L.drop i)
  rw [List.take_append_drop] at e
  omega
def szP (L : List ByteArray) : Nat := L.length + szS L
def szB : List Blk → Nat
  | [] => 0
  | x :: L => szP x.pg + szB L
theorem szB_append : ∀ L M : List Blk, szB (L ++ M) = szB L + szB M
  | [], M => by simp [szB]
  | s :: L, M => by simp only [List.cons_append, szB, szB_append L M]; omega
theorem szB_take {L : List Blk} {i : Nat} (h : i < L.length) : szB (L.take (i + 1)) = szB (L.take i) + szP (L.getD i Blk.zero).pg := by
  rw [List.take_succ_eq_append_getElem h, szB_append, List.getD_eq_getElem?_getD, List.getElem?_eq_getElem h]
  simp [szB]
theorem szB_one {L : List Blk} {i : Nat} (h : i < L.length) : szP (L.getD i Blk.zero).pg ≤ szB L := by
  have e := szB_append (L.take (i + 1)) (L.drop (i + 1))
  rw [List.take_append_drop, szB_take h] at e
  omega
theorem szB_le {L : List Blk} (i : Nat) : szB (L.take i) ≤ szB L := by
  have e := szB_append (L.take i) (L.drop i)
  rw [List.take_append_drop] at e
  omega
theorem markN_sz : ∀ L : List Blk, markN L ≤ 3 * L.length + szB L
  | [] => by simp [markN]
  | x :: L => by have := markN_sz L; simp only [markN, szB, szP, List.length_cons]; omega
/-- The array fits: blocks, pages and bytes together are few. -/
def FlSz (F : Fl) : Prop := F.bs.length + szB F.bs ≤ 1048576
theorem FlSz.pages {F : Fl} (h : FlSz F) {i : Nat} (hi : i < F.bs.length) : (F.blk i).pg.length ≤ 1048576 ∧ ∀ j, j < (F.blk i).pg.length → ((F.blk i).at j).size ≤ 1048576 := by
  unfold FlSz at h
  have h1 := szB_one hi
  unfold szP at h1
  refine ⟨by show (F.bs.getD i Blk.zero).pg.length ≤ _; omega, fun j hj => ?_⟩
  have := szS_one (L := (F.bs.getD i Blk.zero).pg) hj
  show ((F.bs.getD i Blk.zero).pg.getD j ByteArray.empty).size ≤ _
  omega
/-- What is left of n behind t: the rest, or -1. -/
def Left (n : Int) (t : Nat) (x : Int) : Prop := ((t : Int) ≤ n ∧ x = n - (t : Int)) ∨ (n < (t : Int) ∧ x = -1)
def LeftPost (n : Int) (t : Nat) (w : World) (e : Ending) (w' : World) : Prop := ∃ x : Int, e = .returned (.int .i64 x) ∧ Left n t x ∧ Below w.heap.size w w'
theorem Left.small {F : Fl} {x : Int} (h : Left 1048576 (F.bs.length + szB F.bs) x) (h0 : ¬ x < 0) : FlSz F := by
  unfold FlSz
  rcases h with h | h <;> omega

/-! Copies. -/
theorem infoBk : (Tryz.prog.info? 51).map (·.size) = some 4 := by kernel_rfl
def ToBk (x : Blk) (w : World) (e : Ending) (w' : World) : Prop := ∃ A c, e = .returned (.agg #[.int .i64 x.er, .int .i64 x.nx, .bool x.bad, .slice A x.pg.length c]) ∧ (∀ g, g < w.heap.size → PgOwn w' w.heap.size w'.heap.size g (.slice A x.pg.length c) x.pg) ∧ Below w.heap.size w w'
theorem infoBkZ : (Tryz.prog.info? 51).map (fun i => (i.zero, i.size, i.bytes)) = some (some (.agg #[.int .i64 0, .int .i64 0, .bool false, .slice none 0 0]), 4, 48) := by kernel_rfl
theorem wpList_make_blocks {Q : Exit → Act → World → Prop} {ops : Array Oper} {rest : List Oper} {o : Oper} {a : Act} {w0 w : World} {B : Nat} (hgd : o.guard = none) (l c : Operand)
    (ho : o.op = Op.makeSlice 26 l c) (n : Nat) (hl : a.eval l = .int .i64 (n : Int)) (hc : a.eval c = .int .i64 (n : Int)) (hn : n ≤ 1048576)
    (hb : Below B w0 w) (hB : B ≤ w.heap.size)
    (h : ∀ w', BO w' B w'.heap.size w.heap.size (fun _ => .slice none 0 0) (List.replicate n Blk.zero) → Below B w0 w' → wpList Tryz.prog ops Q rest (a.put o.dst (.slice (some ⟨w.heap.size, 0, none⟩) n n)) w') :
    wpList Tryz.prog ops Q (o :: rest) a w := by
  obtain ⟨i0, hi, hz0, hz1, hz2⟩ := info_parts infoBkZ
  refine wpList_make_full w hgd l c _ ho B 51 i0 (.agg #[.int .i64 0, .int .i64 0, .bool false, .slice none 0 0]) 4 Tryz.underlying26 hi hz0 hz1 .i64 .i64 (n : Int) (n : Int) n hl hc rfl rfl (by rw [hz2]; omega) (by unfold maxLen; omega) hB ?_
  intro w' h1 h2
  refine h w' ?_ (hb.grown h2 hB fun k hk => by simp at hk)
  have h3 := World.ownsRow.lt h1 w.heap.size rfl
  exact BO.made h1 h3.2 h3.1
theorem infoGeo : (Tryz.prog.info? 25).map (·.size) = some 3 := by kernel_rfl
theorem infoFl : (Tryz.prog.info? 28).map (·.size) = some 8 := by kernel_rfl
end Go.Proofs.YthenilomgbnpeaaGreatDoor
/- What a call that hands back an array leaves behind: plain helpers. -/
namespace Go.Proofs.YthenilomgbnpeaaGreatDoor
open Go.RowKit
set_option linter.unusedVariables false
def OwnPost (G : Fl) (w : World) (e : Ending) (w' : World) : Prop := ∃ u, e = .returned u ∧ FlOwn w' w.heap.size w'.heap.size u G ∧ Below w.heap.size w w'
/-- What PowerOn answers. -/
def OnEnds (F G : Fl) : Prop := (FlOk F ∧ G = F.on) ∨ (¬ FlOk F ∧ G = Fl.zero)
theorem onEnds (F : Fl) : ∃ G, OnEnds F G := by
  by_cases h : FlOk F
  · exact ⟨_, .inl ⟨h, rfl⟩⟩
  · exact ⟨_, .inr ⟨h, rfl⟩⟩
theorem zeroOwn (w : World) (lo hi : Nat) : FlOwn w lo hi (.agg #[.int .i64 0, .int .i64 0, .int .i64 0, .slice none 0 0, .int .i64 0, .int .i64 0, .bool false, .int .i64 0]) Fl.zero := FlOwn.zero w lo hi
/-- The eight cells of a result laid anew. -/
theorem Rw.put8 {w : World} {g : Nat} {t : TypeId} {c0 c1 c2 c3 c4 c5 c6 c7 : Value} (h : Rw w g t #[c0, c1, c2, c3, c4, c5, c6, c7]) (a b c d e f i j : Value) :
    Rw ((((((((w.setCell ⟨g, 0, none⟩ a).setCell ⟨g, 1, none⟩ b).setCell ⟨g, 2, none⟩ c).setCell ⟨g, 3, none⟩ d).setCell ⟨g, 4, none⟩ e).setCell ⟨g, 5, none⟩ f).setCell ⟨g, 6, none⟩ i).setCell ⟨g, 7, none⟩ j) g t #[a, b, c, d, e, f, i, j] := by
  have k := (((((((h.set_ 0 a).set_ 1 b).set_ 2 c).set_ 3 d).set_ 4 e).set_ 5 f).set_ 6 i).set_ 7 j
  simp only [List.setIfInBounds_toArray, List.set_cons_zero, List.set_cons_succ] at k
  exact k
theorem Rw.eightA {w : World} {g : Nat} {t : TypeId} {a b c d e f i j : Value} (h : Rw w g t #[a, b, c, d, e, f, i, j]) : (∀ o, (w.alloc o).cell? ⟨g, 0, none⟩ = some a) ∧ (∀ o, (w.alloc o).cell? ⟨g, 1, none⟩ = some b) ∧ (∀ o, (w.alloc o).cell? ⟨g, 2, none⟩ = some c) ∧ (∀ o, (w.alloc o).cell? ⟨g, 3, none⟩ = some d) ∧
    (∀ o, (w.alloc o).cell? ⟨g, 4, none⟩ = some e) ∧ (∀ o, (w.alloc o).cell? ⟨g, 5, none⟩ = some f) ∧ (∀ o, (w.alloc o).cell? ⟨g, 6, none⟩ = some i) ∧ (∀ o, (w.alloc o).cell? ⟨g, 7, none⟩ = some j) :=
  ⟨fun o => (h.alloc o).cell 0, fun o => (h.alloc o).cell 1, fun o => (h.alloc o).cell 2, fun o => (h.alloc o).cell 3, fun o => (h.alloc o).cell 4, fun o => (h.alloc o).cell 5, fun o => (h.alloc o).cell 6, fun o => (h.alloc o).cell 7⟩
theorem Rw.freesA {w : World} {g : Nat} {t : TypeId} {cs : Array Value} (h : Rw w g t cs) : (∀ o, (w.alloc o).frozen? ⟨g, 0, none⟩ = false) ∧ (∀ o, (w.alloc o).frozen? ⟨g, 1, none⟩ = false) ∧ (∀ o, (w.alloc o).frozen? ⟨g, 2, none⟩ = false) ∧ (∀ o, (w.alloc o).frozen? ⟨g, 3, none⟩ = false) ∧
    (∀ o, (w.alloc o).frozen? ⟨g, 4, none⟩ = false) ∧ (∀ o, (w.alloc o).frozen? ⟨g, 5, none⟩ = false) ∧ (∀ o, (w.alloc o).frozen? ⟨g, 6, none⟩ = false) ∧ (∀ o, (w.alloc o).frozen? ⟨g, 7, none⟩ = false) :=
  ⟨fun o => (h.alloc o).free 0, fun o => (h.alloc o).free 1, fun o => (h.alloc o).free 2, fun o => (h.alloc o).free 3, fun o => (h.alloc o).free 4, fun o => (h.alloc o).free 5, fun o => (h.alloc o).free 6, fun o => (h.alloc o).free 7⟩
theorem BksOwn.slice {w : World} {lo hi : Nat} {v : Value} {L : List Blk} (h : BksOwn w lo hi v L) : ∃ A n c, v = .slice A n c := by
  obtain ⟨A, n, c, e, _⟩ := h; exact ⟨A, n, c, e⟩
theorem BksIn.slice {w : World} {lo hi : Nat} {v : Value} {L : List Blk} (h : BksIn w lo hi v L) : ∃ A n c, v = .slice A n c := by
  obtain ⟨A, n, c, e, _⟩ := h; exact ⟨A, n, c, e⟩
def FlPost (G : Fl) (c : Int) (w : World) (e : Ending) (w' : World) : Prop := ∃ u, e = .returned (.tuple #[u, .int .i64 c]) ∧ FlOwn w' w.heap.size w'.heap.size u G ∧ Below w.heap.size w w'
theorem grown_refl (w : World) (row : Option Nat) : w.grownBy w row := ⟨rfl, rfl, rfl, Nat.le_refl _, fun _ _ _ => rfl⟩
theorem grown_set {w w' : World} {g k : Nat} (h : w.grownBy w' (some g)) (u : Value) : w.grownBy (w'.setCell ⟨g, k, none⟩ u) (some g) :=
  ⟨h.os, h.tape, h.output, by simpa using h.size, fun j hj hr => (Below.heap_setCell w' ⟨g, k, none⟩ u j (fun e => hr (by rw [e]))).trans (h.block j hj hr)⟩
theorem grown_keep {w w' : World} {g : Nat} (h : w.grownBy w' (some g)) {B : Nat} (hB : B ≤ g) (hw : B ≤ w.heap.size) : Below B w w' :=
  (Below.refl B w).grown h hw (fun k hk => by injection hk with hk; omega)
end Go.Proofs.YthenilomgbnpeaaGreatDoor
/- The operations keep an array valid. No program in it. -/
namespace Go.Proofs.YthenilomgbnpeaaGreatDoor
open Go.RowKit
set_option linter.unusedVariables false

theorem PageOk.more {a b : Int} {i : Nat} {s : ByteArray} (h : PageOk a i s) (hab : a ≤ b) : PageOk b i s := by
  rcases h with h | ⟨h, h2⟩
  · exact .inl h
  · exact .inr ⟨h, by omega⟩
theorem BlkOk.prog {p : Int} {x : Blk} (h : BlkOk p x) (hn : x.nx < p) {raw : ByteArray} (hr : raw.size = 91) : BlkOk p (x.prog raw) := by
  obtain ⟨h1, h2, h3, h4⟩ := h
  refine ⟨h1, ⟨by show 0 ≤ x.nx + 1; omega, by show x.nx + 1 ≤ p; omega⟩, by show ((x.pg.set _ _).length : Int) = p; rw [List.length_set]; exact h3, fun i hi => ?_⟩
  change i < (x.pg.set _ _).length at hi
  rw [List.length_set] at hi
  show PageOk (x.nx + 1) i ((x.pg.set x.nx.toNat raw).getD i ByteArray.empty)
  by_cases e : x.nx.toNat = i
  · subst e; rw [getD_set_eq _ _ _ _ hi]; exact .inr ⟨hr, by omega⟩
  · rw [getD_set_ne _ _ _ _ _ e]; exact (h4 i hi).more (by omega)
theorem BlkOk.torn {p : Int} {x : Blk} (h : BlkOk p x) (hn : x.nx < p) {raw : ByteArray} (hr : raw.size = 91) {ke : Int} (hk : 0 ≤ ke ∧ ke ≤ 91) : BlkOk p (x.torn raw ke) := by
  obtain ⟨h1, h2, h3, h4⟩ := h
  have ht := tornB_size (k := ke.toNat) hr (by omega)
  have key : ∀ L : List ByteArray, L.length = x.pg.length → (∀ i, i < L.length → PageOk (x.nx + 1) i (L.getD i ByteArray.empty)) → BlkOk p { x with pg := L.set x.nx.toNat (tornB raw ke.toNat), nx := x.nx + 1 } := by
    intro L hL hp
    refine ⟨h1, ⟨by show 0 ≤ x.nx + 1; omega, by show x.nx + 1 ≤ p; omega⟩, by show ((L.set _ _).length : Int) = p; rw [List.length_set, hL]; exact h3, fun i hi => ?_⟩
    change i < (L.set _ _).length at hi
    rw [List.length_set] at hi
    show PageOk (x.nx + 1) i ((L.set x.nx.toNat (tornB raw ke.toNat)).getD i ByteArray.empty)
    by_cases e : x.nx.toNat = i
    · subst e; rw [getD_set_eq _ _ _ _ hi]; exact .inr ⟨ht, by omega⟩
    · rw [getD_set_ne _ _ _ _ _ e]; exact hp i hi
  unfold Blk.torn
  by_cases hc : x.nx.toNat % 2 = 1 ∧ ke < 91
  · rw [if_pos hc]
    refine key _ (List.length_set) fun i hi => ?_
    rw [List.length_set] at hi
    by_cases e : x.nx.toNat - 1 = i
    · subst e; rw [getD_set_eq _ _ _ _ hi]; exact .inr ⟨destB_size, by omega⟩
    · rw [getD_set_ne _ _ _ _ _ e]; exact (h4 i hi).more (by omega)
  · rw [if_neg hc]
    exact key _ rfl fun i hi => (h4 i hi).more (by omega)
theorem emptied_at (l : List ByteArray) (m i : Nat) (hi : i < l.length) : (emptied l m).getD i ByteArray.empty = if i < m then ByteArray.empty else l.getD i ByteArray.empty := by
  unfold emptied
  rw [List.getD_eq_getElem?_getD]
  by_cases h : i < m
  · rw [if_pos h, List.getElem?_append_left (by simp; omega), List.getElem?_replicate]
    split <;> rfl
  · rw [if_neg h, List.getElem?_append_right (by simp; omega), List.length_replicate, Nat.min_eq_left (by omega), List.getElem?_drop, List.getD_eq_getElem?_getD]
    rw [show m + (i - m) = i by omega]
theorem BlkOk.erase {p : Int} {x : Blk} (h : BlkOk p x) (he : x.er ≠ 1000) (m : Nat) : BlkOk p (x.erase m) := by
  obtain ⟨h1, h2, h3, h4⟩ := h
  refine ⟨⟨by show 0 ≤ x.er + 1; omega, by show x.er + 1 ≤ 1000; omega⟩, ?_, by show ((emptied _ _).length : Int) = p; rw [emptied_length]; exact h3, fun i hi => ?_⟩
  · show 0 ≤ (if m < x.pg.length then (x.pg.length : Int) else 0) ∧ (if m < x.pg.length then (x.pg.length : Int) else 0) ≤ p
    split <;> omega
  · change i < (emptied _ _).length at hi
    rw [emptied_length] at hi
    show PageOk (if m < x.pg.length then (x.pg.length : Int) else 0) i ((emptied x.pg m).getD i ByteArray.empty)
    rw [emptied_at _ _ _ hi]
    by_cases h : i < m
    · rw [if_pos h]; exact .inl rfl
    · rw [if_neg h, if_pos (by omega)]; exact (h4 i hi).more (by omega)
theorem FlOk.upd {F : Fl} (h : FlOk F) (k : Nat) {x : Blk} (hx : BlkOk F.p x) : FlOk (F.upd k x) := by
  obtain ⟨a, b, c, d, e, f⟩ := h
  refine ⟨a, by show ((F.bs.set k x).length : Int) = _; rw [List.length_set]; exact b, fun i hi => ?_, d, e, f⟩
  change i < (F.bs.set k x).length at hi
  rw [List.length_set] at hi
  show BlkOk F.p ((F.bs.set k x).getD i Blk.zero)
  by_cases e : k = i
  · subst e; rw [getD_set_eq _ _ _ _ hi]; exact hx
  · rw [getD_set_ne _ _ _ _ _ e]; exact c i hi
theorem FlOk.tick {F : Fl} (h : FlOk F) (ho : F.op < 9223372036854775807) : FlOk F.tick := by
  obtain ⟨a, b, c, d, e, f⟩ := h
  refine ⟨a, b, c, ?_, e, ?_⟩
  · show -1 ≤ (if F.fu = 0 then -1 else if 0 < F.fu then F.fu - 1 else F.fu) ∧ (if F.fu = 0 then -1 else if 0 < F.fu then F.fu - 1 else F.fu) ≤ 1000000
    split
    · omega
    · split <;> omega
  · show 0 ≤ wrap64 (F.op + 1)
    rw [IntWalk.wrap64_in _ (by omega)]; omega
theorem FlOk.prog {F : Fl} (h : FlOk F) (ho : F.op < 9223372036854775807) {k : Nat} (hk : k < F.bs.length) (hn : (F.blk k).nx < F.p) {raw : ByteArray} (hr : raw.size = 91) : FlOk (F.prog k raw) := by
  have hb := h.2.2.1 k hk
  unfold Fl.prog
  split
  · split
    · exact h.tick ho
    · exact (h.tick ho).upd k (x := (F.blk k).torn raw F.ke) (hb.torn hn hr h.2.2.2.2.1)
  · exact (h.tick ho).upd k (x := (F.blk k).prog raw) (hb.prog hn hr)
theorem FlOk.erase {F : Fl} (h : FlOk F) (ho : F.op < 9223372036854775807) {k : Nat} (hk : k < F.bs.length) (he : (F.blk k).er ≠ 1000) : FlOk (F.erase k) :=
  (h.tick ho).upd k (x := (F.blk k).erase _) ((h.2.2.1 k hk).erase he _)
end Go.Proofs.YthenilomgbnpeaaGreatDoor
/- The start of an operation, in the model and in the program: the contracts. -/
namespace Go.Proofs.YthenilomgbnpeaaGreatDoor
open Go.RowKit
set_option linter.unusedVariables false

/-- How much of an operation takes effect. -/
def Fl.much (F : Fl) : Int := if F.fu = 0 then F.ke else 91
theorem tick_zero {F : Fl} (h : F.fu = 0) : F.tick = { F with op := wrap64 (F.op + 1), off := true, fu := -1 } := by
  unfold Fl.tick; simp [h]
theorem tick_pos {F : Fl} (h : 0 < F.fu) : F.tick = { F with op := wrap64 (F.op + 1), fu := F.fu - 1 } := by
  unfold Fl.tick; simp [show ¬ F.fu = 0 by omega, h]
theorem tick_neg {F : Fl} (h : F.fu < 0) : F.tick = { F with op := wrap64 (F.op + 1) } := by
  unfold Fl.tick; simp [show ¬ F.fu = 0 by omega, show ¬ 0 < F.fu by omega]
def StartPost (g : Nat) (F : Fl) (u : Value) (v : Value) (w : World) (e : Ending) (w' : World) : Prop := e = .returned v ∧ Rw w' g 28 (flc F.tick u) ∧ w.grownBy w' (some g)
set_option maxRecDepth 100000 in
theorem start_any (g : Nat) (F : Fl) (u : Value) (w : World) (h : Rw w g 28 (flc F u)) (hf : -1 ≤ F.fu ∧ F.fu ≤ 1000000) :
    Calls Tryz.prog 57 #[.pointer (some ⟨g, 0, none⟩)] w (StartPost g F u (.tuple #[.int .i64 F.much, .int .i64 F.code]) w) := by
  unfold StartPost Fl.much Fl.code
  rcases Int.lt_trichotomy F.fu 0 with h0 | h0 | h0
  · rw [tick_neg h0, if_neg (by omega), if_neg (by omega)]
    obtain ⟨d, b, p, bs, fu, ke, off, op⟩ := F
    unfold flc at *
    simp only at *
    obtain ⟨c0, c1, c2, c3, c4, c5, c6, c7⟩ := h.eight
    obtain ⟨f0, f1, f2, f3, f4, f5, f6, f7⟩ := h.frees
    have H := Lib.hid h
    clear h
    go_enter Tryz.func57, Tryz.ntmps57
    go_wp2
    go_ret2
    have k := H.out.set_ 7 (.int .i64 (wrap64 (op + 1)))
    simp only [List.setIfInBounds_toArray, List.set_cons_zero, List.set_cons_succ] at k
    exact ⟨rfl, k, grown_set (grown_refl _ _) _⟩
  · rw [tick_zero h0, if_pos h0, if_pos h0]
    obtain ⟨d, b, p, bs, fu, ke, off, op⟩ := F
    unfold flc at *
    simp only at *
    subst h0
    obtain ⟨c0, c1, c2, c3, c4, c5, c6, c7⟩ := h.eight
    obtain ⟨f0, f1, f2, f3, f4, f5, f6, f7⟩ := h.frees
    have H := Lib.hid h
    clear h
    go_enter Tryz.func57, Tryz.ntmps57
    go_wp2
    go_ret2
    have k := ((H.out.set_ 7 (.int .i64 (wrap64 (op + 1)))).set_ 6 (.bool true)).set_ 4 (.int .i64 (-1))
    simp only [List.setIfInBounds_toArray, List.set_cons_zero, List.set_cons_succ] at k
    exact ⟨rfl, k, grown_set (grown_set (grown_set (grown_refl _ _) _) _) _⟩
  · rw [tick_pos h0, if_neg (by omega), if_neg (by omega)]
    obtain ⟨d, b, p, bs, fu, ke, off, op⟩ := F
    unfold flc at *
    simp only at *
    obtain ⟨c0, c1, c2, c3, c4, c5, c6, c7⟩ := h.eight
    obtain ⟨f0, f1, f2, f3, f4, f5, f6, f7⟩ := h.frees
    have H := Lib.hid h
    have hz : ¬ fu = 0 := by omega
    clear h
    go_enter Tryz.func57, Tryz.ntmps57
    go_wp2
    go_ret2
    have k := (H.out.set_ 7 (.int .i64 (wrap64 (op + 1)))).set_ 4 (.int .i64 (fu - 1))
    simp only [List.setIfInBounds_toArray, List.set_cons_zero, List.set_cons_succ] at k
    exact ⟨rfl, k, grown_set (grown_set (grown_refl _ _) _) _⟩
set_option maxRecDepth 100000 in
theorem tick_any (g : Nat) (F : Fl) (u : Value) (w : World) (h : Rw w g 28 (flc F u)) (hf : -1 ≤ F.fu ∧ F.fu ≤ 1000000) :
    Calls Tryz.prog 112 #[.pointer (some ⟨g, 0, none⟩)] w (StartPost g F u (.bool (decide (F.fu = 0))) w) := by
  unfold StartPost
  rcases Int.lt_trichotomy F.fu 0 with h0 | h0 | h0
  · rw [tick_neg h0, decide_eq_false (by omega)]
    obtain ⟨d, b, p, bs, fu, ke, off, op⟩ := F
    unfold flc at *
    simp only at *
    obtain ⟨c0, c1, c2, c3, c4, c5, c6, c7⟩ := h.eight
    obtain ⟨f0, f1, f2, f3, f4, f5, f6, f7⟩ := h.frees
    have H := Lib.hid h
    clear h
    go_enter Tryz.func112, Tryz.ntmps112
    go_wp2
    go_ret
    have k := H.out.set_ 7 (.int .i64 (wrap64 (op + 1)))
    simp only [List.setIfInBounds_toArray, List.set_cons_zero, List.set_cons_succ] at k
    exact ⟨rfl, k, grown_set (grown_refl _ _) _⟩
  · rw [tick_zero h0, decide_eq_true h0]
    obtain ⟨d, b, p, bs, fu, ke, off, op⟩ := F
    unfold flc at *
    simp only at *
    subst h0
    obtain ⟨c0, c1, c2, c3, c4, c5, c6, c7⟩ := h.eight
    obtain ⟨f0, f1, f2, f3, f4, f5, f6, f7⟩ := h.frees
    have H := Lib.hid h
    clear h
    go_enter Tryz.func112, Tryz.ntmps112
    go_wp2
    go_ret
    have k := ((H.out.set_ 7 (.int .i64 (wrap64 (op + 1)))).set_ 6 (.bool true)).set_ 4 (.int .i64 (-1))
    simp only [List.setIfInBounds_toArray, List.set_cons_zero, List.set_cons_succ] at k
    exact ⟨rfl, k, grown_set (grown_set (grown_set (grown_refl _ _) _) _) _⟩
  · rw [tick_pos h0, decide_eq_false (by omega)]
    obtain ⟨d, b, p, bs, fu, ke, off, op⟩ := F
    unfold flc at *
    simp only at *
    obtain ⟨c0, c1, c2, c3, c4, c5, c6, c7⟩ := h.eight
    obtain ⟨f0, f1, f2, f3, f4, f5, f6, f7⟩ := h.frees
    have H := Lib.hid h
    have hz : ¬ fu = 0 := by omega
    clear h
    go_enter Tryz.func112, Tryz.ntmps112
    go_wp2
    go_ret
    have k := (H.out.set_ 7 (.int .i64 (wrap64 (op + 1)))).set_ 4 (.int .i64 (fu - 1))
    simp only [List.setIfInBounds_toArray, List.set_cons_zero, List.set_cons_succ] at k
    exact ⟨rfl, k, grown_set (grown_set (grown_refl _ _) _) _⟩
end Go.Proofs.YthenilomgbnpeaaGreatDoor
