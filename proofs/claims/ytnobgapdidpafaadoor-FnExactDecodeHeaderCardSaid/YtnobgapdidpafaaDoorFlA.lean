/- The laws' helpers over arrays: szFlash, toFlash, eqFlash: their contracts. -/
import Derived.Test.YtnobgapdidpafaaDoorProg
import Derived.Test.YtnobgapdidpafaaDoorFlM
import Derived.Test.YtnobgapdidpafaaDoorStrs
import Derived.Test.YtnobgapdidpafaaDoorRw
import Derived.WalkKit
import Derived.ProofKit
import Derived.Lib.Hide
import Derived.BigQuiet
import Derived.Deep.QuietTactic
namespace Go.Proofs.YtnobgapdidpafaaDoor
open Go.RowKit
set_option linter.unusedVariables false

theorem PgIn.strs {w : World} {lo hi : Nat} {v : Value} {L : List ByteArray} (h : PgIn w lo hi v L) (hh : hi ≤ w.heap.size) : StrsIn w v L := by
  obtain ⟨A, len, cap, e, h1, h2, h3, h4, hc⟩ := h
  refine ⟨A, len, cap, e, h1, h2, h3, fun h0 => ?_⟩
  obtain ⟨b, off, e, h5, h6, hx⟩ := hc h0
  exact ⟨b, off, e, by omega, hx⟩
theorem PgIn.small {w : World} {lo hi : Nat} {v : Value} {L : List ByteArray} (h : PgIn w lo hi v L) : ∀ i, i < L.length → (L.getD i ByteArray.empty).size ≤ 9223372036854775807 := by
  obtain ⟨A, len, cap, e, h1, h2, h3, h4, hc⟩ := h
  exact fun i hi => h4 i (by omega)
theorem StrsOwn.pages {w : World} {B g : Nat} {v : Value} {L : List ByteArray} (h : StrsOwn w B v L) (hg : g < B) (hL : ∀ i, i < L.length → (L.getD i ByteArray.empty).size ≤ 9223372036854775807) : PgOwn w B w.heap.size g v L := by
  rcases h.shape with ⟨rfl, rfl⟩ | ⟨k, cap, rfl, h1, h2, h3, h4⟩
  · exact ⟨none, 0, 0, rfl, Nat.le_refl _, by omega, rfl, fun i hi => by omega, fun h => by omega⟩
  · exact ⟨_, _, _, rfl, h1, h2, rfl, hL, fun _ => ⟨k, 0, rfl, h3, h4, by omega, h.free rfl, fun i hi => by rw [Nat.zero_add]; exact h.cell rfl hi⟩⟩

/-! Sizes. -/
def szS : List ByteArray → Nat
  | [] => 0
  | s :: L => s.size + szS L
theorem szS_append : ∀ L M : List ByteArray, szS (L ++ M) = szS L + szS M
  | [], M => by simp [szS]
  | s :: L, M => by simp only [List.cons_append, szS, szS_append L M]; omega
theorem szS_take {L : List ByteArray} {i : Nat} (h : i < L.length) : szS (L.take (i + 1)) = szS (L.take i) + (L.getD i ByteArray.empty).size := by
  rw [List.take_succ_eq_append_getElem h, szS_append, List.getD_eq_getElem?_getD, List.getElem?_eq_getElem h]
  simp [szS]
theorem szS_one {L : List ByteArray} {i : Nat} (h : i < L.length) : (L.getD i ByteArray.empty).size ≤ szS L := by
  have e := szS_append (L.take (i + 1)) (L.drop (i + 1))
  rw [List.take_append_drop, szS_take h] at e
  omega
theorem szS_le {L : List ByteArray} (i : Nat) : szS (L.take i) ≤ szS L := by
  have e := szS_append (L.take i) (L.drop i)
  rw [List.take_append_drop] at e
  omega
def szP (L : List ByteArray) : Nat := L.length + szS L
def szB : List Blk → Nat
  | [] => 0
  | x :: L => szP x.pg + szB L
theorem szB_append : ∀ L M : List Blk, szB (L ++ M) = szB L + szB M
  | [], M => by simp [szB]
  | s :: L, M => by simp only [List.cons_append, szB, szB_append L M]; omega
theorem szB_take {L : List Blk} {i : Nat} (h : i < L.length) : szB (L.take (i + 1)) = szB (L.take i) + szP (L.getD i Blk.zero).pg := by
  rw [List.take_succ_eq_append_getElem h, szB_append, List.getD_eq_getElem?_getD, List.getElem?_eq_getElem h]
  simp [szB]
theorem szB_one {L : List Blk} {i : Nat} (h : i < L.length) : szP (L.getD i Blk.zero).pg ≤ szB L := by
  have e := szB_append (L.take (i + 1)) (L.drop (i + 1))
  rw [List.take_append_drop, szB_take h] at e
  omega
theorem szB_le {L : List Blk} (i : Nat) : szB (L.take i) ≤ szB L := by
  have e := szB_append (L.take i) (L.drop i)
  rw [List.take_append_drop] at e
  omega
theorem markN_sz : ∀ L : List Blk, markN L ≤ 3 * L.length + szB L
  | [] => by simp [markN]
  | x :: L => by have := markN_sz L; simp only [markN, szB, szP, List.length_cons]; omega
/-- The array fits: blocks, pages and bytes together are few. -/
def FlSz (F : Fl) : Prop := F.bs.length + szB F.bs ≤ 1048576
theorem FlSz.pages {F : Fl} (h : FlSz F) {i : Nat} (hi : i < F.bs.length) : (F.blk i).pg.length ≤ 1048576 ∧ ∀ j, j < (F.blk i).pg.length → ((F.blk i).at j).size ≤ 1048576 := by
  unfold FlSz at h
  have h1 := szB_one hi
  unfold szP at h1
  refine ⟨by show (F.bs.getD i Blk.zero).pg.length ≤ _; omega, fun j hj => ?_⟩
  have := szS_one (L := (F.bs.getD i Blk.zero).pg) hj
  show ((F.bs.getD i Blk.zero).pg.getD j ByteArray.empty).size ≤ _
  omega
/-- What is left of n behind t: the rest, or -1. -/
def Left (n : Int) (t : Nat) (x : Int) : Prop := ((t : Int) ≤ n ∧ x = n - (t : Int)) ∨ (n < (t : Int) ∧ x = -1)
def LeftPost (n : Int) (t : Nat) (w : World) (e : Ending) (w' : World) : Prop := ∃ x : Int, e = .returned (.int .i64 x) ∧ Left n t x ∧ Below w.heap.size w w'
theorem Left.small {F : Fl} {x : Int} (h : Left 1048576 (F.bs.length + szB F.bs) x) (h0 : ¬ x < 0) : FlSz F := by
  unfold FlSz
  rcases h with h | h <;> omega

/-! Copies. -/
def ToBk (x : Blk) (w : World) (e : Ending) (w' : World) : Prop := ∃ A c, e = .returned (.agg #[.int .i64 x.er, .int .i64 x.nx, .bool x.bad, .slice A x.pg.length c]) ∧ (∀ g, g < w.heap.size → PgOwn w' w.heap.size w'.heap.size g (.slice A x.pg.length c) x.pg) ∧ Below w.heap.size w w'
end Go.Proofs.YtnobgapdidpafaaDoor
