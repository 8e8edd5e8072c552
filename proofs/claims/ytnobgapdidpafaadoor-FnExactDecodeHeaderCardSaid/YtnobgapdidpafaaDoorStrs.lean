/- Slices of texts: those that come in and are read, those that the call itself makes; the laws' helpers szStringS, toStringS, eqStringS. -/
import Derived.Test.YtnobgapdidpafaaDoorProg
import Derived.Test.YtnobgapdidpafaaDoorWords
import Derived.WalkKit
import Derived.ProofKit
import Derived.Lib.Hide
import Derived.BigQuiet
import Derived.Deep.QuietTactic
namespace Go.Proofs.YtnobgapdidpafaaDoor
open Go.RowKit

/-- What is known of a slice of texts that came in. -/
def IsStrs (w : World) (a : Option Addr) (len cap : Nat) (zs : List ByteArray) : Prop :=
  (a = none ∧ len = 0 ∧ cap = 0 ∧ zs = []) ∨
  ∃ x, a = some x ∧ len ≤ cap ∧ cap ≤ maxLen ∧ zs.length = cap ∧ (∀ i, i < zs.length → w.cell? (x.add i) = some (.string (zs.getD i ByteArray.empty))) ∧ ∀ s ∈ zs, s.size ≤ maxLen
/-- The value v is a slice that reads as the texts L. -/
def StrsIn (w : World) (v : Value) (L : List ByteArray) : Prop := ∃ A len cap, v = .slice A len cap ∧ len ≤ cap ∧ cap ≤ 9223372036854775807 ∧ L.length = len ∧ (0 < len → ∃ b off, A = some ⟨b, off, none⟩ ∧ b < w.heap.size ∧ ∀ i, i < len → w.cell? ⟨b, off + i, none⟩ = some (.string (L.getD i ByteArray.empty)))
theorem StrsIn.below {w w' : World} {B : Nat} {v : Value} {L : List ByteArray} (h : StrsIn w v L) (hb : Below B w w') (hB : w.heap.size ≤ B) : StrsIn w' v L := by
  obtain ⟨A, len, cap, rfl, hlc, hcm, hl, hc⟩ := h
  refine ⟨A, len, cap, rfl, hlc, hcm, hl, fun h0 => ?_⟩
  obtain ⟨b, off, rfl, hbl, hx⟩ := hc h0
  exact ⟨b, off, rfl, by have := hb.size; omega, fun i hi => (hb.cell (p := ⟨b, off + i, none⟩) (Nat.lt_of_lt_of_le hbl hB)).trans (hx i hi)⟩
theorem IsStrs.reads {w : World} {a : Option Addr} {len cap : Nat} {zs : List ByteArray} (h : IsStrs w a len cap zs) : StrsIn w (.slice a len cap) (zs.take len) ∧ ∀ s ∈ zs.take len, s.size ≤ maxLen := by
  rcases h with ⟨rfl, rfl, rfl, rfl⟩ | ⟨x, rfl, h1, h2, h3, hc, hw⟩
  · exact ⟨⟨none, 0, 0, rfl, Nat.le_refl _, by omega, rfl, fun h => by omega⟩, fun s hs => by cases hs⟩
  · refine ⟨⟨_, len, cap, rfl, h1, by unfold maxLen at h2; omega, by simp; omega, fun h0 => ?_⟩, fun s hs => hw s (List.mem_of_mem_take hs)⟩
    obtain ⟨b, off, spot⟩ := x
    have h00 := hc 0 (by omega)
    have hspot : spot = none := by simpa [Addr.add] using World.cell?_spot h00
    subst hspot
    refine ⟨b, off, rfl, World.block_lt_of_cell? w ⟨b, off, none⟩ (by simpa [Addr.add] using h00), fun i hi => ?_⟩
    have := hc i (by omega)
    have e : (⟨b, off, none⟩ : Addr).add i = ⟨b, off + i, none⟩ := by unfold Addr.add; split <;> simp_all
    rw [e] at this
    rw [this, List.getD_eq_getElem?_getD, List.getD_eq_getElem?_getD, List.getElem?_take, if_pos hi]
/-- The value v is a slice of the call's own (in a block from B on) that holds the texts L. -/
def StrsOwn (w : World) (B : Nat) (v : Value) (L : List ByteArray) : Prop := w.ownsRow B 9 1 v L.length (L.map Value.string)
theorem infoStr : (Tryd.prog.info? 9).map (fun i => (i.zero, i.size, i.bytes)) = some (some (.string ByteArray.empty), 1, 16) := by kernel_rfl
section
variable {w w' : World} {B : Nat} {v : Value} {L : List ByteArray}
theorem StrsOwn.shape (h : StrsOwn w B v L) : (v = .slice none 0 0 ∧ L = []) ∨ ∃ g cap, v = .slice (some ⟨g, 0, none⟩) L.length cap ∧ L.length ≤ cap ∧ cap ≤ 9223372036854775807 ∧ B ≤ g ∧ g < w.heap.size := by
  rcases h.2 with ⟨h1, h2⟩ | ⟨g, cap, cur, h1, h2, h3, h4, h5, _⟩
  · exact .inl ⟨h1, List.eq_nil_of_length_eq_zero h2⟩
  · refine .inr ⟨g, cap, h1, h4, by unfold maxLen at h5; omega, h2, ?_⟩
    rcases Nat.lt_or_ge g w.heap.size with hlt | hge
    · exact hlt
    · rw [Array.getElem?_eq_none hge] at h3; cases h3
theorem StrsOwn.cell {g n cap : Nat} (h : StrsOwn w B (.slice (some ⟨g, 0, none⟩) n cap) L) {j : Nat} (hn : L.length = n) (hj : j < n) : w.cell? ⟨g, j, none⟩ = some (.string (L.getD j ByteArray.empty)) := by
  unfold StrsOwn at h
  rw [hn] at h
  rw [World.ownsRow.cellAt h j (by omega)]
  simp [show j < L.length by omega]
theorem StrsOwn.free {g n cap : Nat} (h : StrsOwn w B (.slice (some ⟨g, 0, none⟩) n cap) L) (hn : L.length = n) (j : Nat) : w.frozen? ⟨g, j, none⟩ = false := by
  unfold StrsOwn at h
  rw [hn] at h
  exact World.ownsRow.frozenAt h j
theorem StrsOwn.stored {g n cap : Nat} (h : StrsOwn w B (.slice (some ⟨g, 0, none⟩) n cap) L) (hn : L.length = n) (j : Nat) (b : ByteArray) :
    StrsOwn (w.setCell ⟨g, j, none⟩ (.string b)) B (.slice (some ⟨g, 0, none⟩) n cap) (L.set j b) := by
  unfold StrsOwn at h ⊢
  rw [hn] at h
  have := (World.ownsRow.stored h j (.string b)).1
  rw [List.length_set, hn, List.map_set]
  exact this
theorem StrsOwn.reads (h : StrsOwn w B v L) : StrsIn w v L := by
  rcases h.shape with ⟨rfl, rfl⟩ | ⟨g, cap, rfl, h1, h2, h3, h4⟩
  · exact ⟨none, 0, 0, rfl, Nat.le_refl _, by omega, rfl, fun h => by omega⟩
  · exact ⟨_, _, _, rfl, h1, h2, rfl, fun _ => ⟨g, 0, rfl, h4, fun i hi => by rw [Nat.zero_add]; exact h.cell rfl hi⟩⟩
theorem StrsOwn.later {B' : Nat} (h : StrsOwn w B v L) (hb : Below B' w w') (hB : w.heap.size ≤ B') : StrsOwn w' B v L := by
  refine ⟨h.1, ?_⟩
  rcases h.2 with h2 | ⟨g, cap, cur, h1, h2, h3, h4⟩
  · exact .inl h2
  · have hg : g < w.heap.size := by
      rcases Nat.lt_or_ge g w.heap.size with hlt | hge
      · exact hlt
      · rw [Array.getElem?_eq_none hge] at h3; cases h3
    exact .inr ⟨g, cap, cur, h1, h2, (hb.block g (by omega)).trans h3, h4⟩
end
end Go.Proofs.YtnobgapdidpafaaDoor
