/- A package-level table: its cells, in this world and in later ones. -/
import Derived.WalkKit
import Derived.Below
import Derived.Lib.LaidTab
namespace Go.Proofs.YtnobgapdidpafaaDoor
open Go.RowKit

/-- Block g holds the integers L of kind k. -/
def Tab (w : World) (g : Nat) (k : IntKind) (L : List Int) : Prop := (∀ j, j < L.length → w.cell? ⟨g, j, none⟩ = some (.int k (L.getD j 0))) ∧ g < w.heap.size
theorem Tab.below {w w' : World} {g B : Nat} {k : IntKind} {L : List Int} (h : Tab w g k L) (hb : Below B w w') (hB : w.heap.size ≤ B) : Tab w' g k L :=
  ⟨fun j hj => (hb.cell (p := ⟨g, j, none⟩) (Nat.lt_of_lt_of_le h.2 hB)).trans (h.1 j hj), by have := hb.size; have := h.2; omega⟩
theorem var_lt {P : Program} {W : World} {name : String} {g : Nat} {cs : Array Value} (hg : P.globalNamed name = some g) (h : W.var? P name = some cs) : g < W.heap.size := by
  unfold World.var? at h
  rw [hg] at h
  rcases Nat.lt_or_ge g W.heap.size with hlt | hge
  · exact hlt
  · simp only [Option.bind_some] at h
    rw [Array.getElem?_eq_none hge] at h; cases h
theorem var_below {P : Program} {W W' : World} {B : Nat} {name : String} {g : Nat} {cs : Array Value} (hg : P.globalNamed name = some g) (h : W.var? P name = some cs) (hb : Below B W W') (hlt : g < B) : W'.var? P name = some cs := by
  unfold World.var? at h ⊢
  rw [hg] at h ⊢
  simp only [Option.bind_some] at h ⊢
  rw [hb.block g hlt]
  exact h
end Go.Proofs.YtnobgapdidpafaaDoor
