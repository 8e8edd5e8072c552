/- Chapter 2's generators: a state, a page and a text. Only that each returns, within its bounds, is said. -/
import Derived.Test.YtikdmkfngdihhabProg
import Derived.Test.YtikdmkfngdihhabPick
import Derived.Deep.RegionHeld3
namespace Go.Proofs.Ytikdmkfngdihhab
open Go.RowKit

theorem newCells (w : World) (t : TypeId) (l : List Value) (n : Nat) (hn : l.length = n) {Q : Int → Prop} (h : ∀ v ∈ l, ∃ x : Int, v = .int .i64 x ∧ Q x) :
    ∀ i, i < n → ∃ x : Int, (w.alloc (.cells l.toArray t)).cell? ⟨w.heap.size, i, none⟩ = some (.int .i64 x) ∧ Q x := by
  intro i hi
  obtain ⟨x, hx, hq⟩ := h l[i] (List.getElem_mem (by omega))
  refine ⟨x, ?_, hq⟩
  rw [World.cell?_alloc_at _ _ _ _ rfl, ← hx]
  simp [hn, hi]
/-- What a generator does: it answers, and what was there before is as it was. -/
def Drawn (P : Value → Prop) (w : World) (e : Ending) (w' : World) : Prop := ∃ v, e = .returned v ∧ P v ∧ Below w.heap.size w w'
end Go.Proofs.Ytikdmkfngdihhab
