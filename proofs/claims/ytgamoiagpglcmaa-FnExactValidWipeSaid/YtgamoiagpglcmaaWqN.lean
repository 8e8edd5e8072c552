/- Wiped blocks, lists of blocks to be wiped, as plain data. No program in it. -/
import Derived.Test.YtgamoiagpglcmaaFlN
import Derived.Test.YtgamoiagpglcmaaTbN
import Derived.Test.YtgamoiagpglcmaaWpN
namespace Go.Proofs.Ytgamoiagpglcmaa
open Go.RowKit
set_option linter.unusedVariables false
def Exists_ (F : Fl) (bk : Int) : Prop := 0 ≤ bk ∧ bk < (F.bs.length : Int)
def WipedIs (F : Fl) (r : Bool) (bk : Int) : Prop := r = true ∧ Exists_ F bk ∧ (F.blk bk.toNat).nx = 0
theorem wiped_pages {F : Fl} (h : FlOk F) {i : Nat} (hi : i < F.bs.length) (h0 : (F.blk i).nx = 0) : ∀ j, j < (F.blk i).pg.length → ((F.blk i).at j).size = 0 := by
  intro j hj
  rcases (h.2.2.1 i hi).2.2.2 j hj with e | e
  · exact e
  · have := e.2; omega
def VwIs (F : Fl) (r : Bool) (W : Wp) : Prop := r = true ∧ Rises W.b (F.bs.length : Int) ∧ (0 ≤ W.d ∧ W.d ≤ (W.b.length : Int))
end Go.Proofs.Ytgamoiagpglcmaa
