/- Plain data: Wipe. -/
import Derived.Test.YtgamoiagpglcmaaTbN
namespace Go.Proofs.Ytgamoiagpglcmaa
open Go.RowKit
set_option linter.unusedVariables false
structure Wp where
  b : List Int
  d : Int
def Wp.zero : Wp := ⟨[], 0⟩
instance : Inhabited Wp := ⟨Wp.zero⟩
/-- It fits. -/
def WpSz (M : Wp) : Prop := M.b.length ≤ 1048576
theorem Wp.zero_sz : WpSz Wp.zero := by unfold WpSz Wp.zero; simp
end Go.Proofs.Ytgamoiagpglcmaa
