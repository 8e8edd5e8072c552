/- What the rows ask of the program alone, once for all laws of this translation. -/
import Derived.Test.YtgamoiagpglcmaaRows
import Derived.ProofKit
namespace Go.Proofs.Ytgamoiagpglcmaa
theorem finMay : Try.pinned.checked.prog.mayEnter = true := by kernel_rfl
theorem finLift : Try.pinned.checked.prog.liftsFinal = false := by kernel_rfl
theorem finMake : Try.pinned.checked.prog.make = some .cut := by kernel_rfl
theorem finHeard : Try.pinned.checked.prog.stopsHeard = true := by kernel_rfl
theorem finLaid : laidOutB Try.pinned.checked.prog = true := by kernel_rfl
theorem finMaps : mapsRowed Try.pinned.checked.prog = true := by kernel_rfl
end Go.Proofs.Ytgamoiagpglcmaa
