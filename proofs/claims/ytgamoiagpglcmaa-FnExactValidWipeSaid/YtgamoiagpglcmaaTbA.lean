/- The laws' helpers over tables of bad blocks: copies, comparisons. -/
import Derived.Test.YtgamoiagpglcmaaProg
import Derived.Test.YtgamoiagpglcmaaTbM
import Derived.Test.YtgamoiagpglcmaaFlE
import Derived.RegionTactic
import Derived.Deep.RegionHeld3
namespace Go.Proofs.Ytgamoiagpglcmaa
open Go.RowKit
set_option linter.unusedVariables false
set_option linter.unusedSimpArgs false
end Go.Proofs.Ytgamoiagpglcmaa
