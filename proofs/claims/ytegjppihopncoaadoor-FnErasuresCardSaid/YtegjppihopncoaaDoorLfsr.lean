/- The register's functions, in the model and in the program: their contracts. -/
import Derived.Test.YtegjppihopncoaaDoorProg
import Derived.Test.YtegjppihopncoaaDoorBits
import Derived.WalkKit
import Derived.Lib.Hide
import Derived.ProofKit
namespace Go.Proofs.YtegjppihopncoaaDoor
open Go.RowKit




end Go.Proofs.YtegjppihopncoaaDoor
