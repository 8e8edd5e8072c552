/- The register's functions, in the model and in the program: their contracts. -/
import Derived.Test.YtegjppihopncoacDoorProg
import Derived.Test.YtegjppihopncoacDoorBits
import Derived.WalkKit
import Derived.Lib.Hide
import Derived.ProofKit
namespace Go.Proofs.YtegjppihopncoacDoor
open Go.RowKit




end Go.Proofs.YtegjppihopncoacDoor
