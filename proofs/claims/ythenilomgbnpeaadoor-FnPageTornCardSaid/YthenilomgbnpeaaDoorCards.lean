/-
  DERIVED. GIVEN WITH THE SEED: THE CARDS: each row of YthenilomgbnpeaaDoorRows.lean that lists a variable, with what it lists TIED to the program's text (the seventh form; the later family's looks); each row that meets fmt, with fmt's text TOLD by the authors' own Lean function (tested against real Go, not proved from fmt's source: count such statements apart). THE CARD IS WHAT COUNTS. Prove the row's statement (the work); the ties are given (YthenilomgbnpeaaDoorTie.lean); close each card by the builder's one call (the guide's Derived/Test/ToyasCard.lean, 'card_holds'). Laid BY PROGRAM, IN A SANDBOX (cutbox-door.mjs). By AI agents, Wed Nov 11 2026. No macro, syntax, notation, axiom, sorry.
-/
import Derived.Test.YthenilomgbnpeaaDoorRows
import GoSem.ClaimSeven
namespace Go.Proofs.YthenilomgbnpeaaDoor
namespace Rows

/-- THE TIED CARD OF 'laws.FnPageSeal'. -/
def fnPageSealCard : Claim7 := { stood := { row := fnPageSealRow, standIns := [], harness := (true, "8999fd6f4e1e8808e40a9000f557ec56c22d232a267edb0658bd0e0927a20f44"), looks := false }, kinds := [], alts := [], laidByText := true, laidKinds := [.data], laidTests := true, laidLooks := .later }
def FnPageSealCardSaid : Prop := Claim7.holds Tryd.pinned (.plain (OpenSpec.ofChange fnPageSealSpec)) fnPageSealCard

/-- THE TIED CARD OF 'laws.FnPageTorn'. -/
def fnPageTornCard : Claim7 := { stood := { row := fnPageTornRow, standIns := [], harness := (true, "8999fd6f4e1e8808e40a9000f557ec56c22d232a267edb0658bd0e0927a20f44"), looks := false }, kinds := [], alts := [], laidByText := true, laidKinds := [.data], laidTests := true, laidLooks := .later }
def FnPageTornCardSaid : Prop := Claim7.holds Tryd.pinned (.plain (OpenSpec.ofChange fnPageTornSpec)) fnPageTornCard

/-- THE SECOND FORM's CARD OF 'laws.FnPageSeal'. -/
def fnPageSealUptoCard : Claim7 := { stood := { row := fnPageSealUptoRow, standIns := [], harness := (true, "8999fd6f4e1e8808e40a9000f557ec56c22d232a267edb0658bd0e0927a20f44"), looks := false }, kinds := [], alts := [], laidByText := true, laidKinds := [.data], laidTests := true, laidLooks := .later }
def FnPageSealUptoCardSaid : Prop := Claim7.holds Tryd.pinned (.plain (OpenSpec.upto fnPageSealSpec)) fnPageSealUptoCard

/-- THE SECOND FORM's CARD OF 'laws.FnPageTorn'. -/
def fnPageTornUptoCard : Claim7 := { stood := { row := fnPageTornUptoRow, standIns := [], harness := (true, "8999fd6f4e1e8808e40a9000f557ec56c22d232a267edb0658bd0e0927a20f44"), looks := false }, kinds := [], alts := [], laidByText := true, laidKinds := [.data], laidTests := true, laidLooks := .later }
def FnPageTornUptoCardSaid : Prop := Claim7.holds Tryd.pinned (.plain (OpenSpec.upto fnPageTornSpec)) fnPageTornUptoCard
end Rows
end Go.Proofs.YthenilomgbnpeaaDoor
