/-
  DERIVED. GIVEN WITH THE SEED: THE CARDS: each row of YtfnhnekemjnliaaDoorRows.lean that lists a variable, with what it lists TIED to the program's text (the seventh form; the later family's looks); each row that meets fmt, with fmt's text TOLD by the authors' own Lean function (tested against real Go, not proved from fmt's source: count such statements apart). THE CARD IS WHAT COUNTS. Prove the row's statement (the work); the ties are given (YtfnhnekemjnliaaDoorTie.lean); close each card by the builder's one call (the guide's Derived/Test/ToyasCard.lean, 'card_holds'). Laid BY PROGRAM, IN A SANDBOX (cutbox-door.mjs). By AI agents, Wed Nov 11 2026. No macro, syntax, notation, axiom, sorry.
-/
import Derived.Test.YtfnhnekemjnliaaDoorRows
import GoSem.ClaimSeven
namespace Go.Proofs.YtfnhnekemjnliaaDoor
namespace Rows

/-- THE TIED CARD OF 'laws.FnPageSeal'. -/
def fnPageSealCard : Claim7 := { stood := { row := fnPageSealRow, standIns := [], harness := (true, "daeaadff5fc1ced296b19d6460da198f1b664971f0bba999094d6e4abc2f0882"), looks := false }, kinds := [], alts := [], laidByText := true, laidKinds := [.data], laidTests := true, laidLooks := .later }
def FnPageSealCardSaid : Prop := Claim7.holds Tryd.pinned (.plain (OpenSpec.ofChange fnPageSealSpec)) fnPageSealCard

/-- THE TIED CARD OF 'laws.FnPageTorn'. -/
def fnPageTornCard : Claim7 := { stood := { row := fnPageTornRow, standIns := [], harness := (true, "daeaadff5fc1ced296b19d6460da198f1b664971f0bba999094d6e4abc2f0882"), looks := false }, kinds := [], alts := [], laidByText := true, laidKinds := [.data], laidTests := true, laidLooks := .later }
def FnPageTornCardSaid : Prop := Claim7.holds Tryd.pinned (.plain (OpenSpec.ofChange fnPageTornSpec)) fnPageTornCard

/-- THE TIED CARD OF 'laws.FnExactOpenPage'. -/
def fnExactOpenPageCard : Claim7 := { stood := { row := fnExactOpenPageRow, standIns := [], harness := (true, "daeaadff5fc1ced296b19d6460da198f1b664971f0bba999094d6e4abc2f0882"), looks := false }, kinds := [], alts := [], laidByText := true, laidKinds := [.data], laidTests := true, laidLooks := .later }
def FnExactOpenPageCardSaid : Prop := Claim7.holds Tryd.pinned (.plain (OpenSpec.ofChange fnExactOpenPageSpec)) fnExactOpenPageCard

/-- THE SECOND FORM's CARD OF 'laws.FnPageSeal'. -/
def fnPageSealUptoCard : Claim7 := { stood := { row := fnPageSealUptoRow, standIns := [], harness := (true, "daeaadff5fc1ced296b19d6460da198f1b664971f0bba999094d6e4abc2f0882"), looks := false }, kinds := [], alts := [], laidByText := true, laidKinds := [.data], laidTests := true, laidLooks := .later }
def FnPageSealUptoCardSaid : Prop := Claim7.holds Tryd.pinned (.plain (OpenSpec.upto fnPageSealSpec)) fnPageSealUptoCard

/-- THE SECOND FORM's CARD OF 'laws.FnPageTorn'. -/
def fnPageTornUptoCard : Claim7 := { stood := { row := fnPageTornUptoRow, standIns := [], harness := (true, "daeaadff5fc1ced296b19d6460da198f1b664971f0bba999094d6e4abc2f0882"), looks := false }, kinds := [], alts := [], laidByText := true, laidKinds := [.data], laidTests := true, laidLooks := .later }
def FnPageTornUptoCardSaid : Prop := Claim7.holds Tryd.pinned (.plain (OpenSpec.upto fnPageTornSpec)) fnPageTornUptoCard

/-- THE SECOND FORM's CARD OF 'laws.FnExactOpenPage'. -/
def fnExactOpenPageUptoCard : Claim7 := { stood := { row := fnExactOpenPageUptoRow, standIns := [], harness := (true, "daeaadff5fc1ced296b19d6460da198f1b664971f0bba999094d6e4abc2f0882"), looks := false }, kinds := [], alts := [], laidByText := true, laidKinds := [.data], laidTests := true, laidLooks := .later }
def FnExactOpenPageUptoCardSaid : Prop := Claim7.holds Tryd.pinned (.plain (OpenSpec.upto fnExactOpenPageSpec)) fnExactOpenPageUptoCard
end Rows
end Go.Proofs.YtfnhnekemjnliaaDoor
