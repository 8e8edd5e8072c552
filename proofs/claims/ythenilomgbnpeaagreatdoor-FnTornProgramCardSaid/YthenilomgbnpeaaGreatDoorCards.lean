/-
  DERIVED. GIVEN WITH THE SEED: THE CARDS: each row of YthenilomgbnpeaaGreatDoorRows.lean that lists a variable, with what it lists TIED to the program's text (the seventh form; the later family's looks); each row that meets fmt, with fmt's text TOLD by the authors' own Lean function (tested against real Go, not proved from fmt's source: count such statements apart). THE CARD IS WHAT COUNTS. Prove the row's statement (the work); the ties are given (YthenilomgbnpeaaGreatDoorTie.lean); close each card by the builder's one call (the guide's Derived/Test/ToyasCard.lean, 'card_holds'). Laid BY PROGRAM, IN A SANDBOX (cutbox-door.mjs). By AI agents, Wed Nov 11 2026. No macro, syntax, notation, axiom, sorry.
-/
import Derived.Test.YthenilomgbnpeaaGreatDoorRows
import GoSem.ClaimSeven
namespace Go.Proofs.YthenilomgbnpeaaGreatDoor
namespace Rows

/-- THE TIED CARD OF 'laws.FnTornProgram'. -/
def fnTornProgramCard : Claim7 := { stood := { row := fnTornProgramRow, standIns := [], harness := (true, "c2212f3f215cd9128981e42a6047a0ff8bfc23beadaf469e7f69ba02ffc44d6e"), looks := false }, kinds := [], alts := [], laidByText := true, laidKinds := [.data], laidTests := true, laidLooks := .later }
def FnTornProgramCardSaid : Prop := Claim7.holds Tryz.pinned (.plain (OpenSpec.ofChange fnTornProgramSpec)) fnTornProgramCard

/-- THE SECOND FORM's CARD OF 'laws.FnTornProgram'. -/
def fnTornProgramUptoCard : Claim7 := { stood := { row := fnTornProgramUptoRow, standIns := [], harness := (true, "c2212f3f215cd9128981e42a6047a0ff8bfc23beadaf469e7f69ba02ffc44d6e"), looks := false }, kinds := [], alts := [], laidByText := true, laidKinds := [.data], laidTests := true, laidLooks := .later }
def FnTornProgramUptoCardSaid : Prop := Claim7.holds Tryz.pinned (.plain (OpenSpec.upto fnTornProgramSpec)) fnTornProgramUptoCard
end Rows
end Go.Proofs.YthenilomgbnpeaaGreatDoor
