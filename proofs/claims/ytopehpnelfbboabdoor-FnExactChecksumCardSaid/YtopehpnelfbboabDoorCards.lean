/-
  DERIVED. GIVEN WITH THE SEED: THE CARDS: each row of YtopehpnelfbboabDoorRows.lean that lists a variable, with what it lists TIED to the program's text (the seventh form; the later family's looks); each row that meets fmt, with fmt's text TOLD by the authors' own Lean function (tested against real Go, not proved from fmt's source: count such statements apart). THE CARD IS WHAT COUNTS. Prove the row's statement (the work); the ties are given (YtopehpnelfbboabDoorTie.lean); close each card by the builder's one call (the guide's Derived/Test/ToyasCard.lean, 'card_holds'). Laid BY PROGRAM, IN A SANDBOX (cutbox-door.mjs). By AI agents, Wed Nov 11 2026. No macro, syntax, notation, axiom, sorry.
-/
import Derived.Test.YtopehpnelfbboabDoorRows
import GoSem.ClaimSeven
namespace Go.Proofs.YtopehpnelfbboabDoor
namespace Rows

/-- THE TIED CARD OF 'laws.FnExactChecksum'. -/
def fnExactChecksumCard : Claim7 := { stood := { row := fnExactChecksumRow, standIns := [], harness := (true, "1a72508d48cfc210e7a47b817cfb8b4e2014ddf1f2b440bf8cb0c49fa5b14804"), looks := false }, kinds := [], alts := [], laidByText := true, laidKinds := [.data], laidTests := true, laidLooks := .later }
def FnExactChecksumCardSaid : Prop := Claim7.holds Tryd.pinned (.plain (OpenSpec.ofChange fnExactChecksumSpec)) fnExactChecksumCard

/-- THE SECOND FORM's CARD OF 'laws.FnExactChecksum'. -/
def fnExactChecksumUptoCard : Claim7 := { stood := { row := fnExactChecksumUptoRow, standIns := [], harness := (true, "1a72508d48cfc210e7a47b817cfb8b4e2014ddf1f2b440bf8cb0c49fa5b14804"), looks := false }, kinds := [], alts := [], laidByText := true, laidKinds := [.data], laidTests := true, laidLooks := .later }
def FnExactChecksumUptoCardSaid : Prop := Claim7.holds Tryd.pinned (.plain (OpenSpec.upto fnExactChecksumSpec)) fnExactChecksumUptoCard
end Rows
end Go.Proofs.YtopehpnelfbboabDoor
