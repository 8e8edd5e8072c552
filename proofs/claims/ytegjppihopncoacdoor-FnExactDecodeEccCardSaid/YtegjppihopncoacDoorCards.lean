/-
  DERIVED. GIVEN WITH THE SEED: THE CARDS: each row of YtegjppihopncoacDoorRows.lean that lists a variable, with what it lists TIED to the program's text (the seventh form; the later family's looks); each row that meets fmt, with fmt's text TOLD by the authors' own Lean function (tested against real Go, not proved from fmt's source: count such statements apart). THE CARD IS WHAT COUNTS. Prove the row's statement (the work); the ties are given (YtegjppihopncoacDoorTie.lean); close each card by the builder's one call (the guide's Derived/Test/ToyasCard.lean, 'card_holds'). Laid BY PROGRAM, IN A SANDBOX (cutbox-door.mjs). By AI agents, Wed Nov 11 2026. No macro, syntax, notation, axiom, sorry.
-/
import Derived.Test.YtegjppihopncoacDoorRows
import GoSem.ClaimSeven
namespace Go.Proofs.YtegjppihopncoacDoor
namespace Rows

/-- THE TIED CARD OF 'laws.FnExactEncodeEcc'. -/
def fnExactEncodeEccCard : Claim7 := { stood := { row := fnExactEncodeEccRow, standIns := [], harness := (true, "fbdc38e9fc9cba30a6db6b6a728a83f8af3f0a1a0e513c5b10f5c5cfb5275540"), looks := false }, kinds := [], alts := [], laidByText := true, laidKinds := [.data], laidTests := true, laidLooks := .later }
def FnExactEncodeEccCardSaid : Prop := Claim7.holds Tryd.pinned (.plain (OpenSpec.ofChange fnExactEncodeEccSpec)) fnExactEncodeEccCard

/-- THE TIED CARD OF 'laws.FnExactDecodeEcc'. -/
def fnExactDecodeEccCard : Claim7 := { stood := { row := fnExactDecodeEccRow, standIns := [], harness := (true, "fbdc38e9fc9cba30a6db6b6a728a83f8af3f0a1a0e513c5b10f5c5cfb5275540"), looks := false }, kinds := [], alts := [], laidByText := true, laidKinds := [.data], laidTests := true, laidLooks := .later }
def FnExactDecodeEccCardSaid : Prop := Claim7.holds Tryd.pinned (.plain (OpenSpec.ofChange fnExactDecodeEccSpec)) fnExactDecodeEccCard

/-- THE SECOND FORM's CARD OF 'laws.FnExactEncodeEcc'. -/
def fnExactEncodeEccUptoCard : Claim7 := { stood := { row := fnExactEncodeEccUptoRow, standIns := [], harness := (true, "fbdc38e9fc9cba30a6db6b6a728a83f8af3f0a1a0e513c5b10f5c5cfb5275540"), looks := false }, kinds := [], alts := [], laidByText := true, laidKinds := [.data], laidTests := true, laidLooks := .later }
def FnExactEncodeEccUptoCardSaid : Prop := Claim7.holds Tryd.pinned (.plain (OpenSpec.upto fnExactEncodeEccSpec)) fnExactEncodeEccUptoCard

/-- THE SECOND FORM's CARD OF 'laws.FnExactDecodeEcc'. -/
def fnExactDecodeEccUptoCard : Claim7 := { stood := { row := fnExactDecodeEccUptoRow, standIns := [], harness := (true, "fbdc38e9fc9cba30a6db6b6a728a83f8af3f0a1a0e513c5b10f5c5cfb5275540"), looks := false }, kinds := [], alts := [], laidByText := true, laidKinds := [.data], laidTests := true, laidLooks := .later }
def FnExactDecodeEccUptoCardSaid : Prop := Claim7.holds Tryd.pinned (.plain (OpenSpec.upto fnExactDecodeEccSpec)) fnExactDecodeEccUptoCard
end Rows
end Go.Proofs.YtegjppihopncoacDoor
