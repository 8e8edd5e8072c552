/-
  DERIVED. GIVEN WITH THE SEED: THE CARDS: each row of YteigdjocjcjkiaaDoorRows.lean that lists a variable, with what it lists TIED to the program's text (the seventh form; the later family's looks); each row that meets fmt, with fmt's text TOLD by the authors' own Lean function (tested against real Go, not proved from fmt's source: count such statements apart). THE CARD IS WHAT COUNTS. Prove the row's statement (the work); the ties are given (YteigdjocjcjkiaaDoorTie.lean); close each card by the builder's one call (the guide's Derived/Test/ToyasCard.lean, 'card_holds'). Laid BY PROGRAM, IN A SANDBOX (cutbox-door.mjs). By AI agents, Wed Nov 11 2026. No macro, syntax, notation, axiom, sorry.
-/
import Derived.Test.YteigdjocjcjkiaaDoorRows
import GoSem.ClaimSeven
namespace Go.Proofs.YteigdjocjcjkiaaDoor
namespace Rows

/-- THE TIED CARD OF 'laws.FnExactDecodeErased'. -/
def fnExactDecodeErasedCard : Claim7 := { stood := { row := fnExactDecodeErasedRow, standIns := [], harness := (true, "20bfe968b56ae77b93c8495799471b5e34e6db92a0a05ae7a29b9b546bfbd305"), looks := false }, kinds := [], alts := [], laidByText := true, laidKinds := [.data], laidTests := true, laidLooks := .later }
def FnExactDecodeErasedCardSaid : Prop := Claim7.holds Tryd.pinned (.plain (OpenSpec.ofChange fnExactDecodeErasedSpec)) fnExactDecodeErasedCard

/-- THE TIED CARD OF 'laws.FnErasures'. -/
def fnErasuresCard : Claim7 := { stood := { row := fnErasuresRow, standIns := [], harness := (true, "20bfe968b56ae77b93c8495799471b5e34e6db92a0a05ae7a29b9b546bfbd305"), looks := false }, kinds := [], alts := [], laidByText := true, laidKinds := [.data], laidTests := true, laidLooks := .later }
def FnErasuresCardSaid : Prop := Claim7.holds Tryd.pinned (.plain (OpenSpec.ofChange fnErasuresSpec)) fnErasuresCard

/-- THE SECOND FORM's CARD OF 'laws.FnExactDecodeErased'. -/
def fnExactDecodeErasedUptoCard : Claim7 := { stood := { row := fnExactDecodeErasedUptoRow, standIns := [], harness := (true, "20bfe968b56ae77b93c8495799471b5e34e6db92a0a05ae7a29b9b546bfbd305"), looks := false }, kinds := [], alts := [], laidByText := true, laidKinds := [.data], laidTests := true, laidLooks := .later }
def FnExactDecodeErasedUptoCardSaid : Prop := Claim7.holds Tryd.pinned (.plain (OpenSpec.upto fnExactDecodeErasedSpec)) fnExactDecodeErasedUptoCard

/-- THE SECOND FORM's CARD OF 'laws.FnErasures'. -/
def fnErasuresUptoCard : Claim7 := { stood := { row := fnErasuresUptoRow, standIns := [], harness := (true, "20bfe968b56ae77b93c8495799471b5e34e6db92a0a05ae7a29b9b546bfbd305"), looks := false }, kinds := [], alts := [], laidByText := true, laidKinds := [.data], laidTests := true, laidLooks := .later }
def FnErasuresUptoCardSaid : Prop := Claim7.holds Tryd.pinned (.plain (OpenSpec.upto fnErasuresSpec)) fnErasuresUptoCard
end Rows
end Go.Proofs.YteigdjocjcjkiaaDoor
