/-
  DERIVED. GIVEN WITH THE SEED: THE CARDS: each row of YtegjppihopncoabDoorRows.lean that lists a variable, with what it lists TIED to the program's text (the seventh form; the later family's looks); each row that meets fmt, with fmt's text TOLD by the authors' own Lean function (tested against real Go, not proved from fmt's source: count such statements apart). THE CARD IS WHAT COUNTS. Prove the row's statement (the work); the ties are given (YtegjppihopncoabDoorTie.lean); close each card by the builder's one call (the guide's Derived/Test/ToyasCard.lean, 'card_holds'). Laid BY PROGRAM, IN A SANDBOX (cutbox-door.mjs). By AI agents, Wed Nov 11 2026. No macro, syntax, notation, axiom, sorry.
-/
import Derived.Test.YtegjppihopncoabDoorRows
import GoSem.ClaimSeven
namespace Go.Proofs.YtegjppihopncoabDoor
namespace Rows

/-- THE TIED CARD OF 'laws.FnExactCheckByte'. -/
def fnExactCheckByteCard : Claim7 := { stood := { row := fnExactCheckByteRow, standIns := [], harness := (true, "ec41bcfc22aeec5005bf8c11464459227047b1d743d55438a3997e38f9d8572b"), looks := false }, kinds := [], alts := [], laidByText := true, laidKinds := [.data], laidTests := true, laidLooks := .later }
def FnExactCheckByteCardSaid : Prop := Claim7.holds Tryd.pinned (.plain (OpenSpec.ofChange fnExactCheckByteSpec)) fnExactCheckByteCard

/-- THE TIED CARD OF 'laws.FnExactSyndrome'. -/
def fnExactSyndromeCard : Claim7 := { stood := { row := fnExactSyndromeRow, standIns := [], harness := (true, "ec41bcfc22aeec5005bf8c11464459227047b1d743d55438a3997e38f9d8572b"), looks := false }, kinds := [], alts := [], laidByText := true, laidKinds := [.data], laidTests := true, laidLooks := .later }
def FnExactSyndromeCardSaid : Prop := Claim7.holds Tryd.pinned (.plain (OpenSpec.ofChange fnExactSyndromeSpec)) fnExactSyndromeCard

/-- THE TIED CARD OF 'laws.FnExactDecodeWord'. -/
def fnExactDecodeWordCard : Claim7 := { stood := { row := fnExactDecodeWordRow, standIns := [], harness := (true, "ec41bcfc22aeec5005bf8c11464459227047b1d743d55438a3997e38f9d8572b"), looks := false }, kinds := [], alts := [], laidByText := true, laidKinds := [.data], laidTests := true, laidLooks := .later }
def FnExactDecodeWordCardSaid : Prop := Claim7.holds Tryd.pinned (.plain (OpenSpec.ofChange fnExactDecodeWordSpec)) fnExactDecodeWordCard

/-- THE TIED CARD OF 'laws.FnExactDecodeErased'. -/
def fnExactDecodeErasedCard : Claim7 := { stood := { row := fnExactDecodeErasedRow, standIns := [], harness := (true, "ec41bcfc22aeec5005bf8c11464459227047b1d743d55438a3997e38f9d8572b"), looks := false }, kinds := [], alts := [], laidByText := true, laidKinds := [.data], laidTests := true, laidLooks := .later }
def FnExactDecodeErasedCardSaid : Prop := Claim7.holds Tryd.pinned (.plain (OpenSpec.ofChange fnExactDecodeErasedSpec)) fnExactDecodeErasedCard

/-- THE SECOND FORM's CARD OF 'laws.FnExactCheckByte'. -/
def fnExactCheckByteUptoCard : Claim7 := { stood := { row := fnExactCheckByteUptoRow, standIns := [], harness := (true, "ec41bcfc22aeec5005bf8c11464459227047b1d743d55438a3997e38f9d8572b"), looks := false }, kinds := [], alts := [], laidByText := true, laidKinds := [.data], laidTests := true, laidLooks := .later }
def FnExactCheckByteUptoCardSaid : Prop := Claim7.holds Tryd.pinned (.plain (OpenSpec.upto fnExactCheckByteSpec)) fnExactCheckByteUptoCard

/-- THE SECOND FORM's CARD OF 'laws.FnExactSyndrome'. -/
def fnExactSyndromeUptoCard : Claim7 := { stood := { row := fnExactSyndromeUptoRow, standIns := [], harness := (true, "ec41bcfc22aeec5005bf8c11464459227047b1d743d55438a3997e38f9d8572b"), looks := false }, kinds := [], alts := [], laidByText := true, laidKinds := [.data], laidTests := true, laidLooks := .later }
def FnExactSyndromeUptoCardSaid : Prop := Claim7.holds Tryd.pinned (.plain (OpenSpec.upto fnExactSyndromeSpec)) fnExactSyndromeUptoCard

/-- THE SECOND FORM's CARD OF 'laws.FnExactDecodeWord'. -/
def fnExactDecodeWordUptoCard : Claim7 := { stood := { row := fnExactDecodeWordUptoRow, standIns := [], harness := (true, "ec41bcfc22aeec5005bf8c11464459227047b1d743d55438a3997e38f9d8572b"), looks := false }, kinds := [], alts := [], laidByText := true, laidKinds := [.data], laidTests := true, laidLooks := .later }
def FnExactDecodeWordUptoCardSaid : Prop := Claim7.holds Tryd.pinned (.plain (OpenSpec.upto fnExactDecodeWordSpec)) fnExactDecodeWordUptoCard

/-- THE SECOND FORM's CARD OF 'laws.FnExactDecodeErased'. -/
def fnExactDecodeErasedUptoCard : Claim7 := { stood := { row := fnExactDecodeErasedUptoRow, standIns := [], harness := (true, "ec41bcfc22aeec5005bf8c11464459227047b1d743d55438a3997e38f9d8572b"), looks := false }, kinds := [], alts := [], laidByText := true, laidKinds := [.data], laidTests := true, laidLooks := .later }
def FnExactDecodeErasedUptoCardSaid : Prop := Claim7.holds Tryd.pinned (.plain (OpenSpec.upto fnExactDecodeErasedSpec)) fnExactDecodeErasedUptoCard
end Rows
end Go.Proofs.YtegjppihopncoabDoor
