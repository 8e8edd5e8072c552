/-
  DERIVED. GIVEN WITH THE SEED: THE CARDS: each row of YtfnccbanmgfkeabDoorRows.lean that lists a variable, with what it lists TIED to the program's text (the seventh form; the later family's looks); each row that meets fmt, with fmt's text TOLD by the authors' own Lean function (tested against real Go, not proved from fmt's source: count such statements apart). THE CARD IS WHAT COUNTS. Prove the row's statement (the work); the ties are given (YtfnccbanmgfkeabDoorTie.lean); close each card by the builder's one call (the guide's Derived/Test/ToyasCard.lean, 'card_holds'). Laid BY PROGRAM, IN A SANDBOX (cutbox-door.mjs). By AI agents, Wed Nov 11 2026. No macro, syntax, notation, axiom, sorry.
-/
import Derived.Test.YtfnccbanmgfkeabDoorRows
import GoSem.ClaimSeven
namespace Go.Proofs.YtfnccbanmgfkeabDoor
namespace Rows

/-- THE TIED CARD OF 'laws.FnExactEncodeMeta'. -/
def fnExactEncodeMetaCard : Claim7 := { stood := { row := fnExactEncodeMetaRow, standIns := [], harness := (true, "792c974a6ed3c99aabd703d704c1d24bdc493d17337ecf71eaa6e29f136261f6"), looks := false }, kinds := [], alts := [], laidByText := true, laidKinds := [.data], laidTests := true, laidLooks := .later }
def FnExactEncodeMetaCardSaid : Prop := Claim7.holds Tryd.pinned (.plain (OpenSpec.ofChange fnExactEncodeMetaSpec)) fnExactEncodeMetaCard

/-- THE TIED CARD OF 'laws.FnExactDecodeMeta'. -/
def fnExactDecodeMetaCard : Claim7 := { stood := { row := fnExactDecodeMetaRow, standIns := [], harness := (true, "792c974a6ed3c99aabd703d704c1d24bdc493d17337ecf71eaa6e29f136261f6"), looks := false }, kinds := [], alts := [], laidByText := true, laidKinds := [.data], laidTests := true, laidLooks := .later }
def FnExactDecodeMetaCardSaid : Prop := Claim7.holds Tryd.pinned (.plain (OpenSpec.ofChange fnExactDecodeMetaSpec)) fnExactDecodeMetaCard

/-- THE TIED CARD OF 'laws.FnExactEncodeCheckpoint'. -/
def fnExactEncodeCheckpointCard : Claim7 := { stood := { row := fnExactEncodeCheckpointRow, standIns := [], harness := (true, "792c974a6ed3c99aabd703d704c1d24bdc493d17337ecf71eaa6e29f136261f6"), looks := false }, kinds := [], alts := [], laidByText := true, laidKinds := [.data], laidTests := true, laidLooks := .later }
def FnExactEncodeCheckpointCardSaid : Prop := Claim7.holds Tryd.pinned (.plain (OpenSpec.ofChange fnExactEncodeCheckpointSpec)) fnExactEncodeCheckpointCard

/-- THE TIED CARD OF 'laws.FnExactDecodeCheckpoint'. -/
def fnExactDecodeCheckpointCard : Claim7 := { stood := { row := fnExactDecodeCheckpointRow, standIns := [], harness := (true, "792c974a6ed3c99aabd703d704c1d24bdc493d17337ecf71eaa6e29f136261f6"), looks := false }, kinds := [], alts := [], laidByText := true, laidKinds := [.data], laidTests := true, laidLooks := .later }
def FnExactDecodeCheckpointCardSaid : Prop := Claim7.holds Tryd.pinned (.plain (OpenSpec.ofChange fnExactDecodeCheckpointSpec)) fnExactDecodeCheckpointCard

/-- THE TIED CARD OF 'laws.FnMeta'. -/
def fnMetaCard : Claim7 := { stood := { row := fnMetaRow, standIns := [], harness := (true, "792c974a6ed3c99aabd703d704c1d24bdc493d17337ecf71eaa6e29f136261f6"), looks := false }, kinds := [], alts := [], laidByText := true, laidKinds := [.data], laidTests := true, laidLooks := .later }
def FnMetaCardSaid : Prop := Claim7.holds Tryd.pinned (.plain (OpenSpec.ofChange fnMetaSpec)) fnMetaCard

/-- THE TIED CARD OF 'laws.FnCheckpoint'. -/
def fnCheckpointCard : Claim7 := { stood := { row := fnCheckpointRow, standIns := [], harness := (true, "792c974a6ed3c99aabd703d704c1d24bdc493d17337ecf71eaa6e29f136261f6"), looks := false }, kinds := [], alts := [], laidByText := true, laidKinds := [.data], laidTests := true, laidLooks := .later }
def FnCheckpointCardSaid : Prop := Claim7.holds Tryd.pinned (.plain (OpenSpec.ofChange fnCheckpointSpec)) fnCheckpointCard

/-- THE SECOND FORM's CARD OF 'laws.FnExactEncodeMeta'. -/
def fnExactEncodeMetaUptoCard : Claim7 := { stood := { row := fnExactEncodeMetaUptoRow, standIns := [], harness := (true, "792c974a6ed3c99aabd703d704c1d24bdc493d17337ecf71eaa6e29f136261f6"), looks := false }, kinds := [], alts := [], laidByText := true, laidKinds := [.data], laidTests := true, laidLooks := .later }
def FnExactEncodeMetaUptoCardSaid : Prop := Claim7.holds Tryd.pinned (.plain (OpenSpec.upto fnExactEncodeMetaSpec)) fnExactEncodeMetaUptoCard

/-- THE SECOND FORM's CARD OF 'laws.FnExactDecodeMeta'. -/
def fnExactDecodeMetaUptoCard : Claim7 := { stood := { row := fnExactDecodeMetaUptoRow, standIns := [], harness := (true, "792c974a6ed3c99aabd703d704c1d24bdc493d17337ecf71eaa6e29f136261f6"), looks := false }, kinds := [], alts := [], laidByText := true, laidKinds := [.data], laidTests := true, laidLooks := .later }
def FnExactDecodeMetaUptoCardSaid : Prop := Claim7.holds Tryd.pinned (.plain (OpenSpec.upto fnExactDecodeMetaSpec)) fnExactDecodeMetaUptoCard

/-- THE SECOND FORM's CARD OF 'laws.FnExactEncodeCheckpoint'. -/
def fnExactEncodeCheckpointUptoCard : Claim7 := { stood := { row := fnExactEncodeCheckpointUptoRow, standIns := [], harness := (true, "792c974a6ed3c99aabd703d704c1d24bdc493d17337ecf71eaa6e29f136261f6"), looks := false }, kinds := [], alts := [], laidByText := true, laidKinds := [.data], laidTests := true, laidLooks := .later }
def FnExactEncodeCheckpointUptoCardSaid : Prop := Claim7.holds Tryd.pinned (.plain (OpenSpec.upto fnExactEncodeCheckpointSpec)) fnExactEncodeCheckpointUptoCard

/-- THE SECOND FORM's CARD OF 'laws.FnExactDecodeCheckpoint'. -/
def fnExactDecodeCheckpointUptoCard : Claim7 := { stood := { row := fnExactDecodeCheckpointUptoRow, standIns := [], harness := (true, "792c974a6ed3c99aabd703d704c1d24bdc493d17337ecf71eaa6e29f136261f6"), looks := false }, kinds := [], alts := [], laidByText := true, laidKinds := [.data], laidTests := true, laidLooks := .later }
def FnExactDecodeCheckpointUptoCardSaid : Prop := Claim7.holds Tryd.pinned (.plain (OpenSpec.upto fnExactDecodeCheckpointSpec)) fnExactDecodeCheckpointUptoCard

/-- THE SECOND FORM's CARD OF 'laws.FnMeta'. -/
def fnMetaUptoCard : Claim7 := { stood := { row := fnMetaUptoRow, standIns := [], harness := (true, "792c974a6ed3c99aabd703d704c1d24bdc493d17337ecf71eaa6e29f136261f6"), looks := false }, kinds := [], alts := [], laidByText := true, laidKinds := [.data], laidTests := true, laidLooks := .later }
def FnMetaUptoCardSaid : Prop := Claim7.holds Tryd.pinned (.plain (OpenSpec.upto fnMetaSpec)) fnMetaUptoCard

/-- THE SECOND FORM's CARD OF 'laws.FnCheckpoint'. -/
def fnCheckpointUptoCard : Claim7 := { stood := { row := fnCheckpointUptoRow, standIns := [], harness := (true, "792c974a6ed3c99aabd703d704c1d24bdc493d17337ecf71eaa6e29f136261f6"), looks := false }, kinds := [], alts := [], laidByText := true, laidKinds := [.data], laidTests := true, laidLooks := .later }
def FnCheckpointUptoCardSaid : Prop := Claim7.holds Tryd.pinned (.plain (OpenSpec.upto fnCheckpointSpec)) fnCheckpointUptoCard
end Rows
end Go.Proofs.YtfnccbanmgfkeabDoor
