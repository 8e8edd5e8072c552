/-
  DERIVED. GIVEN WITH THE SEED: THE CARDS: each row of YtnobgapdidpafaaDoorRows.lean that lists a variable, with what it lists TIED to the program's text (the seventh form; the later family's looks); each row that meets fmt, with fmt's text TOLD by the authors' own Lean function (tested against real Go, not proved from fmt's source: count such statements apart). THE CARD IS WHAT COUNTS. Prove the row's statement (the work); the ties are given (YtnobgapdidpafaaDoorTie.lean); close each card by the builder's one call (the guide's Derived/Test/ToyasCard.lean, 'card_holds'). Laid BY PROGRAM, IN A SANDBOX (cutbox-door.mjs). By AI agents, Wed Nov 11 2026. No macro, syntax, notation, axiom, sorry.
-/
import Derived.Test.YtnobgapdidpafaaDoorRows
import GoSem.ClaimSeven
namespace Go.Proofs.YtnobgapdidpafaaDoor
namespace Rows

/-- THE TIED CARD OF 'laws.FnExactEncodeHeader'. -/
def fnExactEncodeHeaderCard : Claim7 := { stood := { row := fnExactEncodeHeaderRow, standIns := [], harness := (true, "7d27ec35e4974262d2da3d140a29424ff775b6719491f30a3a135c946418775b"), looks := false }, kinds := [], alts := [], laidByText := true, laidKinds := [.data], laidTests := true, laidLooks := .later }
def FnExactEncodeHeaderCardSaid : Prop := Claim7.holds Tryd.pinned (.plain (OpenSpec.ofChange fnExactEncodeHeaderSpec)) fnExactEncodeHeaderCard

/-- THE TIED CARD OF 'laws.FnExactDecodeHeader'. -/
def fnExactDecodeHeaderCard : Claim7 := { stood := { row := fnExactDecodeHeaderRow, standIns := [], harness := (true, "7d27ec35e4974262d2da3d140a29424ff775b6719491f30a3a135c946418775b"), looks := false }, kinds := [], alts := [], laidByText := true, laidKinds := [.data], laidTests := true, laidLooks := .later }
def FnExactDecodeHeaderCardSaid : Prop := Claim7.holds Tryd.pinned (.plain (OpenSpec.ofChange fnExactDecodeHeaderSpec)) fnExactDecodeHeaderCard

/-- THE TIED CARD OF 'laws.FnHeader'. -/
def fnHeaderCard : Claim7 := { stood := { row := fnHeaderRow, standIns := [], harness := (true, "7d27ec35e4974262d2da3d140a29424ff775b6719491f30a3a135c946418775b"), looks := false }, kinds := [], alts := [], laidByText := true, laidKinds := [.data], laidTests := true, laidLooks := .later }
def FnHeaderCardSaid : Prop := Claim7.holds Tryd.pinned (.plain (OpenSpec.ofChange fnHeaderSpec)) fnHeaderCard

/-- THE SECOND FORM's CARD OF 'laws.FnExactEncodeHeader'. -/
def fnExactEncodeHeaderUptoCard : Claim7 := { stood := { row := fnExactEncodeHeaderUptoRow, standIns := [], harness := (true, "7d27ec35e4974262d2da3d140a29424ff775b6719491f30a3a135c946418775b"), looks := false }, kinds := [], alts := [], laidByText := true, laidKinds := [.data], laidTests := true, laidLooks := .later }
def FnExactEncodeHeaderUptoCardSaid : Prop := Claim7.holds Tryd.pinned (.plain (OpenSpec.upto fnExactEncodeHeaderSpec)) fnExactEncodeHeaderUptoCard

/-- THE SECOND FORM's CARD OF 'laws.FnExactDecodeHeader'. -/
def fnExactDecodeHeaderUptoCard : Claim7 := { stood := { row := fnExactDecodeHeaderUptoRow, standIns := [], harness := (true, "7d27ec35e4974262d2da3d140a29424ff775b6719491f30a3a135c946418775b"), looks := false }, kinds := [], alts := [], laidByText := true, laidKinds := [.data], laidTests := true, laidLooks := .later }
def FnExactDecodeHeaderUptoCardSaid : Prop := Claim7.holds Tryd.pinned (.plain (OpenSpec.upto fnExactDecodeHeaderSpec)) fnExactDecodeHeaderUptoCard

/-- THE SECOND FORM's CARD OF 'laws.FnHeader'. -/
def fnHeaderUptoCard : Claim7 := { stood := { row := fnHeaderUptoRow, standIns := [], harness := (true, "7d27ec35e4974262d2da3d140a29424ff775b6719491f30a3a135c946418775b"), looks := false }, kinds := [], alts := [], laidByText := true, laidKinds := [.data], laidTests := true, laidLooks := .later }
def FnHeaderUptoCardSaid : Prop := Claim7.holds Tryd.pinned (.plain (OpenSpec.upto fnHeaderSpec)) fnHeaderUptoCard
end Rows
end Go.Proofs.YtnobgapdidpafaaDoor
