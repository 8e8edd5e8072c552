/-
  DERIVED. GIVEN WITH THE SEED: THE CARDS: each row of YtegjppihopncoaaDoorRows.lean that lists a variable, with what it lists TIED to the program's text (the seventh form; the later family's looks); each row that meets fmt, with fmt's text TOLD by the authors' own Lean function (tested against real Go, not proved from fmt's source: count such statements apart). THE CARD IS WHAT COUNTS. Prove the row's statement (the work); the ties are given (YtegjppihopncoaaDoorTie.lean); close each card by the builder's one call (the guide's Derived/Test/ToyasCard.lean, 'card_holds'). Laid BY PROGRAM, IN A SANDBOX (cutbox-door.mjs). By AI agents, Wed Nov 11 2026. No macro, syntax, notation, axiom, sorry.
-/
import Derived.Test.YtegjppihopncoaaDoorRows
import GoSem.ClaimSeven
namespace Go.Proofs.YtegjppihopncoaaDoor
namespace Rows

/-- THE TIED CARD OF 'laws.FnCrc'. -/
def fnCrcCard : Claim7 := { stood := { row := fnCrcRow, standIns := [], harness := (true, "d6eb77c0502e3b0fbf10a6ec77caaa28fa95e67ea091d6697547d5d57c295873"), looks := false }, kinds := [], alts := [], laidByText := true, laidKinds := [.data], laidTests := true, laidLooks := .later }
def FnCrcCardSaid : Prop := Claim7.holds Tryd.pinned (.plain (OpenSpec.ofChange fnCrcSpec)) fnCrcCard

/-- THE TIED CARD OF 'laws.FnEccOne'. -/
def fnEccOneCard : Claim7 := { stood := { row := fnEccOneRow, standIns := [], harness := (true, "d6eb77c0502e3b0fbf10a6ec77caaa28fa95e67ea091d6697547d5d57c295873"), looks := false }, kinds := [], alts := [], laidByText := true, laidKinds := [.data], laidTests := true, laidLooks := .later }
def FnEccOneCardSaid : Prop := Claim7.holds Tryd.pinned (.plain (OpenSpec.ofChange fnEccOneSpec)) fnEccOneCard

/-- THE TIED CARD OF 'laws.FnEccTwo'. -/
def fnEccTwoCard : Claim7 := { stood := { row := fnEccTwoRow, standIns := [], harness := (true, "d6eb77c0502e3b0fbf10a6ec77caaa28fa95e67ea091d6697547d5d57c295873"), looks := false }, kinds := [], alts := [], laidByText := true, laidKinds := [.data], laidTests := true, laidLooks := .later }
def FnEccTwoCardSaid : Prop := Claim7.holds Tryd.pinned (.plain (OpenSpec.ofChange fnEccTwoSpec)) fnEccTwoCard

/-- THE TIED CARD OF 'laws.FnErasures'. -/
def fnErasuresCard : Claim7 := { stood := { row := fnErasuresRow, standIns := [], harness := (true, "d6eb77c0502e3b0fbf10a6ec77caaa28fa95e67ea091d6697547d5d57c295873"), looks := false }, kinds := [], alts := [], laidByText := true, laidKinds := [.data], laidTests := true, laidLooks := .later }
def FnErasuresCardSaid : Prop := Claim7.holds Tryd.pinned (.plain (OpenSpec.ofChange fnErasuresSpec)) fnErasuresCard

/-- THE TIED CARD OF 'laws.FnWords'. -/
def fnWordsCard : Claim7 := { stood := { row := fnWordsRow, standIns := [], harness := (true, "d6eb77c0502e3b0fbf10a6ec77caaa28fa95e67ea091d6697547d5d57c295873"), looks := false }, kinds := [], alts := [], laidByText := true, laidKinds := [.data], laidTests := true, laidLooks := .later }
def FnWordsCardSaid : Prop := Claim7.holds Tryd.pinned (.plain (OpenSpec.ofChange fnWordsSpec)) fnWordsCard

/-- THE SECOND FORM's CARD OF 'laws.FnCrc'. -/
def fnCrcUptoCard : Claim7 := { stood := { row := fnCrcUptoRow, standIns := [], harness := (true, "d6eb77c0502e3b0fbf10a6ec77caaa28fa95e67ea091d6697547d5d57c295873"), looks := false }, kinds := [], alts := [], laidByText := true, laidKinds := [.data], laidTests := true, laidLooks := .later }
def FnCrcUptoCardSaid : Prop := Claim7.holds Tryd.pinned (.plain (OpenSpec.upto fnCrcSpec)) fnCrcUptoCard

/-- THE SECOND FORM's CARD OF 'laws.FnEccOne'. -/
def fnEccOneUptoCard : Claim7 := { stood := { row := fnEccOneUptoRow, standIns := [], harness := (true, "d6eb77c0502e3b0fbf10a6ec77caaa28fa95e67ea091d6697547d5d57c295873"), looks := false }, kinds := [], alts := [], laidByText := true, laidKinds := [.data], laidTests := true, laidLooks := .later }
def FnEccOneUptoCardSaid : Prop := Claim7.holds Tryd.pinned (.plain (OpenSpec.upto fnEccOneSpec)) fnEccOneUptoCard

/-- THE SECOND FORM's CARD OF 'laws.FnEccTwo'. -/
def fnEccTwoUptoCard : Claim7 := { stood := { row := fnEccTwoUptoRow, standIns := [], harness := (true, "d6eb77c0502e3b0fbf10a6ec77caaa28fa95e67ea091d6697547d5d57c295873"), looks := false }, kinds := [], alts := [], laidByText := true, laidKinds := [.data], laidTests := true, laidLooks := .later }
def FnEccTwoUptoCardSaid : Prop := Claim7.holds Tryd.pinned (.plain (OpenSpec.upto fnEccTwoSpec)) fnEccTwoUptoCard

/-- THE SECOND FORM's CARD OF 'laws.FnErasures'. -/
def fnErasuresUptoCard : Claim7 := { stood := { row := fnErasuresUptoRow, standIns := [], harness := (true, "d6eb77c0502e3b0fbf10a6ec77caaa28fa95e67ea091d6697547d5d57c295873"), looks := false }, kinds := [], alts := [], laidByText := true, laidKinds := [.data], laidTests := true, laidLooks := .later }
def FnErasuresUptoCardSaid : Prop := Claim7.holds Tryd.pinned (.plain (OpenSpec.upto fnErasuresSpec)) fnErasuresUptoCard

/-- THE SECOND FORM's CARD OF 'laws.FnWords'. -/
def fnWordsUptoCard : Claim7 := { stood := { row := fnWordsUptoRow, standIns := [], harness := (true, "d6eb77c0502e3b0fbf10a6ec77caaa28fa95e67ea091d6697547d5d57c295873"), looks := false }, kinds := [], alts := [], laidByText := true, laidKinds := [.data], laidTests := true, laidLooks := .later }
def FnWordsUptoCardSaid : Prop := Claim7.holds Tryd.pinned (.plain (OpenSpec.upto fnWordsSpec)) fnWordsUptoCard
end Rows
end Go.Proofs.YtegjppihopncoaaDoor
