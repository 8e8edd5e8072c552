/-
  No cell of these rows narrows 'for every input' (looked for: loops, veiled, ifaces, maps, wideKeys, modest, calm, conditions, laid).
  DERIVED. THE GIVEN ROWS OF THIS SEAT. 12 by the template 'for every input the law returns true; each argument reads behind the call as it read before'; 0 by the template 'total and deterministic' (their statements: YtgamoiagpglcmaaTotals.lean).
  GIVEN WITH THE SEED: the statements are not yours to turn. If you find one false, say at which input.
  Laid BY PROGRAM, IN A SANDBOX (cutbox-rows.mjs): the forced cells as the released guide's own fill.sh prints them over the translation ab0b14f07368425b… (all of the seat's roots in one cut). By AI agents, Wed Nov 11 2026. No macro, syntax, notation, axiom, sorry.
-/
import Derived.Test.YtgamoiagpglcmaaChecked
import GoSem.Claim
import GoSem.ClaimJoined
import GoSem.ClaimMapViews
import Derived.JoinedTies
import Derived.KernelRfl
namespace Go.Proofs.Ytgamoiagpglcmaa
/- THE CELL 'sum', in the pinned program and in every row, IS THE sha256 OF THE DUMP (.gsa) THAT YtgamoiagpglcmaaProg.lean LOADS. Nothing in Lean hashes anything: it is a label: what it is worth is what the hold of that sum in a sandbox is worth. -/
noncomputable def Try.pinned : Pinned := { name := "ytgamoiagpglcmaa", sum := "ab0b14f07368425b127676902d19e504843cbc668e3962bb8195603ab785410c", checked := Try.checked }
namespace Rows
def none {H : Type} : Left H := { results := [], args := [] }

/-- 'laws.FnExactPlaceData': WHATEVER THE INPUT: true; the input reads as it did. -/
def fnExactPlaceDataSpec : ChangeSpec := { name := "fnExactPlaceData", fn := fun _ => fun
  | [d1, d2] => { results := [.lit (.bool true)], args := [d1, d2] }
  | _ => none }
def fnExactPlaceDataRow : OpenClaim := { program := "ytgamoiagpglcmaa", sum := "ab0b14f07368425b127676902d19e504843cbc668e3962bb8195603ab785410c", func := "loop.example/g00905/laws.FnExactPlaceData", spec := "fnExactPlaceData", unfollowed := true, recurses := true, apart := false }
def FnExactPlaceDataSaid : Prop := fnExactPlaceDataRow.holds Try.pinned (OpenSpec.ofChange fnExactPlaceDataSpec)

/-- ITS FALSE NEIGHBOUR: 'it returns false'. Refute it at one input. -/
def fnExactPlaceDataWrong : ChangeSpec := { name := "fnExactPlaceData", fn := fun _ => fun
  | [d1, d2] => { results := [.lit (.bool false)], args := [d1, d2] }
  | _ => none }
def FnExactPlaceDataWrongFalsely : Prop := fnExactPlaceDataRow.holds Try.pinned (OpenSpec.ofChange fnExactPlaceDataWrong)

/-- 'laws.FnExactRewriteHot': WHATEVER THE INPUT: true; the input reads as it did. -/
def fnExactRewriteHotSpec : ChangeSpec := { name := "fnExactRewriteHot", fn := fun _ => fun
  | [d1, d2] => { results := [.lit (.bool true)], args := [d1, d2] }
  | _ => none }
def fnExactRewriteHotRow : OpenClaim := { program := "ytgamoiagpglcmaa", sum := "ab0b14f07368425b127676902d19e504843cbc668e3962bb8195603ab785410c", func := "loop.example/g00905/laws.FnExactRewriteHot", spec := "fnExactRewriteHot", unfollowed := true, recurses := true, apart := false }
def FnExactRewriteHotSaid : Prop := fnExactRewriteHotRow.holds Try.pinned (OpenSpec.ofChange fnExactRewriteHotSpec)

/-- ITS FALSE NEIGHBOUR: 'it returns false'. Refute it at one input. -/
def fnExactRewriteHotWrong : ChangeSpec := { name := "fnExactRewriteHot", fn := fun _ => fun
  | [d1, d2] => { results := [.lit (.bool false)], args := [d1, d2] }
  | _ => none }
def FnExactRewriteHotWrongFalsely : Prop := fnExactRewriteHotRow.holds Try.pinned (OpenSpec.ofChange fnExactRewriteHotWrong)

/-- 'laws.FnExactLevelMove': WHATEVER THE INPUT: true; the input reads as it did. -/
def fnExactLevelMoveSpec : ChangeSpec := { name := "fnExactLevelMove", fn := fun _ => fun
  | [d] => { results := [.lit (.bool true)], args := [d] }
  | _ => none }
def fnExactLevelMoveRow : OpenClaim := { program := "ytgamoiagpglcmaa", sum := "ab0b14f07368425b127676902d19e504843cbc668e3962bb8195603ab785410c", func := "loop.example/g00905/laws.FnExactLevelMove", spec := "fnExactLevelMove", unfollowed := true, recurses := true, apart := false }
def FnExactLevelMoveSaid : Prop := fnExactLevelMoveRow.holds Try.pinned (OpenSpec.ofChange fnExactLevelMoveSpec)

/-- ITS FALSE NEIGHBOUR: 'it returns false'. Refute it at one input. -/
def fnExactLevelMoveWrong : ChangeSpec := { name := "fnExactLevelMove", fn := fun _ => fun
  | [d] => { results := [.lit (.bool false)], args := [d] }
  | _ => none }
def FnExactLevelMoveWrongFalsely : Prop := fnExactLevelMoveRow.holds Try.pinned (OpenSpec.ofChange fnExactLevelMoveWrong)

/-- 'laws.FnExactLevelWear': WHATEVER THE INPUT: true; the input reads as it did. -/
def fnExactLevelWearSpec : ChangeSpec := { name := "fnExactLevelWear", fn := fun _ => fun
  | [d] => { results := [.lit (.bool true)], args := [d] }
  | _ => none }
def fnExactLevelWearRow : OpenClaim := { program := "ytgamoiagpglcmaa", sum := "ab0b14f07368425b127676902d19e504843cbc668e3962bb8195603ab785410c", func := "loop.example/g00905/laws.FnExactLevelWear", spec := "fnExactLevelWear", unfollowed := true, recurses := true, apart := false }
def FnExactLevelWearSaid : Prop := fnExactLevelWearRow.holds Try.pinned (OpenSpec.ofChange fnExactLevelWearSpec)

/-- ITS FALSE NEIGHBOUR: 'it returns false'. Refute it at one input. -/
def fnExactLevelWearWrong : ChangeSpec := { name := "fnExactLevelWear", fn := fun _ => fun
  | [d] => { results := [.lit (.bool false)], args := [d] }
  | _ => none }
def FnExactLevelWearWrongFalsely : Prop := fnExactLevelWearRow.holds Try.pinned (OpenSpec.ofChange fnExactLevelWearWrong)

/-- 'laws.FnCells': WHATEVER THE INPUT: true; the input reads as it did. -/
def fnCellsSpec : ChangeSpec := { name := "fnCells", fn := fun _ => fun
  | [d] => { results := [.lit (.bool true)], args := [d] }
  | _ => none }
def fnCellsRow : OpenClaim := { program := "ytgamoiagpglcmaa", sum := "ab0b14f07368425b127676902d19e504843cbc668e3962bb8195603ab785410c", func := "loop.example/g00905/laws.FnCells", spec := "fnCells", inPlace := ["internal/abi.NoEscape", "internal/bytealg.MakeNoZero"], unfollowed := true, recurses := true, apart := false }
def FnCellsSaid : Prop := fnCellsRow.holds Try.pinned (OpenSpec.ofChange fnCellsSpec)

/-- ITS FALSE NEIGHBOUR: 'it returns false'. Refute it at one input. -/
def fnCellsWrong : ChangeSpec := { name := "fnCells", fn := fun _ => fun
  | [d] => { results := [.lit (.bool false)], args := [d] }
  | _ => none }
def FnCellsWrongFalsely : Prop := fnCellsRow.holds Try.pinned (OpenSpec.ofChange fnCellsWrong)

/-- 'laws.FnErasePasses': WHATEVER THE INPUT: true; the input reads as it did. -/
def fnErasePassesSpec : ChangeSpec := { name := "fnErasePasses", fn := fun _ => fun
  | [d] => { results := [.lit (.bool true)], args := [d] }
  | _ => none }
def fnErasePassesRow : OpenClaim := { program := "ytgamoiagpglcmaa", sum := "ab0b14f07368425b127676902d19e504843cbc668e3962bb8195603ab785410c", func := "loop.example/g00905/laws.FnErasePasses", spec := "fnErasePasses", unfollowed := true, recurses := true, apart := false }
def FnErasePassesSaid : Prop := fnErasePassesRow.holds Try.pinned (OpenSpec.ofChange fnErasePassesSpec)

/-- ITS FALSE NEIGHBOUR: 'it returns false'. Refute it at one input. -/
def fnErasePassesWrong : ChangeSpec := { name := "fnErasePasses", fn := fun _ => fun
  | [d] => { results := [.lit (.bool false)], args := [d] }
  | _ => none }
def FnErasePassesWrongFalsely : Prop := fnErasePassesRow.holds Try.pinned (OpenSpec.ofChange fnErasePassesWrong)

/-- 'laws.FnFreeBlocks': WHATEVER THE INPUT: true; the input reads as it did. -/
def fnFreeBlocksSpec : ChangeSpec := { name := "fnFreeBlocks", fn := fun _ => fun
  | [d] => { results := [.lit (.bool true)], args := [d] }
  | _ => none }
def fnFreeBlocksRow : OpenClaim := { program := "ytgamoiagpglcmaa", sum := "ab0b14f07368425b127676902d19e504843cbc668e3962bb8195603ab785410c", func := "loop.example/g00905/laws.FnFreeBlocks", spec := "fnFreeBlocks", unfollowed := true, recurses := true, apart := false }
def FnFreeBlocksSaid : Prop := fnFreeBlocksRow.holds Try.pinned (OpenSpec.ofChange fnFreeBlocksSpec)

/-- ITS FALSE NEIGHBOUR: 'it returns false'. Refute it at one input. -/
def fnFreeBlocksWrong : ChangeSpec := { name := "fnFreeBlocks", fn := fun _ => fun
  | [d] => { results := [.lit (.bool false)], args := [d] }
  | _ => none }
def FnFreeBlocksWrongFalsely : Prop := fnFreeBlocksRow.holds Try.pinned (OpenSpec.ofChange fnFreeBlocksWrong)

/-- 'laws.FnLevelMoves': WHATEVER THE INPUT: true; the input reads as it did. -/
def fnLevelMovesSpec : ChangeSpec := { name := "fnLevelMoves", fn := fun _ => fun
  | [d] => { results := [.lit (.bool true)], args := [d] }
  | _ => none }
def fnLevelMovesRow : OpenClaim := { program := "ytgamoiagpglcmaa", sum := "ab0b14f07368425b127676902d19e504843cbc668e3962bb8195603ab785410c", func := "loop.example/g00905/laws.FnLevelMoves", spec := "fnLevelMoves", unfollowed := true, recurses := true, apart := false }
def FnLevelMovesSaid : Prop := fnLevelMovesRow.holds Try.pinned (OpenSpec.ofChange fnLevelMovesSpec)

/-- ITS FALSE NEIGHBOUR: 'it returns false'. Refute it at one input. -/
def fnLevelMovesWrong : ChangeSpec := { name := "fnLevelMoves", fn := fun _ => fun
  | [d] => { results := [.lit (.bool false)], args := [d] }
  | _ => none }
def FnLevelMovesWrongFalsely : Prop := fnLevelMovesRow.holds Try.pinned (OpenSpec.ofChange fnLevelMovesWrong)

/-- 'laws.FnWearBound': WHATEVER THE INPUT: true; the input reads as it did. -/
def fnWearBoundSpec : ChangeSpec := { name := "fnWearBound", fn := fun _ => fun
  | [d] => { results := [.lit (.bool true)], args := [d] }
  | _ => none }
def fnWearBoundRow : OpenClaim := { program := "ytgamoiagpglcmaa", sum := "ab0b14f07368425b127676902d19e504843cbc668e3962bb8195603ab785410c", func := "loop.example/g00905/laws.FnWearBound", spec := "fnWearBound", unfollowed := true, recurses := true, apart := false }
def FnWearBoundSaid : Prop := fnWearBoundRow.holds Try.pinned (OpenSpec.ofChange fnWearBoundSpec)

/-- ITS FALSE NEIGHBOUR: 'it returns false'. Refute it at one input. -/
def fnWearBoundWrong : ChangeSpec := { name := "fnWearBound", fn := fun _ => fun
  | [d] => { results := [.lit (.bool false)], args := [d] }
  | _ => none }
def FnWearBoundWrongFalsely : Prop := fnWearBoundRow.holds Try.pinned (OpenSpec.ofChange fnWearBoundWrong)

/-- 'laws.FnExactIsWiped': WHATEVER THE INPUT: true; the input reads as it did. -/
def fnExactIsWipedSpec : ChangeSpec := { name := "fnExactIsWiped", fn := fun _ => fun
  | [d1, d2] => { results := [.lit (.bool true)], args := [d1, d2] }
  | _ => none }
def fnExactIsWipedRow : OpenClaim := { program := "ytgamoiagpglcmaa", sum := "ab0b14f07368425b127676902d19e504843cbc668e3962bb8195603ab785410c", func := "loop.example/g00905/laws.FnExactIsWiped", spec := "fnExactIsWiped", apart := false }
def FnExactIsWipedSaid : Prop := fnExactIsWipedRow.holds Try.pinned (OpenSpec.ofChange fnExactIsWipedSpec)

/-- ITS FALSE NEIGHBOUR: 'it returns false'. Refute it at one input. -/
def fnExactIsWipedWrong : ChangeSpec := { name := "fnExactIsWiped", fn := fun _ => fun
  | [d1, d2] => { results := [.lit (.bool false)], args := [d1, d2] }
  | _ => none }
def FnExactIsWipedWrongFalsely : Prop := fnExactIsWipedRow.holds Try.pinned (OpenSpec.ofChange fnExactIsWipedWrong)

/-- 'laws.FnExactValidWipe': WHATEVER THE INPUT: true; the input reads as it did. -/
def fnExactValidWipeSpec : ChangeSpec := { name := "fnExactValidWipe", fn := fun _ => fun
  | [d1, d2] => { results := [.lit (.bool true)], args := [d1, d2] }
  | _ => none }
def fnExactValidWipeRow : OpenClaim := { program := "ytgamoiagpglcmaa", sum := "ab0b14f07368425b127676902d19e504843cbc668e3962bb8195603ab785410c", func := "loop.example/g00905/laws.FnExactValidWipe", spec := "fnExactValidWipe", apart := false }
def FnExactValidWipeSaid : Prop := fnExactValidWipeRow.holds Try.pinned (OpenSpec.ofChange fnExactValidWipeSpec)

/-- ITS FALSE NEIGHBOUR: 'it returns false'. Refute it at one input. -/
def fnExactValidWipeWrong : ChangeSpec := { name := "fnExactValidWipe", fn := fun _ => fun
  | [d1, d2] => { results := [.lit (.bool false)], args := [d1, d2] }
  | _ => none }
def FnExactValidWipeWrongFalsely : Prop := fnExactValidWipeRow.holds Try.pinned (OpenSpec.ofChange fnExactValidWipeWrong)

/-- 'laws.FnExactSecureErase': WHATEVER THE INPUT: true; the input reads as it did. -/
def fnExactSecureEraseSpec : ChangeSpec := { name := "fnExactSecureErase", fn := fun _ => fun
  | [d1, d2] => { results := [.lit (.bool true)], args := [d1, d2] }
  | _ => none }
def fnExactSecureEraseRow : OpenClaim := { program := "ytgamoiagpglcmaa", sum := "ab0b14f07368425b127676902d19e504843cbc668e3962bb8195603ab785410c", func := "loop.example/g00905/laws.FnExactSecureErase", spec := "fnExactSecureErase", unfollowed := true, recurses := true, apart := false }
def FnExactSecureEraseSaid : Prop := fnExactSecureEraseRow.holds Try.pinned (OpenSpec.ofChange fnExactSecureEraseSpec)

/-- ITS FALSE NEIGHBOUR: 'it returns false'. Refute it at one input. -/
def fnExactSecureEraseWrong : ChangeSpec := { name := "fnExactSecureErase", fn := fun _ => fun
  | [d1, d2] => { results := [.lit (.bool false)], args := [d1, d2] }
  | _ => none }
def FnExactSecureEraseWrongFalsely : Prop := fnExactSecureEraseRow.holds Try.pinned (OpenSpec.ofChange fnExactSecureEraseWrong)

/- THE SECOND FORM. 'bulk': how many values and letters a reading holds, each counted each time it is reached (what is shared counts as often as it is met; a slice's spare places count too). A statement '..UptoSaid' is the law's where the arguments, and the package variables that the reading takes, are together of bulk at most 1048576: NARROWER than '..Said'. Prove '..Said' where nothing that the law and all that it calls make is longer than what came in: it says more and counts as full. Else prove '..UptoSaid'. A law counts once. -/
mutual
def uptoBulk {H : Type} : DataW H → Nat
  | .lit (.string bytes) => bytes.length + 1
  | .lit _ => 1
  | .nil => 1
  | .ptr d => uptoBulk d + 1
  | .slice elems spare => uptoBulkAll elems + uptoBulkAll spare + 1
  | .agg parts => uptoBulkAll parts + 1
  | .iface _ d => uptoBulk d + 1
  | .map entries => uptoBulkEntries entries + 1
  | .held _ => 1
def uptoBulkAll {H : Type} : List (DataW H) → Nat
  | [] => 0
  | d :: r => uptoBulk d + uptoBulkAll r
def uptoBulkEntries {H : Type} : List (Lit × DataW H) → Nat
  | [] => 0
  | x :: r => uptoBulkEntry x + uptoBulkEntries r
def uptoBulkEntry {H : Type} : Lit × DataW H → Nat
  | (.string bytes, d) => bytes.length + uptoBulk d + 1
  | (_, d) => uptoBulk d + 1
 end
def uptoSmall : (H : Type) → List (DataW H) → Bool := fun _ ds => decide (uptoBulkAll ds ≤ 1048576)
def OpenSpec.upto (s : _root_.Go.ChangeSpec) : _root_.Go.OpenSpec := { _root_.Go.OpenSpec.ofChange s with cond := some uptoSmall }

/-- 'laws.FnExactPlaceData', WHERE WHAT IT READS IS OF BULK AT MOST 1048576: true; the input reads as it did. -/
def fnExactPlaceDataUptoRow : OpenClaim := { program := "ytgamoiagpglcmaa", sum := "ab0b14f07368425b127676902d19e504843cbc668e3962bb8195603ab785410c", func := "loop.example/g00905/laws.FnExactPlaceData", spec := "fnExactPlaceData", unfollowed := true, recurses := true, apart := false, narrowed := true }
def FnExactPlaceDataUptoSaid : Prop := fnExactPlaceDataUptoRow.holds Try.pinned (OpenSpec.upto fnExactPlaceDataSpec)

/-- 'laws.FnExactRewriteHot', WHERE WHAT IT READS IS OF BULK AT MOST 1048576: true; the input reads as it did. -/
def fnExactRewriteHotUptoRow : OpenClaim := { program := "ytgamoiagpglcmaa", sum := "ab0b14f07368425b127676902d19e504843cbc668e3962bb8195603ab785410c", func := "loop.example/g00905/laws.FnExactRewriteHot", spec := "fnExactRewriteHot", unfollowed := true, recurses := true, apart := false, narrowed := true }
def FnExactRewriteHotUptoSaid : Prop := fnExactRewriteHotUptoRow.holds Try.pinned (OpenSpec.upto fnExactRewriteHotSpec)

/-- 'laws.FnExactLevelMove', WHERE WHAT IT READS IS OF BULK AT MOST 1048576: true; the input reads as it did. -/
def fnExactLevelMoveUptoRow : OpenClaim := { program := "ytgamoiagpglcmaa", sum := "ab0b14f07368425b127676902d19e504843cbc668e3962bb8195603ab785410c", func := "loop.example/g00905/laws.FnExactLevelMove", spec := "fnExactLevelMove", unfollowed := true, recurses := true, apart := false, narrowed := true }
def FnExactLevelMoveUptoSaid : Prop := fnExactLevelMoveUptoRow.holds Try.pinned (OpenSpec.upto fnExactLevelMoveSpec)

/-- 'laws.FnExactLevelWear', WHERE WHAT IT READS IS OF BULK AT MOST 1048576: true; the input reads as it did. -/
def fnExactLevelWearUptoRow : OpenClaim := { program := "ytgamoiagpglcmaa", sum := "ab0b14f07368425b127676902d19e504843cbc668e3962bb8195603ab785410c", func := "loop.example/g00905/laws.FnExactLevelWear", spec := "fnExactLevelWear", unfollowed := true, recurses := true, apart := false, narrowed := true }
def FnExactLevelWearUptoSaid : Prop := fnExactLevelWearUptoRow.holds Try.pinned (OpenSpec.upto fnExactLevelWearSpec)

/-- 'laws.FnCells', WHERE WHAT IT READS IS OF BULK AT MOST 1048576: true; the input reads as it did. -/
def fnCellsUptoRow : OpenClaim := { program := "ytgamoiagpglcmaa", sum := "ab0b14f07368425b127676902d19e504843cbc668e3962bb8195603ab785410c", func := "loop.example/g00905/laws.FnCells", spec := "fnCells", inPlace := ["internal/abi.NoEscape", "internal/bytealg.MakeNoZero"], unfollowed := true, recurses := true, apart := false, narrowed := true }
def FnCellsUptoSaid : Prop := fnCellsUptoRow.holds Try.pinned (OpenSpec.upto fnCellsSpec)

/-- 'laws.FnErasePasses', WHERE WHAT IT READS IS OF BULK AT MOST 1048576: true; the input reads as it did. -/
def fnErasePassesUptoRow : OpenClaim := { program := "ytgamoiagpglcmaa", sum := "ab0b14f07368425b127676902d19e504843cbc668e3962bb8195603ab785410c", func := "loop.example/g00905/laws.FnErasePasses", spec := "fnErasePasses", unfollowed := true, recurses := true, apart := false, narrowed := true }
def FnErasePassesUptoSaid : Prop := fnErasePassesUptoRow.holds Try.pinned (OpenSpec.upto fnErasePassesSpec)

/-- 'laws.FnFreeBlocks', WHERE WHAT IT READS IS OF BULK AT MOST 1048576: true; the input reads as it did. -/
def fnFreeBlocksUptoRow : OpenClaim := { program := "ytgamoiagpglcmaa", sum := "ab0b14f07368425b127676902d19e504843cbc668e3962bb8195603ab785410c", func := "loop.example/g00905/laws.FnFreeBlocks", spec := "fnFreeBlocks", unfollowed := true, recurses := true, apart := false, narrowed := true }
def FnFreeBlocksUptoSaid : Prop := fnFreeBlocksUptoRow.holds Try.pinned (OpenSpec.upto fnFreeBlocksSpec)

/-- 'laws.FnLevelMoves', WHERE WHAT IT READS IS OF BULK AT MOST 1048576: true; the input reads as it did. -/
def fnLevelMovesUptoRow : OpenClaim := { program := "ytgamoiagpglcmaa", sum := "ab0b14f07368425b127676902d19e504843cbc668e3962bb8195603ab785410c", func := "loop.example/g00905/laws.FnLevelMoves", spec := "fnLevelMoves", unfollowed := true, recurses := true, apart := false, narrowed := true }
def FnLevelMovesUptoSaid : Prop := fnLevelMovesUptoRow.holds Try.pinned (OpenSpec.upto fnLevelMovesSpec)

/-- 'laws.FnWearBound', WHERE WHAT IT READS IS OF BULK AT MOST 1048576: true; the input reads as it did. -/
def fnWearBoundUptoRow : OpenClaim := { program := "ytgamoiagpglcmaa", sum := "ab0b14f07368425b127676902d19e504843cbc668e3962bb8195603ab785410c", func := "loop.example/g00905/laws.FnWearBound", spec := "fnWearBound", unfollowed := true, recurses := true, apart := false, narrowed := true }
def FnWearBoundUptoSaid : Prop := fnWearBoundUptoRow.holds Try.pinned (OpenSpec.upto fnWearBoundSpec)

/-- 'laws.FnExactIsWiped', WHERE WHAT IT READS IS OF BULK AT MOST 1048576: true; the input reads as it did. -/
def fnExactIsWipedUptoRow : OpenClaim := { program := "ytgamoiagpglcmaa", sum := "ab0b14f07368425b127676902d19e504843cbc668e3962bb8195603ab785410c", func := "loop.example/g00905/laws.FnExactIsWiped", spec := "fnExactIsWiped", apart := false, narrowed := true }
def FnExactIsWipedUptoSaid : Prop := fnExactIsWipedUptoRow.holds Try.pinned (OpenSpec.upto fnExactIsWipedSpec)

/-- 'laws.FnExactValidWipe', WHERE WHAT IT READS IS OF BULK AT MOST 1048576: true; the input reads as it did. -/
def fnExactValidWipeUptoRow : OpenClaim := { program := "ytgamoiagpglcmaa", sum := "ab0b14f07368425b127676902d19e504843cbc668e3962bb8195603ab785410c", func := "loop.example/g00905/laws.FnExactValidWipe", spec := "fnExactValidWipe", apart := false, narrowed := true }
def FnExactValidWipeUptoSaid : Prop := fnExactValidWipeUptoRow.holds Try.pinned (OpenSpec.upto fnExactValidWipeSpec)

/-- 'laws.FnExactSecureErase', WHERE WHAT IT READS IS OF BULK AT MOST 1048576: true; the input reads as it did. -/
def fnExactSecureEraseUptoRow : OpenClaim := { program := "ytgamoiagpglcmaa", sum := "ab0b14f07368425b127676902d19e504843cbc668e3962bb8195603ab785410c", func := "loop.example/g00905/laws.FnExactSecureErase", spec := "fnExactSecureErase", unfollowed := true, recurses := true, apart := false, narrowed := true }
def FnExactSecureEraseUptoSaid : Prop := fnExactSecureEraseUptoRow.holds Try.pinned (OpenSpec.upto fnExactSecureEraseSpec)

end Rows
end Go.Proofs.Ytgamoiagpglcmaa
