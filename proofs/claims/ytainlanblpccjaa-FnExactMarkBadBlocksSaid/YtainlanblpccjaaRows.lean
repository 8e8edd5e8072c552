/-
  No cell of these rows narrows 'for every input' (looked for: loops, veiled, ifaces, maps, wideKeys, modest, calm, conditions, laid).
  DERIVED. THE GIVEN ROWS OF THIS SEAT. 12 by the template 'for every input the law returns true; each argument reads behind the call as it read before'; 0 by the template 'total and deterministic' (their statements: YtainlanblpccjaaTotals.lean).
  GIVEN WITH THE SEED: the statements are not yours to turn. If you find one false, say at which input.
  Laid BY PROGRAM, IN A SANDBOX (cutbox-rows.mjs): the forced cells as the released guide's own fill.sh prints them over the translation 04d2c5dce318c52e… (all of the seat's roots in one cut). By AI agents, Wed Nov 11 2026. No macro, syntax, notation, axiom, sorry.
-/
import Derived.Test.YtainlanblpccjaaChecked
import GoSem.Claim
import GoSem.ClaimJoined
import GoSem.ClaimMapViews
import Derived.JoinedTies
import Derived.KernelRfl
namespace Go.Proofs.Ytainlanblpccjaa
/- THE CELL 'sum', in the pinned program and in every row, IS THE sha256 OF THE DUMP (.gsa) THAT YtainlanblpccjaaProg.lean LOADS. Nothing in Lean hashes anything: it is a label: what it is worth is what the hold of that sum in a sandbox is worth. -/
noncomputable def Try.pinned : Pinned := { name := "ytainlanblpccjaa", sum := "04d2c5dce318c52e3bbff68da9aa6ad8668ac13a3a417ab82e588449b754d0a9", checked := Try.checked }
namespace Rows
def none {H : Type} : Left H := { results := [], args := [] }

/-- 'laws.FnExactRewriteHot': WHATEVER THE INPUT: true; the input reads as it did. -/
def fnExactRewriteHotSpec : ChangeSpec := { name := "fnExactRewriteHot", fn := fun _ => fun
  | [d1, d2] => { results := [.lit (.bool true)], args := [d1, d2] }
  | _ => none }
def fnExactRewriteHotRow : OpenClaim := { program := "ytainlanblpccjaa", sum := "04d2c5dce318c52e3bbff68da9aa6ad8668ac13a3a417ab82e588449b754d0a9", func := "loop.example/g00905/laws.FnExactRewriteHot", spec := "fnExactRewriteHot", unfollowed := true, recurses := true, apart := false }
def FnExactRewriteHotSaid : Prop := fnExactRewriteHotRow.holds Try.pinned (OpenSpec.ofChange fnExactRewriteHotSpec)

/-- ITS FALSE NEIGHBOUR: 'it returns false'. Refute it at one input. -/
def fnExactRewriteHotWrong : ChangeSpec := { name := "fnExactRewriteHot", fn := fun _ => fun
  | [d1, d2] => { results := [.lit (.bool false)], args := [d1, d2] }
  | _ => none }
def FnExactRewriteHotWrongFalsely : Prop := fnExactRewriteHotRow.holds Try.pinned (OpenSpec.ofChange fnExactRewriteHotWrong)

/-- 'laws.FnExactLevelMove': WHATEVER THE INPUT: true; the input reads as it did. -/
def fnExactLevelMoveSpec : ChangeSpec := { name := "fnExactLevelMove", fn := fun _ => fun
  | [d] => { results := [.lit (.bool true)], args := [d] }
  | _ => none }
def fnExactLevelMoveRow : OpenClaim := { program := "ytainlanblpccjaa", sum := "04d2c5dce318c52e3bbff68da9aa6ad8668ac13a3a417ab82e588449b754d0a9", func := "loop.example/g00905/laws.FnExactLevelMove", spec := "fnExactLevelMove", unfollowed := true, recurses := true, apart := false }
def FnExactLevelMoveSaid : Prop := fnExactLevelMoveRow.holds Try.pinned (OpenSpec.ofChange fnExactLevelMoveSpec)

/-- ITS FALSE NEIGHBOUR: 'it returns false'. Refute it at one input. -/
def fnExactLevelMoveWrong : ChangeSpec := { name := "fnExactLevelMove", fn := fun _ => fun
  | [d] => { results := [.lit (.bool false)], args := [d] }
  | _ => none }
def FnExactLevelMoveWrongFalsely : Prop := fnExactLevelMoveRow.holds Try.pinned (OpenSpec.ofChange fnExactLevelMoveWrong)

/-- 'laws.FnExactLevelWear': WHATEVER THE INPUT: true; the input reads as it did. -/
def fnExactLevelWearSpec : ChangeSpec := { name := "fnExactLevelWear", fn := fun _ => fun
  | [d] => { results := [.lit (.bool true)], args := [d] }
  | _ => none }
def fnExactLevelWearRow : OpenClaim := { program := "ytainlanblpccjaa", sum := "04d2c5dce318c52e3bbff68da9aa6ad8668ac13a3a417ab82e588449b754d0a9", func := "loop.example/g00905/laws.FnExactLevelWear", spec := "fnExactLevelWear", unfollowed := true, recurses := true, apart := false }
def FnExactLevelWearSaid : Prop := fnExactLevelWearRow.holds Try.pinned (OpenSpec.ofChange fnExactLevelWearSpec)

/-- ITS FALSE NEIGHBOUR: 'it returns false'. Refute it at one input. -/
def fnExactLevelWearWrong : ChangeSpec := { name := "fnExactLevelWear", fn := fun _ => fun
  | [d] => { results := [.lit (.bool false)], args := [d] }
  | _ => none }
def FnExactLevelWearWrongFalsely : Prop := fnExactLevelWearRow.holds Try.pinned (OpenSpec.ofChange fnExactLevelWearWrong)

/-- 'laws.FnFreeBlocks': WHATEVER THE INPUT: true; the input reads as it did. -/
def fnFreeBlocksSpec : ChangeSpec := { name := "fnFreeBlocks", fn := fun _ => fun
  | [d] => { results := [.lit (.bool true)], args := [d] }
  | _ => none }
def fnFreeBlocksRow : OpenClaim := { program := "ytainlanblpccjaa", sum := "04d2c5dce318c52e3bbff68da9aa6ad8668ac13a3a417ab82e588449b754d0a9", func := "loop.example/g00905/laws.FnFreeBlocks", spec := "fnFreeBlocks", unfollowed := true, recurses := true, apart := false }
def FnFreeBlocksSaid : Prop := fnFreeBlocksRow.holds Try.pinned (OpenSpec.ofChange fnFreeBlocksSpec)

/-- ITS FALSE NEIGHBOUR: 'it returns false'. Refute it at one input. -/
def fnFreeBlocksWrong : ChangeSpec := { name := "fnFreeBlocks", fn := fun _ => fun
  | [d] => { results := [.lit (.bool false)], args := [d] }
  | _ => none }
def FnFreeBlocksWrongFalsely : Prop := fnFreeBlocksRow.holds Try.pinned (OpenSpec.ofChange fnFreeBlocksWrong)

/-- 'laws.FnLevelMoves': WHATEVER THE INPUT: true; the input reads as it did. -/
def fnLevelMovesSpec : ChangeSpec := { name := "fnLevelMoves", fn := fun _ => fun
  | [d] => { results := [.lit (.bool true)], args := [d] }
  | _ => none }
def fnLevelMovesRow : OpenClaim := { program := "ytainlanblpccjaa", sum := "04d2c5dce318c52e3bbff68da9aa6ad8668ac13a3a417ab82e588449b754d0a9", func := "loop.example/g00905/laws.FnLevelMoves", spec := "fnLevelMoves", unfollowed := true, recurses := true, apart := false }
def FnLevelMovesSaid : Prop := fnLevelMovesRow.holds Try.pinned (OpenSpec.ofChange fnLevelMovesSpec)

/-- ITS FALSE NEIGHBOUR: 'it returns false'. Refute it at one input. -/
def fnLevelMovesWrong : ChangeSpec := { name := "fnLevelMoves", fn := fun _ => fun
  | [d] => { results := [.lit (.bool false)], args := [d] }
  | _ => none }
def FnLevelMovesWrongFalsely : Prop := fnLevelMovesRow.holds Try.pinned (OpenSpec.ofChange fnLevelMovesWrong)

/-- 'laws.FnWearBound': WHATEVER THE INPUT: true; the input reads as it did. -/
def fnWearBoundSpec : ChangeSpec := { name := "fnWearBound", fn := fun _ => fun
  | [d] => { results := [.lit (.bool true)], args := [d] }
  | _ => none }
def fnWearBoundRow : OpenClaim := { program := "ytainlanblpccjaa", sum := "04d2c5dce318c52e3bbff68da9aa6ad8668ac13a3a417ab82e588449b754d0a9", func := "loop.example/g00905/laws.FnWearBound", spec := "fnWearBound", unfollowed := true, recurses := true, apart := false }
def FnWearBoundSaid : Prop := fnWearBoundRow.holds Try.pinned (OpenSpec.ofChange fnWearBoundSpec)

/-- ITS FALSE NEIGHBOUR: 'it returns false'. Refute it at one input. -/
def fnWearBoundWrong : ChangeSpec := { name := "fnWearBound", fn := fun _ => fun
  | [d] => { results := [.lit (.bool false)], args := [d] }
  | _ => none }
def FnWearBoundWrongFalsely : Prop := fnWearBoundRow.holds Try.pinned (OpenSpec.ofChange fnWearBoundWrong)

/-- 'laws.FnExactSecureErase': WHATEVER THE INPUT: true; the input reads as it did. -/
def fnExactSecureEraseSpec : ChangeSpec := { name := "fnExactSecureErase", fn := fun _ => fun
  | [d1, d2] => { results := [.lit (.bool true)], args := [d1, d2] }
  | _ => none }
def fnExactSecureEraseRow : OpenClaim := { program := "ytainlanblpccjaa", sum := "04d2c5dce318c52e3bbff68da9aa6ad8668ac13a3a417ab82e588449b754d0a9", func := "loop.example/g00905/laws.FnExactSecureErase", spec := "fnExactSecureErase", unfollowed := true, recurses := true, apart := false }
def FnExactSecureEraseSaid : Prop := fnExactSecureEraseRow.holds Try.pinned (OpenSpec.ofChange fnExactSecureEraseSpec)

/-- ITS FALSE NEIGHBOUR: 'it returns false'. Refute it at one input. -/
def fnExactSecureEraseWrong : ChangeSpec := { name := "fnExactSecureErase", fn := fun _ => fun
  | [d1, d2] => { results := [.lit (.bool false)], args := [d1, d2] }
  | _ => none }
def FnExactSecureEraseWrongFalsely : Prop := fnExactSecureEraseRow.holds Try.pinned (OpenSpec.ofChange fnExactSecureEraseWrong)

/-- 'laws.FnExactNewBadTable': WHATEVER THE INPUT: true; the input reads as it did. -/
def fnExactNewBadTableSpec : ChangeSpec := { name := "fnExactNewBadTable", fn := fun _ => fun
  | [d1, d2, d3] => { results := [.lit (.bool true)], args := [d1, d2, d3] }
  | _ => none }
def fnExactNewBadTableRow : OpenClaim := { program := "ytainlanblpccjaa", sum := "04d2c5dce318c52e3bbff68da9aa6ad8668ac13a3a417ab82e588449b754d0a9", func := "loop.example/g00905/laws.FnExactNewBadTable", spec := "fnExactNewBadTable", apart := false }
def FnExactNewBadTableSaid : Prop := fnExactNewBadTableRow.holds Try.pinned (OpenSpec.ofChange fnExactNewBadTableSpec)

/-- ITS FALSE NEIGHBOUR: 'it returns false'. Refute it at one input. -/
def fnExactNewBadTableWrong : ChangeSpec := { name := "fnExactNewBadTable", fn := fun _ => fun
  | [d1, d2, d3] => { results := [.lit (.bool false)], args := [d1, d2, d3] }
  | _ => none }
def FnExactNewBadTableWrongFalsely : Prop := fnExactNewBadTableRow.holds Try.pinned (OpenSpec.ofChange fnExactNewBadTableWrong)

/-- 'laws.FnExactRetireBlock': WHATEVER THE INPUT: true; the input reads as it did. -/
def fnExactRetireBlockSpec : ChangeSpec := { name := "fnExactRetireBlock", fn := fun _ => fun
  | [d1, d2] => { results := [.lit (.bool true)], args := [d1, d2] }
  | _ => none }
def fnExactRetireBlockRow : OpenClaim := { program := "ytainlanblpccjaa", sum := "04d2c5dce318c52e3bbff68da9aa6ad8668ac13a3a417ab82e588449b754d0a9", func := "loop.example/g00905/laws.FnExactRetireBlock", spec := "fnExactRetireBlock", inPlace := ["slices.overlaps[int64]"], apart := false }
def FnExactRetireBlockSaid : Prop := fnExactRetireBlockRow.holds Try.pinned (OpenSpec.ofChange fnExactRetireBlockSpec)

/-- ITS FALSE NEIGHBOUR: 'it returns false'. Refute it at one input. -/
def fnExactRetireBlockWrong : ChangeSpec := { name := "fnExactRetireBlock", fn := fun _ => fun
  | [d1, d2] => { results := [.lit (.bool false)], args := [d1, d2] }
  | _ => none }
def FnExactRetireBlockWrongFalsely : Prop := fnExactRetireBlockRow.holds Try.pinned (OpenSpec.ofChange fnExactRetireBlockWrong)

/-- 'laws.FnExactMarkBadBlocks': WHATEVER THE INPUT: true; the input reads as it did. -/
def fnExactMarkBadBlocksSpec : ChangeSpec := { name := "fnExactMarkBadBlocks", fn := fun _ => fun
  | [d1, d2] => { results := [.lit (.bool true)], args := [d1, d2] }
  | _ => none }
def fnExactMarkBadBlocksRow : OpenClaim := { program := "ytainlanblpccjaa", sum := "04d2c5dce318c52e3bbff68da9aa6ad8668ac13a3a417ab82e588449b754d0a9", func := "loop.example/g00905/laws.FnExactMarkBadBlocks", spec := "fnExactMarkBadBlocks", apart := false }
def FnExactMarkBadBlocksSaid : Prop := fnExactMarkBadBlocksRow.holds Try.pinned (OpenSpec.ofChange fnExactMarkBadBlocksSpec)

/-- ITS FALSE NEIGHBOUR: 'it returns false'. Refute it at one input. -/
def fnExactMarkBadBlocksWrong : ChangeSpec := { name := "fnExactMarkBadBlocks", fn := fun _ => fun
  | [d1, d2] => { results := [.lit (.bool false)], args := [d1, d2] }
  | _ => none }
def FnExactMarkBadBlocksWrongFalsely : Prop := fnExactMarkBadBlocksRow.holds Try.pinned (OpenSpec.ofChange fnExactMarkBadBlocksWrong)

/-- 'laws.FnExactApplyFault': WHATEVER THE INPUT: true; the input reads as it did. -/
def fnExactApplyFaultSpec : ChangeSpec := { name := "fnExactApplyFault", fn := fun _ => fun
  | [d1, d2] => { results := [.lit (.bool true)], args := [d1, d2] }
  | _ => none }
def fnExactApplyFaultRow : OpenClaim := { program := "ytainlanblpccjaa", sum := "04d2c5dce318c52e3bbff68da9aa6ad8668ac13a3a417ab82e588449b754d0a9", func := "loop.example/g00905/laws.FnExactApplyFault", spec := "fnExactApplyFault", unfollowed := true, recurses := true, apart := false }
def FnExactApplyFaultSaid : Prop := fnExactApplyFaultRow.holds Try.pinned (OpenSpec.ofChange fnExactApplyFaultSpec)

/-- ITS FALSE NEIGHBOUR: 'it returns false'. Refute it at one input. -/
def fnExactApplyFaultWrong : ChangeSpec := { name := "fnExactApplyFault", fn := fun _ => fun
  | [d1, d2] => { results := [.lit (.bool false)], args := [d1, d2] }
  | _ => none }
def FnExactApplyFaultWrongFalsely : Prop := fnExactApplyFaultRow.holds Try.pinned (OpenSpec.ofChange fnExactApplyFaultWrong)

/-- 'laws.FnExactStatsOf': WHATEVER THE INPUT: true; the input reads as it did. -/
def fnExactStatsOfSpec : ChangeSpec := { name := "fnExactStatsOf", fn := fun _ => fun
  | [d1, d2, d3] => { results := [.lit (.bool true)], args := [d1, d2, d3] }
  | _ => none }
def fnExactStatsOfRow : OpenClaim := { program := "ytainlanblpccjaa", sum := "04d2c5dce318c52e3bbff68da9aa6ad8668ac13a3a417ab82e588449b754d0a9", func := "loop.example/g00905/laws.FnExactStatsOf", spec := "fnExactStatsOf", apart := false }
def FnExactStatsOfSaid : Prop := fnExactStatsOfRow.holds Try.pinned (OpenSpec.ofChange fnExactStatsOfSpec)

/-- ITS FALSE NEIGHBOUR: 'it returns false'. Refute it at one input. -/
def fnExactStatsOfWrong : ChangeSpec := { name := "fnExactStatsOf", fn := fun _ => fun
  | [d1, d2, d3] => { results := [.lit (.bool false)], args := [d1, d2, d3] }
  | _ => none }
def FnExactStatsOfWrongFalsely : Prop := fnExactStatsOfRow.holds Try.pinned (OpenSpec.ofChange fnExactStatsOfWrong)

/- THE SECOND FORM. 'bulk': how many values and letters a reading holds, each counted each time it is reached (what is shared counts as often as it is met; a slice's spare places count too). A statement '..UptoSaid' is the law's where the arguments, and the package variables that the reading takes, are together of bulk at most 1048576: NARROWER than '..Said'. Prove '..Said' where nothing that the law and all that it calls make is longer than what came in: it says more and counts as full. Else prove '..UptoSaid'. A law counts once. -/
mutual
def uptoBulk {H : Type} : DataW H → Nat
  | .lit (.string bytes) => bytes.length + 1
  | .lit _ => 1
  | .nil => 1
  | .ptr d => uptoBulk d + 1
  | .slice elems spare => uptoBulkAll elems + uptoBulkAll spare + 1
  | .agg parts => uptoBulkAll parts + 1
  | .iface _ d => uptoBulk d + 1
  | .map entries => uptoBulkEntries entries + 1
  | .held _ => 1
def uptoBulkAll {H : Type} : List (DataW H) → Nat
  | [] => 0
  | d :: r => uptoBulk d + uptoBulkAll r
def uptoBulkEntries {H : Type} : List (Lit × DataW H) → Nat
  | [] => 0
  | x :: r => uptoBulkEntry x + uptoBulkEntries r
def uptoBulkEntry {H : Type} : Lit × DataW H → Nat
  | (.string bytes, d) => bytes.length + uptoBulk d + 1
  | (_, d) => uptoBulk d + 1
 end
def uptoSmall : (H : Type) → List (DataW H) → Bool := fun _ ds => decide (uptoBulkAll ds ≤ 1048576)
def OpenSpec.upto (s : _root_.Go.ChangeSpec) : _root_.Go.OpenSpec := { _root_.Go.OpenSpec.ofChange s with cond := some uptoSmall }

/-- 'laws.FnExactRewriteHot', WHERE WHAT IT READS IS OF BULK AT MOST 1048576: true; the input reads as it did. -/
def fnExactRewriteHotUptoRow : OpenClaim := { program := "ytainlanblpccjaa", sum := "04d2c5dce318c52e3bbff68da9aa6ad8668ac13a3a417ab82e588449b754d0a9", func := "loop.example/g00905/laws.FnExactRewriteHot", spec := "fnExactRewriteHot", unfollowed := true, recurses := true, apart := false, narrowed := true }
def FnExactRewriteHotUptoSaid : Prop := fnExactRewriteHotUptoRow.holds Try.pinned (OpenSpec.upto fnExactRewriteHotSpec)

/-- 'laws.FnExactLevelMove', WHERE WHAT IT READS IS OF BULK AT MOST 1048576: true; the input reads as it did. -/
def fnExactLevelMoveUptoRow : OpenClaim := { program := "ytainlanblpccjaa", sum := "04d2c5dce318c52e3bbff68da9aa6ad8668ac13a3a417ab82e588449b754d0a9", func := "loop.example/g00905/laws.FnExactLevelMove", spec := "fnExactLevelMove", unfollowed := true, recurses := true, apart := false, narrowed := true }
def FnExactLevelMoveUptoSaid : Prop := fnExactLevelMoveUptoRow.holds Try.pinned (OpenSpec.upto fnExactLevelMoveSpec)

/-- 'laws.FnExactLevelWear', WHERE WHAT IT READS IS OF BULK AT MOST 1048576: true; the input reads as it did. -/
def fnExactLevelWearUptoRow : OpenClaim := { program := "ytainlanblpccjaa", sum := "04d2c5dce318c52e3bbff68da9aa6ad8668ac13a3a417ab82e588449b754d0a9", func := "loop.example/g00905/laws.FnExactLevelWear", spec := "fnExactLevelWear", unfollowed := true, recurses := true, apart := false, narrowed := true }
def FnExactLevelWearUptoSaid : Prop := fnExactLevelWearUptoRow.holds Try.pinned (OpenSpec.upto fnExactLevelWearSpec)

/-- 'laws.FnFreeBlocks', WHERE WHAT IT READS IS OF BULK AT MOST 1048576: true; the input reads as it did. -/
def fnFreeBlocksUptoRow : OpenClaim := { program := "ytainlanblpccjaa", sum := "04d2c5dce318c52e3bbff68da9aa6ad8668ac13a3a417ab82e588449b754d0a9", func := "loop.example/g00905/laws.FnFreeBlocks", spec := "fnFreeBlocks", unfollowed := true, recurses := true, apart := false, narrowed := true }
def FnFreeBlocksUptoSaid : Prop := fnFreeBlocksUptoRow.holds Try.pinned (OpenSpec.upto fnFreeBlocksSpec)

/-- 'laws.FnLevelMoves', WHERE WHAT IT READS IS OF BULK AT MOST 1048576: true; the input reads as it did. -/
def fnLevelMovesUptoRow : OpenClaim := { program := "ytainlanblpccjaa", sum := "04d2c5dce318c52e3bbff68da9aa6ad8668ac13a3a417ab82e588449b754d0a9", func := "loop.example/g00905/laws.FnLevelMoves", spec := "fnLevelMoves", unfollowed := true, recurses := true, apart := false, narrowed := true }
def FnLevelMovesUptoSaid : Prop := fnLevelMovesUptoRow.holds Try.pinned (OpenSpec.upto fnLevelMovesSpec)

/-- 'laws.FnWearBound', WHERE WHAT IT READS IS OF BULK AT MOST 1048576: true; the input reads as it did. -/
def fnWearBoundUptoRow : OpenClaim := { program := "ytainlanblpccjaa", sum := "04d2c5dce318c52e3bbff68da9aa6ad8668ac13a3a417ab82e588449b754d0a9", func := "loop.example/g00905/laws.FnWearBound", spec := "fnWearBound", unfollowed := true, recurses := true, apart := false, narrowed := true }
def FnWearBoundUptoSaid : Prop := fnWearBoundUptoRow.holds Try.pinned (OpenSpec.upto fnWearBoundSpec)

/-- 'laws.FnExactSecureErase', WHERE WHAT IT READS IS OF BULK AT MOST 1048576: true; the input reads as it did. -/
def fnExactSecureEraseUptoRow : OpenClaim := { program := "ytainlanblpccjaa", sum := "04d2c5dce318c52e3bbff68da9aa6ad8668ac13a3a417ab82e588449b754d0a9", func := "loop.example/g00905/laws.FnExactSecureErase", spec := "fnExactSecureErase", unfollowed := true, recurses := true, apart := false, narrowed := true }
def FnExactSecureEraseUptoSaid : Prop := fnExactSecureEraseUptoRow.holds Try.pinned (OpenSpec.upto fnExactSecureEraseSpec)

/-- 'laws.FnExactNewBadTable', WHERE WHAT IT READS IS OF BULK AT MOST 1048576: true; the input reads as it did. -/
def fnExactNewBadTableUptoRow : OpenClaim := { program := "ytainlanblpccjaa", sum := "04d2c5dce318c52e3bbff68da9aa6ad8668ac13a3a417ab82e588449b754d0a9", func := "loop.example/g00905/laws.FnExactNewBadTable", spec := "fnExactNewBadTable", apart := false, narrowed := true }
def FnExactNewBadTableUptoSaid : Prop := fnExactNewBadTableUptoRow.holds Try.pinned (OpenSpec.upto fnExactNewBadTableSpec)

/-- 'laws.FnExactRetireBlock', WHERE WHAT IT READS IS OF BULK AT MOST 1048576: true; the input reads as it did. -/
def fnExactRetireBlockUptoRow : OpenClaim := { program := "ytainlanblpccjaa", sum := "04d2c5dce318c52e3bbff68da9aa6ad8668ac13a3a417ab82e588449b754d0a9", func := "loop.example/g00905/laws.FnExactRetireBlock", spec := "fnExactRetireBlock", inPlace := ["slices.overlaps[int64]"], apart := false, narrowed := true }
def FnExactRetireBlockUptoSaid : Prop := fnExactRetireBlockUptoRow.holds Try.pinned (OpenSpec.upto fnExactRetireBlockSpec)

/-- 'laws.FnExactMarkBadBlocks', WHERE WHAT IT READS IS OF BULK AT MOST 1048576: true; the input reads as it did. -/
def fnExactMarkBadBlocksUptoRow : OpenClaim := { program := "ytainlanblpccjaa", sum := "04d2c5dce318c52e3bbff68da9aa6ad8668ac13a3a417ab82e588449b754d0a9", func := "loop.example/g00905/laws.FnExactMarkBadBlocks", spec := "fnExactMarkBadBlocks", apart := false, narrowed := true }
def FnExactMarkBadBlocksUptoSaid : Prop := fnExactMarkBadBlocksUptoRow.holds Try.pinned (OpenSpec.upto fnExactMarkBadBlocksSpec)

/-- 'laws.FnExactApplyFault', WHERE WHAT IT READS IS OF BULK AT MOST 1048576: true; the input reads as it did. -/
def fnExactApplyFaultUptoRow : OpenClaim := { program := "ytainlanblpccjaa", sum := "04d2c5dce318c52e3bbff68da9aa6ad8668ac13a3a417ab82e588449b754d0a9", func := "loop.example/g00905/laws.FnExactApplyFault", spec := "fnExactApplyFault", unfollowed := true, recurses := true, apart := false, narrowed := true }
def FnExactApplyFaultUptoSaid : Prop := fnExactApplyFaultUptoRow.holds Try.pinned (OpenSpec.upto fnExactApplyFaultSpec)

/-- 'laws.FnExactStatsOf', WHERE WHAT IT READS IS OF BULK AT MOST 1048576: true; the input reads as it did. -/
def fnExactStatsOfUptoRow : OpenClaim := { program := "ytainlanblpccjaa", sum := "04d2c5dce318c52e3bbff68da9aa6ad8668ac13a3a417ab82e588449b754d0a9", func := "loop.example/g00905/laws.FnExactStatsOf", spec := "fnExactStatsOf", apart := false, narrowed := true }
def FnExactStatsOfUptoSaid : Prop := fnExactStatsOfUptoRow.holds Try.pinned (OpenSpec.upto fnExactStatsOfSpec)

end Rows
end Go.Proofs.Ytainlanblpccjaa
