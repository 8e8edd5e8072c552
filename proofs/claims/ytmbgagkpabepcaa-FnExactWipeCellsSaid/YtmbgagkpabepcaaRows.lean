/-
  No cell of these rows narrows 'for every input' (looked for: loops, veiled, ifaces, maps, wideKeys, modest, calm, conditions, laid).
  DERIVED. THE GIVEN ROWS OF THIS SEAT. 12 by the template 'for every input the law returns true; each argument reads behind the call as it read before'; 0 by the template 'total and deterministic' (their statements: YtmbgagkpabepcaaTotals.lean).
  GIVEN WITH THE SEED: the statements are not yours to turn. If you find one false, say at which input.
  Laid BY PROGRAM, IN A SANDBOX (cutbox-rows.mjs): the forced cells as the released guide's own fill.sh prints them over the translation 249430dc92a28496… (all of the seat's roots in one cut). By AI agents, Wed Nov 11 2026. No macro, syntax, notation, axiom, sorry.
-/
import Derived.Test.YtmbgagkpabepcaaChecked
import GoSem.Claim
import GoSem.ClaimJoined
import GoSem.ClaimMapViews
import Derived.JoinedTies
import Derived.KernelRfl
namespace Go.Proofs.Ytmbgagkpabepcaa
/- THE CELL 'sum', in the pinned program and in every row, IS THE sha256 OF THE DUMP (.gsa) THAT YtmbgagkpabepcaaProg.lean LOADS. Nothing in Lean hashes anything: it is a label: what it is worth is what the hold of that sum in a sandbox is worth. -/
noncomputable def Try.pinned : Pinned := { name := "ytmbgagkpabepcaa", sum := "249430dc92a28496f362055d5547eacd87fe2a531ef4a3ef1662dcd7649736f8", checked := Try.checked }
namespace Rows
def none {H : Type} : Left H := { results := [], args := [] }

/-- 'laws.FnExactValidCells': WHATEVER THE INPUT: true; the input reads as it did. -/
def fnExactValidCellsSpec : ChangeSpec := { name := "fnExactValidCells", fn := fun _ => fun
  | [d] => { results := [.lit (.bool true)], args := [d] }
  | _ => none }
def fnExactValidCellsRow : OpenClaim := { program := "ytmbgagkpabepcaa", sum := "249430dc92a28496f362055d5547eacd87fe2a531ef4a3ef1662dcd7649736f8", func := "loop.example/g00905/laws.FnExactValidCells", spec := "fnExactValidCells", unfollowed := true, recurses := true, apart := false }
def FnExactValidCellsSaid : Prop := fnExactValidCellsRow.holds Try.pinned (OpenSpec.ofChange fnExactValidCellsSpec)

/-- ITS FALSE NEIGHBOUR: 'it returns false'. Refute it at one input. -/
def fnExactValidCellsWrong : ChangeSpec := { name := "fnExactValidCells", fn := fun _ => fun
  | [d] => { results := [.lit (.bool false)], args := [d] }
  | _ => none }
def FnExactValidCellsWrongFalsely : Prop := fnExactValidCellsRow.holds Try.pinned (OpenSpec.ofChange fnExactValidCellsWrong)

/-- 'laws.FnExactEraseCells': WHATEVER THE INPUT: true; the input reads as it did. -/
def fnExactEraseCellsSpec : ChangeSpec := { name := "fnExactEraseCells", fn := fun _ => fun
  | [d] => { results := [.lit (.bool true)], args := [d] }
  | _ => none }
def fnExactEraseCellsRow : OpenClaim := { program := "ytmbgagkpabepcaa", sum := "249430dc92a28496f362055d5547eacd87fe2a531ef4a3ef1662dcd7649736f8", func := "loop.example/g00905/laws.FnExactEraseCells", spec := "fnExactEraseCells", unfollowed := true, recurses := true, apart := false }
def FnExactEraseCellsSaid : Prop := fnExactEraseCellsRow.holds Try.pinned (OpenSpec.ofChange fnExactEraseCellsSpec)

/-- ITS FALSE NEIGHBOUR: 'it returns false'. Refute it at one input. -/
def fnExactEraseCellsWrong : ChangeSpec := { name := "fnExactEraseCells", fn := fun _ => fun
  | [d] => { results := [.lit (.bool false)], args := [d] }
  | _ => none }
def FnExactEraseCellsWrongFalsely : Prop := fnExactEraseCellsRow.holds Try.pinned (OpenSpec.ofChange fnExactEraseCellsWrong)

/-- 'laws.FnExactSenseCells': WHATEVER THE INPUT: true; the input reads as it did. -/
def fnExactSenseCellsSpec : ChangeSpec := { name := "fnExactSenseCells", fn := fun _ => fun
  | [d] => { results := [.lit (.bool true)], args := [d] }
  | _ => none }
def fnExactSenseCellsRow : OpenClaim := { program := "ytmbgagkpabepcaa", sum := "249430dc92a28496f362055d5547eacd87fe2a531ef4a3ef1662dcd7649736f8", func := "loop.example/g00905/laws.FnExactSenseCells", spec := "fnExactSenseCells", unfollowed := true, recurses := true, apart := false }
def FnExactSenseCellsSaid : Prop := fnExactSenseCellsRow.holds Try.pinned (OpenSpec.ofChange fnExactSenseCellsSpec)

/-- ITS FALSE NEIGHBOUR: 'it returns false'. Refute it at one input. -/
def fnExactSenseCellsWrong : ChangeSpec := { name := "fnExactSenseCells", fn := fun _ => fun
  | [d] => { results := [.lit (.bool false)], args := [d] }
  | _ => none }
def FnExactSenseCellsWrongFalsely : Prop := fnExactSenseCellsRow.holds Try.pinned (OpenSpec.ofChange fnExactSenseCellsWrong)

/-- 'laws.FnExactLeaksPattern': WHATEVER THE INPUT: true; the input reads as it did. -/
def fnExactLeaksPatternSpec : ChangeSpec := { name := "fnExactLeaksPattern", fn := fun _ => fun
  | [d] => { results := [.lit (.bool true)], args := [d] }
  | _ => none }
def fnExactLeaksPatternRow : OpenClaim := { program := "ytmbgagkpabepcaa", sum := "249430dc92a28496f362055d5547eacd87fe2a531ef4a3ef1662dcd7649736f8", func := "loop.example/g00905/laws.FnExactLeaksPattern", spec := "fnExactLeaksPattern", unfollowed := true, recurses := true, apart := false }
def FnExactLeaksPatternSaid : Prop := fnExactLeaksPatternRow.holds Try.pinned (OpenSpec.ofChange fnExactLeaksPatternSpec)

/-- ITS FALSE NEIGHBOUR: 'it returns false'. Refute it at one input. -/
def fnExactLeaksPatternWrong : ChangeSpec := { name := "fnExactLeaksPattern", fn := fun _ => fun
  | [d] => { results := [.lit (.bool false)], args := [d] }
  | _ => none }
def FnExactLeaksPatternWrongFalsely : Prop := fnExactLeaksPatternRow.holds Try.pinned (OpenSpec.ofChange fnExactLeaksPatternWrong)

/-- 'laws.FnExactErasePasses': WHATEVER THE INPUT: true; the input reads as it did. -/
def fnExactErasePassesSpec : ChangeSpec := { name := "fnExactErasePasses", fn := fun _ => fun
  | [d1, d2] => { results := [.lit (.bool true)], args := [d1, d2] }
  | _ => none }
def fnExactErasePassesRow : OpenClaim := { program := "ytmbgagkpabepcaa", sum := "249430dc92a28496f362055d5547eacd87fe2a531ef4a3ef1662dcd7649736f8", func := "loop.example/g00905/laws.FnExactErasePasses", spec := "fnExactErasePasses", unfollowed := true, recurses := true, apart := false }
def FnExactErasePassesSaid : Prop := fnExactErasePassesRow.holds Try.pinned (OpenSpec.ofChange fnExactErasePassesSpec)

/-- ITS FALSE NEIGHBOUR: 'it returns false'. Refute it at one input. -/
def fnExactErasePassesWrong : ChangeSpec := { name := "fnExactErasePasses", fn := fun _ => fun
  | [d1, d2] => { results := [.lit (.bool false)], args := [d1, d2] }
  | _ => none }
def FnExactErasePassesWrongFalsely : Prop := fnExactErasePassesRow.holds Try.pinned (OpenSpec.ofChange fnExactErasePassesWrong)

/-- 'laws.FnExactProgramCells': WHATEVER THE INPUT: true; the input reads as it did. -/
def fnExactProgramCellsSpec : ChangeSpec := { name := "fnExactProgramCells", fn := fun _ => fun
  | [d1, d2] => { results := [.lit (.bool true)], args := [d1, d2] }
  | _ => none }
def fnExactProgramCellsRow : OpenClaim := { program := "ytmbgagkpabepcaa", sum := "249430dc92a28496f362055d5547eacd87fe2a531ef4a3ef1662dcd7649736f8", func := "loop.example/g00905/laws.FnExactProgramCells", spec := "fnExactProgramCells", unfollowed := true, recurses := true, apart := false }
def FnExactProgramCellsSaid : Prop := fnExactProgramCellsRow.holds Try.pinned (OpenSpec.ofChange fnExactProgramCellsSpec)

/-- ITS FALSE NEIGHBOUR: 'it returns false'. Refute it at one input. -/
def fnExactProgramCellsWrong : ChangeSpec := { name := "fnExactProgramCells", fn := fun _ => fun
  | [d1, d2] => { results := [.lit (.bool false)], args := [d1, d2] }
  | _ => none }
def FnExactProgramCellsWrongFalsely : Prop := fnExactProgramCellsRow.holds Try.pinned (OpenSpec.ofChange fnExactProgramCellsWrong)

/-- 'laws.FnExactWipeCells': WHATEVER THE INPUT: true; the input reads as it did. -/
def fnExactWipeCellsSpec : ChangeSpec := { name := "fnExactWipeCells", fn := fun _ => fun
  | [d] => { results := [.lit (.bool true)], args := [d] }
  | _ => none }
def fnExactWipeCellsRow : OpenClaim := { program := "ytmbgagkpabepcaa", sum := "249430dc92a28496f362055d5547eacd87fe2a531ef4a3ef1662dcd7649736f8", func := "loop.example/g00905/laws.FnExactWipeCells", spec := "fnExactWipeCells", inPlace := ["internal/abi.NoEscape", "internal/bytealg.MakeNoZero"], unfollowed := true, recurses := true, apart := false }
def FnExactWipeCellsSaid : Prop := fnExactWipeCellsRow.holds Try.pinned (OpenSpec.ofChange fnExactWipeCellsSpec)

/-- ITS FALSE NEIGHBOUR: 'it returns false'. Refute it at one input. -/
def fnExactWipeCellsWrong : ChangeSpec := { name := "fnExactWipeCells", fn := fun _ => fun
  | [d] => { results := [.lit (.bool false)], args := [d] }
  | _ => none }
def FnExactWipeCellsWrongFalsely : Prop := fnExactWipeCellsRow.holds Try.pinned (OpenSpec.ofChange fnExactWipeCellsWrong)

/-- 'laws.FnExactWearExcess': WHATEVER THE INPUT: true; the input reads as it did. -/
def fnExactWearExcessSpec : ChangeSpec := { name := "fnExactWearExcess", fn := fun _ => fun
  | [d1, d2] => { results := [.lit (.bool true)], args := [d1, d2] }
  | _ => none }
def fnExactWearExcessRow : OpenClaim := { program := "ytmbgagkpabepcaa", sum := "249430dc92a28496f362055d5547eacd87fe2a531ef4a3ef1662dcd7649736f8", func := "loop.example/g00905/laws.FnExactWearExcess", spec := "fnExactWearExcess", unfollowed := true, recurses := true, apart := false }
def FnExactWearExcessSaid : Prop := fnExactWearExcessRow.holds Try.pinned (OpenSpec.ofChange fnExactWearExcessSpec)

/-- ITS FALSE NEIGHBOUR: 'it returns false'. Refute it at one input. -/
def fnExactWearExcessWrong : ChangeSpec := { name := "fnExactWearExcess", fn := fun _ => fun
  | [d1, d2] => { results := [.lit (.bool false)], args := [d1, d2] }
  | _ => none }
def FnExactWearExcessWrongFalsely : Prop := fnExactWearExcessRow.holds Try.pinned (OpenSpec.ofChange fnExactWearExcessWrong)

/-- 'laws.FnExactWearGap': WHATEVER THE INPUT: true; the input reads as it did. -/
def fnExactWearGapSpec : ChangeSpec := { name := "fnExactWearGap", fn := fun _ => fun
  | [d1, d2] => { results := [.lit (.bool true)], args := [d1, d2] }
  | _ => none }
def fnExactWearGapRow : OpenClaim := { program := "ytmbgagkpabepcaa", sum := "249430dc92a28496f362055d5547eacd87fe2a531ef4a3ef1662dcd7649736f8", func := "loop.example/g00905/laws.FnExactWearGap", spec := "fnExactWearGap", unfollowed := true, recurses := true, apart := false }
def FnExactWearGapSaid : Prop := fnExactWearGapRow.holds Try.pinned (OpenSpec.ofChange fnExactWearGapSpec)

/-- ITS FALSE NEIGHBOUR: 'it returns false'. Refute it at one input. -/
def fnExactWearGapWrong : ChangeSpec := { name := "fnExactWearGap", fn := fun _ => fun
  | [d1, d2] => { results := [.lit (.bool false)], args := [d1, d2] }
  | _ => none }
def FnExactWearGapWrongFalsely : Prop := fnExactWearGapRow.holds Try.pinned (OpenSpec.ofChange fnExactWearGapWrong)

/-- 'laws.FnExactNeedsLevelling': WHATEVER THE INPUT: true; the input reads as it did. -/
def fnExactNeedsLevellingSpec : ChangeSpec := { name := "fnExactNeedsLevelling", fn := fun _ => fun
  | [d1, d2, d3] => { results := [.lit (.bool true)], args := [d1, d2, d3] }
  | _ => none }
def fnExactNeedsLevellingRow : OpenClaim := { program := "ytmbgagkpabepcaa", sum := "249430dc92a28496f362055d5547eacd87fe2a531ef4a3ef1662dcd7649736f8", func := "loop.example/g00905/laws.FnExactNeedsLevelling", spec := "fnExactNeedsLevelling", unfollowed := true, recurses := true, apart := false }
def FnExactNeedsLevellingSaid : Prop := fnExactNeedsLevellingRow.holds Try.pinned (OpenSpec.ofChange fnExactNeedsLevellingSpec)

/-- ITS FALSE NEIGHBOUR: 'it returns false'. Refute it at one input. -/
def fnExactNeedsLevellingWrong : ChangeSpec := { name := "fnExactNeedsLevelling", fn := fun _ => fun
  | [d1, d2, d3] => { results := [.lit (.bool false)], args := [d1, d2, d3] }
  | _ => none }
def FnExactNeedsLevellingWrongFalsely : Prop := fnExactNeedsLevellingRow.holds Try.pinned (OpenSpec.ofChange fnExactNeedsLevellingWrong)

/-- 'laws.FnExactValidWear': WHATEVER THE INPUT: true; the input reads as it did. -/
def fnExactValidWearSpec : ChangeSpec := { name := "fnExactValidWear", fn := fun _ => fun
  | [d] => { results := [.lit (.bool true)], args := [d] }
  | _ => none }
def fnExactValidWearRow : OpenClaim := { program := "ytmbgagkpabepcaa", sum := "249430dc92a28496f362055d5547eacd87fe2a531ef4a3ef1662dcd7649736f8", func := "loop.example/g00905/laws.FnExactValidWear", spec := "fnExactValidWear", apart := false }
def FnExactValidWearSaid : Prop := fnExactValidWearRow.holds Try.pinned (OpenSpec.ofChange fnExactValidWearSpec)

/-- ITS FALSE NEIGHBOUR: 'it returns false'. Refute it at one input. -/
def fnExactValidWearWrong : ChangeSpec := { name := "fnExactValidWear", fn := fun _ => fun
  | [d] => { results := [.lit (.bool false)], args := [d] }
  | _ => none }
def FnExactValidWearWrongFalsely : Prop := fnExactValidWearRow.holds Try.pinned (OpenSpec.ofChange fnExactValidWearWrong)

/-- 'laws.FnExactLiveIn': WHATEVER THE INPUT: true; the input reads as it did. -/
def fnExactLiveInSpec : ChangeSpec := { name := "fnExactLiveIn", fn := fun _ => fun
  | [d1, d2] => { results := [.lit (.bool true)], args := [d1, d2] }
  | _ => none }
def fnExactLiveInRow : OpenClaim := { program := "ytmbgagkpabepcaa", sum := "249430dc92a28496f362055d5547eacd87fe2a531ef4a3ef1662dcd7649736f8", func := "loop.example/g00905/laws.FnExactLiveIn", spec := "fnExactLiveIn", unfollowed := true, recurses := true, apart := false }
def FnExactLiveInSaid : Prop := fnExactLiveInRow.holds Try.pinned (OpenSpec.ofChange fnExactLiveInSpec)

/-- ITS FALSE NEIGHBOUR: 'it returns false'. Refute it at one input. -/
def fnExactLiveInWrong : ChangeSpec := { name := "fnExactLiveIn", fn := fun _ => fun
  | [d1, d2] => { results := [.lit (.bool false)], args := [d1, d2] }
  | _ => none }
def FnExactLiveInWrongFalsely : Prop := fnExactLiveInRow.holds Try.pinned (OpenSpec.ofChange fnExactLiveInWrong)

/- THE SECOND FORM. 'bulk': how many values and letters a reading holds, each counted each time it is reached (what is shared counts as often as it is met; a slice's spare places count too). A statement '..UptoSaid' is the law's where the arguments, and the package variables that the reading takes, are together of bulk at most 1048576: NARROWER than '..Said'. Prove '..Said' where nothing that the law and all that it calls make is longer than what came in: it says more and counts as full. Else prove '..UptoSaid'. A law counts once. -/
mutual
def uptoBulk {H : Type} : DataW H → Nat
  | .lit (.string bytes) => bytes.length + 1
  | .lit _ => 1
  | .nil => 1
  | .ptr d => uptoBulk d + 1
  | .slice elems spare => uptoBulkAll elems + uptoBulkAll spare + 1
  | .agg parts => uptoBulkAll parts + 1
  | .iface _ d => uptoBulk d + 1
  | .map entries => uptoBulkEntries entries + 1
  | .held _ => 1
def uptoBulkAll {H : Type} : List (DataW H) → Nat
  | [] => 0
  | d :: r => uptoBulk d + uptoBulkAll r
def uptoBulkEntries {H : Type} : List (Lit × DataW H) → Nat
  | [] => 0
  | x :: r => uptoBulkEntry x + uptoBulkEntries r
def uptoBulkEntry {H : Type} : Lit × DataW H → Nat
  | (.string bytes, d) => bytes.length + uptoBulk d + 1
  | (_, d) => uptoBulk d + 1
 end
def uptoSmall : (H : Type) → List (DataW H) → Bool := fun _ ds => decide (uptoBulkAll ds ≤ 1048576)
def OpenSpec.upto (s : _root_.Go.ChangeSpec) : _root_.Go.OpenSpec := { _root_.Go.OpenSpec.ofChange s with cond := some uptoSmall }

/-- 'laws.FnExactValidCells', WHERE WHAT IT READS IS OF BULK AT MOST 1048576: true; the input reads as it did. -/
def fnExactValidCellsUptoRow : OpenClaim := { program := "ytmbgagkpabepcaa", sum := "249430dc92a28496f362055d5547eacd87fe2a531ef4a3ef1662dcd7649736f8", func := "loop.example/g00905/laws.FnExactValidCells", spec := "fnExactValidCells", unfollowed := true, recurses := true, apart := false, narrowed := true }
def FnExactValidCellsUptoSaid : Prop := fnExactValidCellsUptoRow.holds Try.pinned (OpenSpec.upto fnExactValidCellsSpec)

/-- 'laws.FnExactEraseCells', WHERE WHAT IT READS IS OF BULK AT MOST 1048576: true; the input reads as it did. -/
def fnExactEraseCellsUptoRow : OpenClaim := { program := "ytmbgagkpabepcaa", sum := "249430dc92a28496f362055d5547eacd87fe2a531ef4a3ef1662dcd7649736f8", func := "loop.example/g00905/laws.FnExactEraseCells", spec := "fnExactEraseCells", unfollowed := true, recurses := true, apart := false, narrowed := true }
def FnExactEraseCellsUptoSaid : Prop := fnExactEraseCellsUptoRow.holds Try.pinned (OpenSpec.upto fnExactEraseCellsSpec)

/-- 'laws.FnExactSenseCells', WHERE WHAT IT READS IS OF BULK AT MOST 1048576: true; the input reads as it did. -/
def fnExactSenseCellsUptoRow : OpenClaim := { program := "ytmbgagkpabepcaa", sum := "249430dc92a28496f362055d5547eacd87fe2a531ef4a3ef1662dcd7649736f8", func := "loop.example/g00905/laws.FnExactSenseCells", spec := "fnExactSenseCells", unfollowed := true, recurses := true, apart := false, narrowed := true }
def FnExactSenseCellsUptoSaid : Prop := fnExactSenseCellsUptoRow.holds Try.pinned (OpenSpec.upto fnExactSenseCellsSpec)

/-- 'laws.FnExactLeaksPattern', WHERE WHAT IT READS IS OF BULK AT MOST 1048576: true; the input reads as it did. -/
def fnExactLeaksPatternUptoRow : OpenClaim := { program := "ytmbgagkpabepcaa", sum := "249430dc92a28496f362055d5547eacd87fe2a531ef4a3ef1662dcd7649736f8", func := "loop.example/g00905/laws.FnExactLeaksPattern", spec := "fnExactLeaksPattern", unfollowed := true, recurses := true, apart := false, narrowed := true }
def FnExactLeaksPatternUptoSaid : Prop := fnExactLeaksPatternUptoRow.holds Try.pinned (OpenSpec.upto fnExactLeaksPatternSpec)

/-- 'laws.FnExactErasePasses', WHERE WHAT IT READS IS OF BULK AT MOST 1048576: true; the input reads as it did. -/
def fnExactErasePassesUptoRow : OpenClaim := { program := "ytmbgagkpabepcaa", sum := "249430dc92a28496f362055d5547eacd87fe2a531ef4a3ef1662dcd7649736f8", func := "loop.example/g00905/laws.FnExactErasePasses", spec := "fnExactErasePasses", unfollowed := true, recurses := true, apart := false, narrowed := true }
def FnExactErasePassesUptoSaid : Prop := fnExactErasePassesUptoRow.holds Try.pinned (OpenSpec.upto fnExactErasePassesSpec)

/-- 'laws.FnExactProgramCells', WHERE WHAT IT READS IS OF BULK AT MOST 1048576: true; the input reads as it did. -/
def fnExactProgramCellsUptoRow : OpenClaim := { program := "ytmbgagkpabepcaa", sum := "249430dc92a28496f362055d5547eacd87fe2a531ef4a3ef1662dcd7649736f8", func := "loop.example/g00905/laws.FnExactProgramCells", spec := "fnExactProgramCells", unfollowed := true, recurses := true, apart := false, narrowed := true }
def FnExactProgramCellsUptoSaid : Prop := fnExactProgramCellsUptoRow.holds Try.pinned (OpenSpec.upto fnExactProgramCellsSpec)

/-- 'laws.FnExactWipeCells', WHERE WHAT IT READS IS OF BULK AT MOST 1048576: true; the input reads as it did. -/
def fnExactWipeCellsUptoRow : OpenClaim := { program := "ytmbgagkpabepcaa", sum := "249430dc92a28496f362055d5547eacd87fe2a531ef4a3ef1662dcd7649736f8", func := "loop.example/g00905/laws.FnExactWipeCells", spec := "fnExactWipeCells", inPlace := ["internal/abi.NoEscape", "internal/bytealg.MakeNoZero"], unfollowed := true, recurses := true, apart := false, narrowed := true }
def FnExactWipeCellsUptoSaid : Prop := fnExactWipeCellsUptoRow.holds Try.pinned (OpenSpec.upto fnExactWipeCellsSpec)

/-- 'laws.FnExactWearExcess', WHERE WHAT IT READS IS OF BULK AT MOST 1048576: true; the input reads as it did. -/
def fnExactWearExcessUptoRow : OpenClaim := { program := "ytmbgagkpabepcaa", sum := "249430dc92a28496f362055d5547eacd87fe2a531ef4a3ef1662dcd7649736f8", func := "loop.example/g00905/laws.FnExactWearExcess", spec := "fnExactWearExcess", unfollowed := true, recurses := true, apart := false, narrowed := true }
def FnExactWearExcessUptoSaid : Prop := fnExactWearExcessUptoRow.holds Try.pinned (OpenSpec.upto fnExactWearExcessSpec)

/-- 'laws.FnExactWearGap', WHERE WHAT IT READS IS OF BULK AT MOST 1048576: true; the input reads as it did. -/
def fnExactWearGapUptoRow : OpenClaim := { program := "ytmbgagkpabepcaa", sum := "249430dc92a28496f362055d5547eacd87fe2a531ef4a3ef1662dcd7649736f8", func := "loop.example/g00905/laws.FnExactWearGap", spec := "fnExactWearGap", unfollowed := true, recurses := true, apart := false, narrowed := true }
def FnExactWearGapUptoSaid : Prop := fnExactWearGapUptoRow.holds Try.pinned (OpenSpec.upto fnExactWearGapSpec)

/-- 'laws.FnExactNeedsLevelling', WHERE WHAT IT READS IS OF BULK AT MOST 1048576: true; the input reads as it did. -/
def fnExactNeedsLevellingUptoRow : OpenClaim := { program := "ytmbgagkpabepcaa", sum := "249430dc92a28496f362055d5547eacd87fe2a531ef4a3ef1662dcd7649736f8", func := "loop.example/g00905/laws.FnExactNeedsLevelling", spec := "fnExactNeedsLevelling", unfollowed := true, recurses := true, apart := false, narrowed := true }
def FnExactNeedsLevellingUptoSaid : Prop := fnExactNeedsLevellingUptoRow.holds Try.pinned (OpenSpec.upto fnExactNeedsLevellingSpec)

/-- 'laws.FnExactValidWear', WHERE WHAT IT READS IS OF BULK AT MOST 1048576: true; the input reads as it did. -/
def fnExactValidWearUptoRow : OpenClaim := { program := "ytmbgagkpabepcaa", sum := "249430dc92a28496f362055d5547eacd87fe2a531ef4a3ef1662dcd7649736f8", func := "loop.example/g00905/laws.FnExactValidWear", spec := "fnExactValidWear", apart := false, narrowed := true }
def FnExactValidWearUptoSaid : Prop := fnExactValidWearUptoRow.holds Try.pinned (OpenSpec.upto fnExactValidWearSpec)

/-- 'laws.FnExactLiveIn', WHERE WHAT IT READS IS OF BULK AT MOST 1048576: true; the input reads as it did. -/
def fnExactLiveInUptoRow : OpenClaim := { program := "ytmbgagkpabepcaa", sum := "249430dc92a28496f362055d5547eacd87fe2a531ef4a3ef1662dcd7649736f8", func := "loop.example/g00905/laws.FnExactLiveIn", spec := "fnExactLiveIn", unfollowed := true, recurses := true, apart := false, narrowed := true }
def FnExactLiveInUptoSaid : Prop := fnExactLiveInUptoRow.holds Try.pinned (OpenSpec.upto fnExactLiveInSpec)

end Rows
end Go.Proofs.Ytmbgagkpabepcaa
