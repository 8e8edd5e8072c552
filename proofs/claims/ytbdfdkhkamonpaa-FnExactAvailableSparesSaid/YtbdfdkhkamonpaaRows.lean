/-
  No cell of these rows narrows 'for every input' (looked for: loops, veiled, ifaces, maps, wideKeys, modest, calm, conditions, laid).
  DERIVED. THE GIVEN ROWS OF THIS SEAT. 12 by the template 'for every input the law returns true; each argument reads behind the call as it read before'; 0 by the template 'total and deterministic' (their statements: YtbdfdkhkamonpaaTotals.lean).
  GIVEN WITH THE SEED: the statements are not yours to turn. If you find one false, say at which input.
  Laid BY PROGRAM, IN A SANDBOX (cutbox-rows.mjs): the forced cells as the released guide's own fill.sh prints them over the translation 6af80d947c3c08e4… (all of the seat's roots in one cut). By AI agents, Wed Nov 11 2026. No macro, syntax, notation, axiom, sorry.
-/
import Derived.Test.YtbdfdkhkamonpaaChecked
import GoSem.Claim
import GoSem.ClaimJoined
import GoSem.ClaimMapViews
import Derived.JoinedTies
import Derived.KernelRfl
namespace Go.Proofs.Ytbdfdkhkamonpaa
/- THE CELL 'sum', in the pinned program and in every row, IS THE sha256 OF THE DUMP (.gsa) THAT YtbdfdkhkamonpaaProg.lean LOADS. Nothing in Lean hashes anything: it is a label: what it is worth is what the hold of that sum in a sandbox is worth. -/
noncomputable def Try.pinned : Pinned := { name := "ytbdfdkhkamonpaa", sum := "6af80d947c3c08e4b6af1e0af976628caf4088c8ac8536c038f6ac7a6a14d9b0", checked := Try.checked }
namespace Rows
def none {H : Type} : Left H := { results := [], args := [] }

/-- 'laws.FnExactStatsOf': WHATEVER THE INPUT: true; the input reads as it did. -/
def fnExactStatsOfSpec : ChangeSpec := { name := "fnExactStatsOf", fn := fun _ => fun
  | [d1, d2, d3] => { results := [.lit (.bool true)], args := [d1, d2, d3] }
  | _ => none }
def fnExactStatsOfRow : OpenClaim := { program := "ytbdfdkhkamonpaa", sum := "6af80d947c3c08e4b6af1e0af976628caf4088c8ac8536c038f6ac7a6a14d9b0", func := "loop.example/g00905/laws.FnExactStatsOf", spec := "fnExactStatsOf", apart := false }
def FnExactStatsOfSaid : Prop := fnExactStatsOfRow.holds Try.pinned (OpenSpec.ofChange fnExactStatsOfSpec)

/-- ITS FALSE NEIGHBOUR: 'it returns false'. Refute it at one input. -/
def fnExactStatsOfWrong : ChangeSpec := { name := "fnExactStatsOf", fn := fun _ => fun
  | [d1, d2, d3] => { results := [.lit (.bool false)], args := [d1, d2, d3] }
  | _ => none }
def FnExactStatsOfWrongFalsely : Prop := fnExactStatsOfRow.holds Try.pinned (OpenSpec.ofChange fnExactStatsOfWrong)

/-- 'laws.FnExactAvailableSpares': WHATEVER THE INPUT: true; the input reads as it did. -/
def fnExactAvailableSparesSpec : ChangeSpec := { name := "fnExactAvailableSpares", fn := fun _ => fun
  | [d1, d2] => { results := [.lit (.bool true)], args := [d1, d2] }
  | _ => none }
def fnExactAvailableSparesRow : OpenClaim := { program := "ytbdfdkhkamonpaa", sum := "6af80d947c3c08e4b6af1e0af976628caf4088c8ac8536c038f6ac7a6a14d9b0", func := "loop.example/g00905/laws.FnExactAvailableSpares", spec := "fnExactAvailableSpares", apart := false }
def FnExactAvailableSparesSaid : Prop := fnExactAvailableSparesRow.holds Try.pinned (OpenSpec.ofChange fnExactAvailableSparesSpec)

/-- ITS FALSE NEIGHBOUR: 'it returns false'. Refute it at one input. -/
def fnExactAvailableSparesWrong : ChangeSpec := { name := "fnExactAvailableSpares", fn := fun _ => fun
  | [d1, d2] => { results := [.lit (.bool false)], args := [d1, d2] }
  | _ => none }
def FnExactAvailableSparesWrongFalsely : Prop := fnExactAvailableSparesRow.holds Try.pinned (OpenSpec.ofChange fnExactAvailableSparesWrong)

/-- 'laws.FnExactNewBadTable': WHATEVER THE INPUT: true; the input reads as it did. -/
def fnExactNewBadTableSpec : ChangeSpec := { name := "fnExactNewBadTable", fn := fun _ => fun
  | [d1, d2, d3] => { results := [.lit (.bool true)], args := [d1, d2, d3] }
  | _ => none }
def fnExactNewBadTableRow : OpenClaim := { program := "ytbdfdkhkamonpaa", sum := "6af80d947c3c08e4b6af1e0af976628caf4088c8ac8536c038f6ac7a6a14d9b0", func := "loop.example/g00905/laws.FnExactNewBadTable", spec := "fnExactNewBadTable", apart := false }
def FnExactNewBadTableSaid : Prop := fnExactNewBadTableRow.holds Try.pinned (OpenSpec.ofChange fnExactNewBadTableSpec)

/-- ITS FALSE NEIGHBOUR: 'it returns false'. Refute it at one input. -/
def fnExactNewBadTableWrong : ChangeSpec := { name := "fnExactNewBadTable", fn := fun _ => fun
  | [d1, d2, d3] => { results := [.lit (.bool false)], args := [d1, d2, d3] }
  | _ => none }
def FnExactNewBadTableWrongFalsely : Prop := fnExactNewBadTableRow.holds Try.pinned (OpenSpec.ofChange fnExactNewBadTableWrong)

/-- 'laws.FnExactRetireBlock': WHATEVER THE INPUT: true; the input reads as it did. -/
def fnExactRetireBlockSpec : ChangeSpec := { name := "fnExactRetireBlock", fn := fun _ => fun
  | [d1, d2] => { results := [.lit (.bool true)], args := [d1, d2] }
  | _ => none }
def fnExactRetireBlockRow : OpenClaim := { program := "ytbdfdkhkamonpaa", sum := "6af80d947c3c08e4b6af1e0af976628caf4088c8ac8536c038f6ac7a6a14d9b0", func := "loop.example/g00905/laws.FnExactRetireBlock", spec := "fnExactRetireBlock", inPlace := ["slices.overlaps[int64]"], apart := false }
def FnExactRetireBlockSaid : Prop := fnExactRetireBlockRow.holds Try.pinned (OpenSpec.ofChange fnExactRetireBlockSpec)

/-- ITS FALSE NEIGHBOUR: 'it returns false'. Refute it at one input. -/
def fnExactRetireBlockWrong : ChangeSpec := { name := "fnExactRetireBlock", fn := fun _ => fun
  | [d1, d2] => { results := [.lit (.bool false)], args := [d1, d2] }
  | _ => none }
def FnExactRetireBlockWrongFalsely : Prop := fnExactRetireBlockRow.holds Try.pinned (OpenSpec.ofChange fnExactRetireBlockWrong)

/-- 'laws.FnExactPickFree': WHATEVER THE INPUT: true; the input reads as it did. -/
def fnExactPickFreeSpec : ChangeSpec := { name := "fnExactPickFree", fn := fun _ => fun
  | [d1, d2, d3] => { results := [.lit (.bool true)], args := [d1, d2, d3] }
  | _ => none }
def fnExactPickFreeRow : OpenClaim := { program := "ytbdfdkhkamonpaa", sum := "6af80d947c3c08e4b6af1e0af976628caf4088c8ac8536c038f6ac7a6a14d9b0", func := "loop.example/g00905/laws.FnExactPickFree", spec := "fnExactPickFree", unfollowed := true, recurses := true, apart := false }
def FnExactPickFreeSaid : Prop := fnExactPickFreeRow.holds Try.pinned (OpenSpec.ofChange fnExactPickFreeSpec)

/-- ITS FALSE NEIGHBOUR: 'it returns false'. Refute it at one input. -/
def fnExactPickFreeWrong : ChangeSpec := { name := "fnExactPickFree", fn := fun _ => fun
  | [d1, d2, d3] => { results := [.lit (.bool false)], args := [d1, d2, d3] }
  | _ => none }
def FnExactPickFreeWrongFalsely : Prop := fnExactPickFreeRow.holds Try.pinned (OpenSpec.ofChange fnExactPickFreeWrong)

/-- 'laws.FnExactWearGap': WHATEVER THE INPUT: true; the input reads as it did. -/
def fnExactWearGapSpec : ChangeSpec := { name := "fnExactWearGap", fn := fun _ => fun
  | [d1, d2] => { results := [.lit (.bool true)], args := [d1, d2] }
  | _ => none }
def fnExactWearGapRow : OpenClaim := { program := "ytbdfdkhkamonpaa", sum := "6af80d947c3c08e4b6af1e0af976628caf4088c8ac8536c038f6ac7a6a14d9b0", func := "loop.example/g00905/laws.FnExactWearGap", spec := "fnExactWearGap", unfollowed := true, recurses := true, apart := false }
def FnExactWearGapSaid : Prop := fnExactWearGapRow.holds Try.pinned (OpenSpec.ofChange fnExactWearGapSpec)

/-- ITS FALSE NEIGHBOUR: 'it returns false'. Refute it at one input. -/
def fnExactWearGapWrong : ChangeSpec := { name := "fnExactWearGap", fn := fun _ => fun
  | [d1, d2] => { results := [.lit (.bool false)], args := [d1, d2] }
  | _ => none }
def FnExactWearGapWrongFalsely : Prop := fnExactWearGapRow.holds Try.pinned (OpenSpec.ofChange fnExactWearGapWrong)

/-- 'laws.FnExactNeedsLevelling': WHATEVER THE INPUT: true; the input reads as it did. -/
def fnExactNeedsLevellingSpec : ChangeSpec := { name := "fnExactNeedsLevelling", fn := fun _ => fun
  | [d1, d2, d3] => { results := [.lit (.bool true)], args := [d1, d2, d3] }
  | _ => none }
def fnExactNeedsLevellingRow : OpenClaim := { program := "ytbdfdkhkamonpaa", sum := "6af80d947c3c08e4b6af1e0af976628caf4088c8ac8536c038f6ac7a6a14d9b0", func := "loop.example/g00905/laws.FnExactNeedsLevelling", spec := "fnExactNeedsLevelling", unfollowed := true, recurses := true, apart := false }
def FnExactNeedsLevellingSaid : Prop := fnExactNeedsLevellingRow.holds Try.pinned (OpenSpec.ofChange fnExactNeedsLevellingSpec)

/-- ITS FALSE NEIGHBOUR: 'it returns false'. Refute it at one input. -/
def fnExactNeedsLevellingWrong : ChangeSpec := { name := "fnExactNeedsLevelling", fn := fun _ => fun
  | [d1, d2, d3] => { results := [.lit (.bool false)], args := [d1, d2, d3] }
  | _ => none }
def FnExactNeedsLevellingWrongFalsely : Prop := fnExactNeedsLevellingRow.holds Try.pinned (OpenSpec.ofChange fnExactNeedsLevellingWrong)

/-- 'laws.FnExactPickStatic': WHATEVER THE INPUT: true; the input reads as it did. -/
def fnExactPickStaticSpec : ChangeSpec := { name := "fnExactPickStatic", fn := fun _ => fun
  | [d1, d2, d3] => { results := [.lit (.bool true)], args := [d1, d2, d3] }
  | _ => none }
def fnExactPickStaticRow : OpenClaim := { program := "ytbdfdkhkamonpaa", sum := "6af80d947c3c08e4b6af1e0af976628caf4088c8ac8536c038f6ac7a6a14d9b0", func := "loop.example/g00905/laws.FnExactPickStatic", spec := "fnExactPickStatic", unfollowed := true, recurses := true, apart := false }
def FnExactPickStaticSaid : Prop := fnExactPickStaticRow.holds Try.pinned (OpenSpec.ofChange fnExactPickStaticSpec)

/-- ITS FALSE NEIGHBOUR: 'it returns false'. Refute it at one input. -/
def fnExactPickStaticWrong : ChangeSpec := { name := "fnExactPickStatic", fn := fun _ => fun
  | [d1, d2, d3] => { results := [.lit (.bool false)], args := [d1, d2, d3] }
  | _ => none }
def FnExactPickStaticWrongFalsely : Prop := fnExactPickStaticRow.holds Try.pinned (OpenSpec.ofChange fnExactPickStaticWrong)

/-- 'laws.FnExactValidFTL': WHATEVER THE INPUT: true; the input reads as it did. -/
def fnExactValidFTLSpec : ChangeSpec := { name := "fnExactValidFTL", fn := fun _ => fun
  | [d] => { results := [.lit (.bool true)], args := [d] }
  | _ => none }
def fnExactValidFTLRow : OpenClaim := { program := "ytbdfdkhkamonpaa", sum := "6af80d947c3c08e4b6af1e0af976628caf4088c8ac8536c038f6ac7a6a14d9b0", func := "loop.example/g00905/laws.FnExactValidFTL", spec := "fnExactValidFTL", unfollowed := true, recurses := true, apart := false }
def FnExactValidFTLSaid : Prop := fnExactValidFTLRow.holds Try.pinned (OpenSpec.ofChange fnExactValidFTLSpec)

/-- ITS FALSE NEIGHBOUR: 'it returns false'. Refute it at one input. -/
def fnExactValidFTLWrong : ChangeSpec := { name := "fnExactValidFTL", fn := fun _ => fun
  | [d] => { results := [.lit (.bool false)], args := [d] }
  | _ => none }
def FnExactValidFTLWrongFalsely : Prop := fnExactValidFTLRow.holds Try.pinned (OpenSpec.ofChange fnExactValidFTLWrong)

/-- 'laws.FnExactSameFTL': WHATEVER THE INPUT: true; the input reads as it did. -/
def fnExactSameFTLSpec : ChangeSpec := { name := "fnExactSameFTL", fn := fun _ => fun
  | [d1, d2] => { results := [.lit (.bool true)], args := [d1, d2] }
  | _ => none }
def fnExactSameFTLRow : OpenClaim := { program := "ytbdfdkhkamonpaa", sum := "6af80d947c3c08e4b6af1e0af976628caf4088c8ac8536c038f6ac7a6a14d9b0", func := "loop.example/g00905/laws.FnExactSameFTL", spec := "fnExactSameFTL", unfollowed := true, recurses := true, apart := false }
def FnExactSameFTLSaid : Prop := fnExactSameFTLRow.holds Try.pinned (OpenSpec.ofChange fnExactSameFTLSpec)

/-- ITS FALSE NEIGHBOUR: 'it returns false'. Refute it at one input. -/
def fnExactSameFTLWrong : ChangeSpec := { name := "fnExactSameFTL", fn := fun _ => fun
  | [d1, d2] => { results := [.lit (.bool false)], args := [d1, d2] }
  | _ => none }
def FnExactSameFTLWrongFalsely : Prop := fnExactSameFTLRow.holds Try.pinned (OpenSpec.ofChange fnExactSameFTLWrong)

/-- 'laws.FnExactFreeBlocks': WHATEVER THE INPUT: true; the input reads as it did. -/
def fnExactFreeBlocksSpec : ChangeSpec := { name := "fnExactFreeBlocks", fn := fun _ => fun
  | [d] => { results := [.lit (.bool true)], args := [d] }
  | _ => none }
def fnExactFreeBlocksRow : OpenClaim := { program := "ytbdfdkhkamonpaa", sum := "6af80d947c3c08e4b6af1e0af976628caf4088c8ac8536c038f6ac7a6a14d9b0", func := "loop.example/g00905/laws.FnExactFreeBlocks", spec := "fnExactFreeBlocks", unfollowed := true, recurses := true, apart := false }
def FnExactFreeBlocksSaid : Prop := fnExactFreeBlocksRow.holds Try.pinned (OpenSpec.ofChange fnExactFreeBlocksSpec)

/-- ITS FALSE NEIGHBOUR: 'it returns false'. Refute it at one input. -/
def fnExactFreeBlocksWrong : ChangeSpec := { name := "fnExactFreeBlocks", fn := fun _ => fun
  | [d] => { results := [.lit (.bool false)], args := [d] }
  | _ => none }
def FnExactFreeBlocksWrongFalsely : Prop := fnExactFreeBlocksRow.holds Try.pinned (OpenSpec.ofChange fnExactFreeBlocksWrong)

/-- 'laws.FnExactCapacityFTL': WHATEVER THE INPUT: true; the input reads as it did. -/
def fnExactCapacityFTLSpec : ChangeSpec := { name := "fnExactCapacityFTL", fn := fun _ => fun
  | [d] => { results := [.lit (.bool true)], args := [d] }
  | _ => none }
def fnExactCapacityFTLRow : OpenClaim := { program := "ytbdfdkhkamonpaa", sum := "6af80d947c3c08e4b6af1e0af976628caf4088c8ac8536c038f6ac7a6a14d9b0", func := "loop.example/g00905/laws.FnExactCapacityFTL", spec := "fnExactCapacityFTL", apart := false }
def FnExactCapacityFTLSaid : Prop := fnExactCapacityFTLRow.holds Try.pinned (OpenSpec.ofChange fnExactCapacityFTLSpec)

/-- ITS FALSE NEIGHBOUR: 'it returns false'. Refute it at one input. -/
def fnExactCapacityFTLWrong : ChangeSpec := { name := "fnExactCapacityFTL", fn := fun _ => fun
  | [d] => { results := [.lit (.bool false)], args := [d] }
  | _ => none }
def FnExactCapacityFTLWrongFalsely : Prop := fnExactCapacityFTLRow.holds Try.pinned (OpenSpec.ofChange fnExactCapacityFTLWrong)

/- THE SECOND FORM. 'bulk': how many values and letters a reading holds, each counted each time it is reached (what is shared counts as often as it is met; a slice's spare places count too). A statement '..UptoSaid' is the law's where the arguments, and the package variables that the reading takes, are together of bulk at most 1048576: NARROWER than '..Said'. Prove '..Said' where nothing that the law and all that it calls make is longer than what came in: it says more and counts as full. Else prove '..UptoSaid'. A law counts once. -/
mutual
def uptoBulk {H : Type} : DataW H → Nat
  | .lit (.string bytes) => bytes.length + 1
  | .lit _ => 1
  | .nil => 1
  | .ptr d => uptoBulk d + 1
  | .slice elems spare => uptoBulkAll elems + uptoBulkAll spare + 1
  | .agg parts => uptoBulkAll parts + 1
  | .iface _ d => uptoBulk d + 1
  | .map entries => uptoBulkEntries entries + 1
  | .held _ => 1
def uptoBulkAll {H : Type} : List (DataW H) → Nat
  | [] => 0
  | d :: r => uptoBulk d + uptoBulkAll r
def uptoBulkEntries {H : Type} : List (Lit × DataW H) → Nat
  | [] => 0
  | x :: r => uptoBulkEntry x + uptoBulkEntries r
def uptoBulkEntry {H : Type} : Lit × DataW H → Nat
  | (.string bytes, d) => bytes.length + uptoBulk d + 1
  | (_, d) => uptoBulk d + 1
 end
def uptoSmall : (H : Type) → List (DataW H) → Bool := fun _ ds => decide (uptoBulkAll ds ≤ 1048576)
def OpenSpec.upto (s : _root_.Go.ChangeSpec) : _root_.Go.OpenSpec := { _root_.Go.OpenSpec.ofChange s with cond := some uptoSmall }

/-- 'laws.FnExactStatsOf', WHERE WHAT IT READS IS OF BULK AT MOST 1048576: true; the input reads as it did. -/
def fnExactStatsOfUptoRow : OpenClaim := { program := "ytbdfdkhkamonpaa", sum := "6af80d947c3c08e4b6af1e0af976628caf4088c8ac8536c038f6ac7a6a14d9b0", func := "loop.example/g00905/laws.FnExactStatsOf", spec := "fnExactStatsOf", apart := false, narrowed := true }
def FnExactStatsOfUptoSaid : Prop := fnExactStatsOfUptoRow.holds Try.pinned (OpenSpec.upto fnExactStatsOfSpec)

/-- 'laws.FnExactAvailableSpares', WHERE WHAT IT READS IS OF BULK AT MOST 1048576: true; the input reads as it did. -/
def fnExactAvailableSparesUptoRow : OpenClaim := { program := "ytbdfdkhkamonpaa", sum := "6af80d947c3c08e4b6af1e0af976628caf4088c8ac8536c038f6ac7a6a14d9b0", func := "loop.example/g00905/laws.FnExactAvailableSpares", spec := "fnExactAvailableSpares", apart := false, narrowed := true }
def FnExactAvailableSparesUptoSaid : Prop := fnExactAvailableSparesUptoRow.holds Try.pinned (OpenSpec.upto fnExactAvailableSparesSpec)

/-- 'laws.FnExactNewBadTable', WHERE WHAT IT READS IS OF BULK AT MOST 1048576: true; the input reads as it did. -/
def fnExactNewBadTableUptoRow : OpenClaim := { program := "ytbdfdkhkamonpaa", sum := "6af80d947c3c08e4b6af1e0af976628caf4088c8ac8536c038f6ac7a6a14d9b0", func := "loop.example/g00905/laws.FnExactNewBadTable", spec := "fnExactNewBadTable", apart := false, narrowed := true }
def FnExactNewBadTableUptoSaid : Prop := fnExactNewBadTableUptoRow.holds Try.pinned (OpenSpec.upto fnExactNewBadTableSpec)

/-- 'laws.FnExactRetireBlock', WHERE WHAT IT READS IS OF BULK AT MOST 1048576: true; the input reads as it did. -/
def fnExactRetireBlockUptoRow : OpenClaim := { program := "ytbdfdkhkamonpaa", sum := "6af80d947c3c08e4b6af1e0af976628caf4088c8ac8536c038f6ac7a6a14d9b0", func := "loop.example/g00905/laws.FnExactRetireBlock", spec := "fnExactRetireBlock", inPlace := ["slices.overlaps[int64]"], apart := false, narrowed := true }
def FnExactRetireBlockUptoSaid : Prop := fnExactRetireBlockUptoRow.holds Try.pinned (OpenSpec.upto fnExactRetireBlockSpec)

/-- 'laws.FnExactPickFree', WHERE WHAT IT READS IS OF BULK AT MOST 1048576: true; the input reads as it did. -/
def fnExactPickFreeUptoRow : OpenClaim := { program := "ytbdfdkhkamonpaa", sum := "6af80d947c3c08e4b6af1e0af976628caf4088c8ac8536c038f6ac7a6a14d9b0", func := "loop.example/g00905/laws.FnExactPickFree", spec := "fnExactPickFree", unfollowed := true, recurses := true, apart := false, narrowed := true }
def FnExactPickFreeUptoSaid : Prop := fnExactPickFreeUptoRow.holds Try.pinned (OpenSpec.upto fnExactPickFreeSpec)

/-- 'laws.FnExactWearGap', WHERE WHAT IT READS IS OF BULK AT MOST 1048576: true; the input reads as it did. -/
def fnExactWearGapUptoRow : OpenClaim := { program := "ytbdfdkhkamonpaa", sum := "6af80d947c3c08e4b6af1e0af976628caf4088c8ac8536c038f6ac7a6a14d9b0", func := "loop.example/g00905/laws.FnExactWearGap", spec := "fnExactWearGap", unfollowed := true, recurses := true, apart := false, narrowed := true }
def FnExactWearGapUptoSaid : Prop := fnExactWearGapUptoRow.holds Try.pinned (OpenSpec.upto fnExactWearGapSpec)

/-- 'laws.FnExactNeedsLevelling', WHERE WHAT IT READS IS OF BULK AT MOST 1048576: true; the input reads as it did. -/
def fnExactNeedsLevellingUptoRow : OpenClaim := { program := "ytbdfdkhkamonpaa", sum := "6af80d947c3c08e4b6af1e0af976628caf4088c8ac8536c038f6ac7a6a14d9b0", func := "loop.example/g00905/laws.FnExactNeedsLevelling", spec := "fnExactNeedsLevelling", unfollowed := true, recurses := true, apart := false, narrowed := true }
def FnExactNeedsLevellingUptoSaid : Prop := fnExactNeedsLevellingUptoRow.holds Try.pinned (OpenSpec.upto fnExactNeedsLevellingSpec)

/-- 'laws.FnExactPickStatic', WHERE WHAT IT READS IS OF BULK AT MOST 1048576: true; the input reads as it did. -/
def fnExactPickStaticUptoRow : OpenClaim := { program := "ytbdfdkhkamonpaa", sum := "6af80d947c3c08e4b6af1e0af976628caf4088c8ac8536c038f6ac7a6a14d9b0", func := "loop.example/g00905/laws.FnExactPickStatic", spec := "fnExactPickStatic", unfollowed := true, recurses := true, apart := false, narrowed := true }
def FnExactPickStaticUptoSaid : Prop := fnExactPickStaticUptoRow.holds Try.pinned (OpenSpec.upto fnExactPickStaticSpec)

/-- 'laws.FnExactValidFTL', WHERE WHAT IT READS IS OF BULK AT MOST 1048576: true; the input reads as it did. -/
def fnExactValidFTLUptoRow : OpenClaim := { program := "ytbdfdkhkamonpaa", sum := "6af80d947c3c08e4b6af1e0af976628caf4088c8ac8536c038f6ac7a6a14d9b0", func := "loop.example/g00905/laws.FnExactValidFTL", spec := "fnExactValidFTL", unfollowed := true, recurses := true, apart := false, narrowed := true }
def FnExactValidFTLUptoSaid : Prop := fnExactValidFTLUptoRow.holds Try.pinned (OpenSpec.upto fnExactValidFTLSpec)

/-- 'laws.FnExactSameFTL', WHERE WHAT IT READS IS OF BULK AT MOST 1048576: true; the input reads as it did. -/
def fnExactSameFTLUptoRow : OpenClaim := { program := "ytbdfdkhkamonpaa", sum := "6af80d947c3c08e4b6af1e0af976628caf4088c8ac8536c038f6ac7a6a14d9b0", func := "loop.example/g00905/laws.FnExactSameFTL", spec := "fnExactSameFTL", unfollowed := true, recurses := true, apart := false, narrowed := true }
def FnExactSameFTLUptoSaid : Prop := fnExactSameFTLUptoRow.holds Try.pinned (OpenSpec.upto fnExactSameFTLSpec)

/-- 'laws.FnExactFreeBlocks', WHERE WHAT IT READS IS OF BULK AT MOST 1048576: true; the input reads as it did. -/
def fnExactFreeBlocksUptoRow : OpenClaim := { program := "ytbdfdkhkamonpaa", sum := "6af80d947c3c08e4b6af1e0af976628caf4088c8ac8536c038f6ac7a6a14d9b0", func := "loop.example/g00905/laws.FnExactFreeBlocks", spec := "fnExactFreeBlocks", unfollowed := true, recurses := true, apart := false, narrowed := true }
def FnExactFreeBlocksUptoSaid : Prop := fnExactFreeBlocksUptoRow.holds Try.pinned (OpenSpec.upto fnExactFreeBlocksSpec)

/-- 'laws.FnExactCapacityFTL', WHERE WHAT IT READS IS OF BULK AT MOST 1048576: true; the input reads as it did. -/
def fnExactCapacityFTLUptoRow : OpenClaim := { program := "ytbdfdkhkamonpaa", sum := "6af80d947c3c08e4b6af1e0af976628caf4088c8ac8536c038f6ac7a6a14d9b0", func := "loop.example/g00905/laws.FnExactCapacityFTL", spec := "fnExactCapacityFTL", apart := false, narrowed := true }
def FnExactCapacityFTLUptoSaid : Prop := fnExactCapacityFTLUptoRow.holds Try.pinned (OpenSpec.upto fnExactCapacityFTLSpec)

end Rows
end Go.Proofs.Ytbdfdkhkamonpaa
