/-
  No cell of these rows narrows 'for every input' (looked for: loops, veiled, ifaces, maps, wideKeys, modest, calm, conditions, laid).
  DERIVED. THE GIVEN ROWS OF THIS SEAT. 12 by the template 'for every input the law returns true; each argument reads behind the call as it read before'; 0 by the template 'total and deterministic' (their statements: YtbdfdkhkamonpabTotals.lean).
  GIVEN WITH THE SEED: the statements are not yours to turn. If you find one false, say at which input.
  Laid BY PROGRAM, IN A SANDBOX (cutbox-rows.mjs): the forced cells as the released guide's own fill.sh prints them over the translation 17e9907185f8f78c… (all of the seat's roots in one cut). By AI agents, Wed Nov 11 2026. No macro, syntax, notation, axiom, sorry.
-/
import Derived.Test.YtbdfdkhkamonpabChecked
import GoSem.Claim
import GoSem.ClaimJoined
import GoSem.ClaimMapViews
import Derived.JoinedTies
import Derived.KernelRfl
namespace Go.Proofs.Ytbdfdkhkamonpab
/- THE CELL 'sum', in the pinned program and in every row, IS THE sha256 OF THE DUMP (.gsa) THAT YtbdfdkhkamonpabProg.lean LOADS. Nothing in Lean hashes anything: it is a label: what it is worth is what the hold of that sum in a sandbox is worth. -/
noncomputable def Try.pinned : Pinned := { name := "ytbdfdkhkamonpab", sum := "17e9907185f8f78c3793a1c7454795df3b6873b8ce1e79cee704b68212aea74c", checked := Try.checked }
namespace Rows
def none {H : Type} : Left H := { results := [], args := [] }

/-- 'laws.FnFtlMap': WHATEVER THE INPUT: true; the input reads as it did. -/
def fnFtlMapSpec : ChangeSpec := { name := "fnFtlMap", fn := fun _ => fun
  | [d] => { results := [.lit (.bool true)], args := [d] }
  | _ => none }
def fnFtlMapRow : OpenClaim := { program := "ytbdfdkhkamonpab", sum := "17e9907185f8f78c3793a1c7454795df3b6873b8ce1e79cee704b68212aea74c", func := "loop.example/g00905/laws.FnFtlMap", spec := "fnFtlMap", plainKeys := false, apart := false }
def FnFtlMapSaid : Prop := fnFtlMapRow.holds Try.pinned (OpenSpec.ofChange fnFtlMapSpec)

/-- ITS FALSE NEIGHBOUR: 'it returns false'. Refute it at one input. -/
def fnFtlMapWrong : ChangeSpec := { name := "fnFtlMap", fn := fun _ => fun
  | [d] => { results := [.lit (.bool false)], args := [d] }
  | _ => none }
def FnFtlMapWrongFalsely : Prop := fnFtlMapRow.holds Try.pinned (OpenSpec.ofChange fnFtlMapWrong)

/-- 'laws.FnExactGroupComplete': WHATEVER THE INPUT: true; the input reads as it did. -/
def fnExactGroupCompleteSpec : ChangeSpec := { name := "fnExactGroupComplete", fn := fun _ => fun
  | [d1, d2, d3] => { results := [.lit (.bool true)], args := [d1, d2, d3] }
  | _ => none }
def fnExactGroupCompleteRow : OpenClaim := { program := "ytbdfdkhkamonpab", sum := "17e9907185f8f78c3793a1c7454795df3b6873b8ce1e79cee704b68212aea74c", func := "loop.example/g00905/laws.FnExactGroupComplete", spec := "fnExactGroupComplete", plainKeys := false, apart := false }
def FnExactGroupCompleteSaid : Prop := fnExactGroupCompleteRow.holds Try.pinned (OpenSpec.ofChange fnExactGroupCompleteSpec)

/-- ITS FALSE NEIGHBOUR: 'it returns false'. Refute it at one input. -/
def fnExactGroupCompleteWrong : ChangeSpec := { name := "fnExactGroupComplete", fn := fun _ => fun
  | [d1, d2, d3] => { results := [.lit (.bool false)], args := [d1, d2, d3] }
  | _ => none }
def FnExactGroupCompleteWrongFalsely : Prop := fnExactGroupCompleteRow.holds Try.pinned (OpenSpec.ofChange fnExactGroupCompleteWrong)

/-- 'laws.FnExactNewestOf': WHATEVER THE INPUT: true; the input reads as it did. -/
def fnExactNewestOfSpec : ChangeSpec := { name := "fnExactNewestOf", fn := fun _ => fun
  | [d1, d2] => { results := [.lit (.bool true)], args := [d1, d2] }
  | _ => none }
def fnExactNewestOfRow : OpenClaim := { program := "ytbdfdkhkamonpab", sum := "17e9907185f8f78c3793a1c7454795df3b6873b8ce1e79cee704b68212aea74c", func := "loop.example/g00905/laws.FnExactNewestOf", spec := "fnExactNewestOf", plainKeys := false, apart := false }
def FnExactNewestOfSaid : Prop := fnExactNewestOfRow.holds Try.pinned (OpenSpec.ofChange fnExactNewestOfSpec)

/-- ITS FALSE NEIGHBOUR: 'it returns false'. Refute it at one input. -/
def fnExactNewestOfWrong : ChangeSpec := { name := "fnExactNewestOf", fn := fun _ => fun
  | [d1, d2] => { results := [.lit (.bool false)], args := [d1, d2] }
  | _ => none }
def FnExactNewestOfWrongFalsely : Prop := fnExactNewestOfRow.holds Try.pinned (OpenSpec.ofChange fnExactNewestOfWrong)

/-- 'laws.FnExactRecoverMap': WHATEVER THE INPUT: true; the input reads as it did. -/
def fnExactRecoverMapSpec : ChangeSpec := { name := "fnExactRecoverMap", fn := fun _ => fun
  | [d1, d2, d3, d4] => { results := [.lit (.bool true)], args := [d1, d2, d3, d4] }
  | _ => none }
def fnExactRecoverMapRow : OpenClaim := { program := "ytbdfdkhkamonpab", sum := "17e9907185f8f78c3793a1c7454795df3b6873b8ce1e79cee704b68212aea74c", func := "loop.example/g00905/laws.FnExactRecoverMap", spec := "fnExactRecoverMap", plainKeys := false, apart := false }
def FnExactRecoverMapSaid : Prop := fnExactRecoverMapRow.holds Try.pinned (OpenSpec.ofChange fnExactRecoverMapSpec)

/-- ITS FALSE NEIGHBOUR: 'it returns false'. Refute it at one input. -/
def fnExactRecoverMapWrong : ChangeSpec := { name := "fnExactRecoverMap", fn := fun _ => fun
  | [d1, d2, d3, d4] => { results := [.lit (.bool false)], args := [d1, d2, d3, d4] }
  | _ => none }
def FnExactRecoverMapWrongFalsely : Prop := fnExactRecoverMapRow.holds Try.pinned (OpenSpec.ofChange fnExactRecoverMapWrong)

/-- 'laws.FnExactRecoverFrom': WHATEVER THE INPUT: true; the input reads as it did. -/
def fnExactRecoverFromSpec : ChangeSpec := { name := "fnExactRecoverFrom", fn := fun _ => fun
  | [d1, d2] => { results := [.lit (.bool true)], args := [d1, d2] }
  | _ => none }
def fnExactRecoverFromRow : OpenClaim := { program := "ytbdfdkhkamonpab", sum := "17e9907185f8f78c3793a1c7454795df3b6873b8ce1e79cee704b68212aea74c", func := "loop.example/g00905/laws.FnExactRecoverFrom", spec := "fnExactRecoverFrom", plainKeys := false, apart := false }
def FnExactRecoverFromSaid : Prop := fnExactRecoverFromRow.holds Try.pinned (OpenSpec.ofChange fnExactRecoverFromSpec)

/-- ITS FALSE NEIGHBOUR: 'it returns false'. Refute it at one input. -/
def fnExactRecoverFromWrong : ChangeSpec := { name := "fnExactRecoverFrom", fn := fun _ => fun
  | [d1, d2] => { results := [.lit (.bool false)], args := [d1, d2] }
  | _ => none }
def FnExactRecoverFromWrongFalsely : Prop := fnExactRecoverFromRow.holds Try.pinned (OpenSpec.ofChange fnExactRecoverFromWrong)

/-- 'laws.FnFtlRecover': WHATEVER THE INPUT: true; the input reads as it did. -/
def fnFtlRecoverSpec : ChangeSpec := { name := "fnFtlRecover", fn := fun _ => fun
  | [d] => { results := [.lit (.bool true)], args := [d] }
  | _ => none }
def fnFtlRecoverRow : OpenClaim := { program := "ytbdfdkhkamonpab", sum := "17e9907185f8f78c3793a1c7454795df3b6873b8ce1e79cee704b68212aea74c", func := "loop.example/g00905/laws.FnFtlRecover", spec := "fnFtlRecover", plainKeys := false, apart := false }
def FnFtlRecoverSaid : Prop := fnFtlRecoverRow.holds Try.pinned (OpenSpec.ofChange fnFtlRecoverSpec)

/-- ITS FALSE NEIGHBOUR: 'it returns false'. Refute it at one input. -/
def fnFtlRecoverWrong : ChangeSpec := { name := "fnFtlRecover", fn := fun _ => fun
  | [d] => { results := [.lit (.bool false)], args := [d] }
  | _ => none }
def FnFtlRecoverWrongFalsely : Prop := fnFtlRecoverRow.holds Try.pinned (OpenSpec.ofChange fnFtlRecoverWrong)

/-- 'laws.FnExactValidFtlAct': WHATEVER THE INPUT: true; the input reads as it did. -/
def fnExactValidFtlActSpec : ChangeSpec := { name := "fnExactValidFtlAct", fn := fun _ => fun
  | [d] => { results := [.lit (.bool true)], args := [d] }
  | _ => none }
def fnExactValidFtlActRow : OpenClaim := { program := "ytbdfdkhkamonpab", sum := "17e9907185f8f78c3793a1c7454795df3b6873b8ce1e79cee704b68212aea74c", func := "loop.example/g00905/laws.FnExactValidFtlAct", spec := "fnExactValidFtlAct", unfollowed := true, recurses := true, plainKeys := false, apart := false }
def FnExactValidFtlActSaid : Prop := fnExactValidFtlActRow.holds Try.pinned (OpenSpec.ofChange fnExactValidFtlActSpec)

/-- ITS FALSE NEIGHBOUR: 'it returns false'. Refute it at one input. -/
def fnExactValidFtlActWrong : ChangeSpec := { name := "fnExactValidFtlAct", fn := fun _ => fun
  | [d] => { results := [.lit (.bool false)], args := [d] }
  | _ => none }
def FnExactValidFtlActWrongFalsely : Prop := fnExactValidFtlActRow.holds Try.pinned (OpenSpec.ofChange fnExactValidFtlActWrong)

/-- 'laws.FnExactMarkBadBlocks': WHATEVER THE INPUT: true; the input reads as it did. -/
def fnExactMarkBadBlocksSpec : ChangeSpec := { name := "fnExactMarkBadBlocks", fn := fun _ => fun
  | [d1, d2] => { results := [.lit (.bool true)], args := [d1, d2] }
  | _ => none }
def fnExactMarkBadBlocksRow : OpenClaim := { program := "ytbdfdkhkamonpab", sum := "17e9907185f8f78c3793a1c7454795df3b6873b8ce1e79cee704b68212aea74c", func := "loop.example/g00905/laws.FnExactMarkBadBlocks", spec := "fnExactMarkBadBlocks", plainKeys := false, apart := false }
def FnExactMarkBadBlocksSaid : Prop := fnExactMarkBadBlocksRow.holds Try.pinned (OpenSpec.ofChange fnExactMarkBadBlocksSpec)

/-- ITS FALSE NEIGHBOUR: 'it returns false'. Refute it at one input. -/
def fnExactMarkBadBlocksWrong : ChangeSpec := { name := "fnExactMarkBadBlocks", fn := fun _ => fun
  | [d1, d2] => { results := [.lit (.bool false)], args := [d1, d2] }
  | _ => none }
def FnExactMarkBadBlocksWrongFalsely : Prop := fnExactMarkBadBlocksRow.holds Try.pinned (OpenSpec.ofChange fnExactMarkBadBlocksWrong)

/-- 'laws.FnExactScanBadBlocks': WHATEVER THE INPUT: true; the input reads as it did. -/
def fnExactScanBadBlocksSpec : ChangeSpec := { name := "fnExactScanBadBlocks", fn := fun _ => fun
  | [d1, d2] => { results := [.lit (.bool true)], args := [d1, d2] }
  | _ => none }
def fnExactScanBadBlocksRow : OpenClaim := { program := "ytbdfdkhkamonpab", sum := "17e9907185f8f78c3793a1c7454795df3b6873b8ce1e79cee704b68212aea74c", func := "loop.example/g00905/laws.FnExactScanBadBlocks", spec := "fnExactScanBadBlocks", plainKeys := false, apart := false }
def FnExactScanBadBlocksSaid : Prop := fnExactScanBadBlocksRow.holds Try.pinned (OpenSpec.ofChange fnExactScanBadBlocksSpec)

/-- ITS FALSE NEIGHBOUR: 'it returns false'. Refute it at one input. -/
def fnExactScanBadBlocksWrong : ChangeSpec := { name := "fnExactScanBadBlocks", fn := fun _ => fun
  | [d1, d2] => { results := [.lit (.bool false)], args := [d1, d2] }
  | _ => none }
def FnExactScanBadBlocksWrongFalsely : Prop := fnExactScanBadBlocksRow.holds Try.pinned (OpenSpec.ofChange fnExactScanBadBlocksWrong)

/-- 'laws.FnExactDifferingBits': WHATEVER THE INPUT: true; the input reads as it did. -/
def fnExactDifferingBitsSpec : ChangeSpec := { name := "fnExactDifferingBits", fn := fun _ => fun
  | [d1, d2] => { results := [.lit (.bool true)], args := [d1, d2] }
  | _ => none }
def fnExactDifferingBitsRow : OpenClaim := { program := "ytbdfdkhkamonpab", sum := "17e9907185f8f78c3793a1c7454795df3b6873b8ce1e79cee704b68212aea74c", func := "loop.example/g00905/laws.FnExactDifferingBits", spec := "fnExactDifferingBits", inPlace := ["internal/abi.NoEscape", "internal/bytealg.MakeNoZero"], plainKeys := false, apart := false }
def FnExactDifferingBitsSaid : Prop := fnExactDifferingBitsRow.holds Try.pinned (OpenSpec.ofChange fnExactDifferingBitsSpec)

/-- ITS FALSE NEIGHBOUR: 'it returns false'. Refute it at one input. -/
def fnExactDifferingBitsWrong : ChangeSpec := { name := "fnExactDifferingBits", fn := fun _ => fun
  | [d1, d2] => { results := [.lit (.bool false)], args := [d1, d2] }
  | _ => none }
def FnExactDifferingBitsWrongFalsely : Prop := fnExactDifferingBitsRow.holds Try.pinned (OpenSpec.ofChange fnExactDifferingBitsWrong)

/-- 'laws.FnExactFaultedBlocks': WHATEVER THE INPUT: true; the input reads as it did. -/
def fnExactFaultedBlocksSpec : ChangeSpec := { name := "fnExactFaultedBlocks", fn := fun _ => fun
  | [d] => { results := [.lit (.bool true)], args := [d] }
  | _ => none }
def fnExactFaultedBlocksRow : OpenClaim := { program := "ytbdfdkhkamonpab", sum := "17e9907185f8f78c3793a1c7454795df3b6873b8ce1e79cee704b68212aea74c", func := "loop.example/g00905/laws.FnExactFaultedBlocks", spec := "fnExactFaultedBlocks", recurses := true, plainKeys := false, apart := false }
def FnExactFaultedBlocksSaid : Prop := fnExactFaultedBlocksRow.holds Try.pinned (OpenSpec.ofChange fnExactFaultedBlocksSpec)

/-- ITS FALSE NEIGHBOUR: 'it returns false'. Refute it at one input. -/
def fnExactFaultedBlocksWrong : ChangeSpec := { name := "fnExactFaultedBlocks", fn := fun _ => fun
  | [d] => { results := [.lit (.bool false)], args := [d] }
  | _ => none }
def FnExactFaultedBlocksWrongFalsely : Prop := fnExactFaultedBlocksRow.holds Try.pinned (OpenSpec.ofChange fnExactFaultedBlocksWrong)

/-- 'laws.FnExactApplyFault': WHATEVER THE INPUT: true; the input reads as it did. -/
def fnExactApplyFaultSpec : ChangeSpec := { name := "fnExactApplyFault", fn := fun _ => fun
  | [d1, d2] => { results := [.lit (.bool true)], args := [d1, d2] }
  | _ => none }
def fnExactApplyFaultRow : OpenClaim := { program := "ytbdfdkhkamonpab", sum := "17e9907185f8f78c3793a1c7454795df3b6873b8ce1e79cee704b68212aea74c", func := "loop.example/g00905/laws.FnExactApplyFault", spec := "fnExactApplyFault", unfollowed := true, recurses := true, plainKeys := false, apart := false }
def FnExactApplyFaultSaid : Prop := fnExactApplyFaultRow.holds Try.pinned (OpenSpec.ofChange fnExactApplyFaultSpec)

/-- ITS FALSE NEIGHBOUR: 'it returns false'. Refute it at one input. -/
def fnExactApplyFaultWrong : ChangeSpec := { name := "fnExactApplyFault", fn := fun _ => fun
  | [d1, d2] => { results := [.lit (.bool false)], args := [d1, d2] }
  | _ => none }
def FnExactApplyFaultWrongFalsely : Prop := fnExactApplyFaultRow.holds Try.pinned (OpenSpec.ofChange fnExactApplyFaultWrong)

/- THE SECOND FORM. 'bulk': how many values and letters a reading holds, each counted each time it is reached (what is shared counts as often as it is met; a slice's spare places count too). A statement '..UptoSaid' is the law's where the arguments, and the package variables that the reading takes, are together of bulk at most 1048576: NARROWER than '..Said'. Prove '..Said' where nothing that the law and all that it calls make is longer than what came in: it says more and counts as full. Else prove '..UptoSaid'. A law counts once. -/
mutual
def uptoBulk {H : Type} : DataW H → Nat
  | .lit (.string bytes) => bytes.length + 1
  | .lit _ => 1
  | .nil => 1
  | .ptr d => uptoBulk d + 1
  | .slice elems spare => uptoBulkAll elems + uptoBulkAll spare + 1
  | .agg parts => uptoBulkAll parts + 1
  | .iface _ d => uptoBulk d + 1
  | .map entries => uptoBulkEntries entries + 1
  | .held _ => 1
def uptoBulkAll {H : Type} : List (DataW H) → Nat
  | [] => 0
  | d :: r => uptoBulk d + uptoBulkAll r
def uptoBulkEntries {H : Type} : List (Lit × DataW H) → Nat
  | [] => 0
  | x :: r => uptoBulkEntry x + uptoBulkEntries r
def uptoBulkEntry {H : Type} : Lit × DataW H → Nat
  | (.string bytes, d) => bytes.length + uptoBulk d + 1
  | (_, d) => uptoBulk d + 1
 end
def uptoSmall : (H : Type) → List (DataW H) → Bool := fun _ ds => decide (uptoBulkAll ds ≤ 1048576)
def OpenSpec.upto (s : _root_.Go.ChangeSpec) : _root_.Go.OpenSpec := { _root_.Go.OpenSpec.ofChange s with cond := some uptoSmall }

/-- 'laws.FnFtlMap', WHERE WHAT IT READS IS OF BULK AT MOST 1048576: true; the input reads as it did. -/
def fnFtlMapUptoRow : OpenClaim := { program := "ytbdfdkhkamonpab", sum := "17e9907185f8f78c3793a1c7454795df3b6873b8ce1e79cee704b68212aea74c", func := "loop.example/g00905/laws.FnFtlMap", spec := "fnFtlMap", plainKeys := false, apart := false, narrowed := true }
def FnFtlMapUptoSaid : Prop := fnFtlMapUptoRow.holds Try.pinned (OpenSpec.upto fnFtlMapSpec)

/-- 'laws.FnExactGroupComplete', WHERE WHAT IT READS IS OF BULK AT MOST 1048576: true; the input reads as it did. -/
def fnExactGroupCompleteUptoRow : OpenClaim := { program := "ytbdfdkhkamonpab", sum := "17e9907185f8f78c3793a1c7454795df3b6873b8ce1e79cee704b68212aea74c", func := "loop.example/g00905/laws.FnExactGroupComplete", spec := "fnExactGroupComplete", plainKeys := false, apart := false, narrowed := true }
def FnExactGroupCompleteUptoSaid : Prop := fnExactGroupCompleteUptoRow.holds Try.pinned (OpenSpec.upto fnExactGroupCompleteSpec)

/-- 'laws.FnExactNewestOf', WHERE WHAT IT READS IS OF BULK AT MOST 1048576: true; the input reads as it did. -/
def fnExactNewestOfUptoRow : OpenClaim := { program := "ytbdfdkhkamonpab", sum := "17e9907185f8f78c3793a1c7454795df3b6873b8ce1e79cee704b68212aea74c", func := "loop.example/g00905/laws.FnExactNewestOf", spec := "fnExactNewestOf", plainKeys := false, apart := false, narrowed := true }
def FnExactNewestOfUptoSaid : Prop := fnExactNewestOfUptoRow.holds Try.pinned (OpenSpec.upto fnExactNewestOfSpec)

/-- 'laws.FnExactRecoverMap', WHERE WHAT IT READS IS OF BULK AT MOST 1048576: true; the input reads as it did. -/
def fnExactRecoverMapUptoRow : OpenClaim := { program := "ytbdfdkhkamonpab", sum := "17e9907185f8f78c3793a1c7454795df3b6873b8ce1e79cee704b68212aea74c", func := "loop.example/g00905/laws.FnExactRecoverMap", spec := "fnExactRecoverMap", plainKeys := false, apart := false, narrowed := true }
def FnExactRecoverMapUptoSaid : Prop := fnExactRecoverMapUptoRow.holds Try.pinned (OpenSpec.upto fnExactRecoverMapSpec)

/-- 'laws.FnExactRecoverFrom', WHERE WHAT IT READS IS OF BULK AT MOST 1048576: true; the input reads as it did. -/
def fnExactRecoverFromUptoRow : OpenClaim := { program := "ytbdfdkhkamonpab", sum := "17e9907185f8f78c3793a1c7454795df3b6873b8ce1e79cee704b68212aea74c", func := "loop.example/g00905/laws.FnExactRecoverFrom", spec := "fnExactRecoverFrom", plainKeys := false, apart := false, narrowed := true }
def FnExactRecoverFromUptoSaid : Prop := fnExactRecoverFromUptoRow.holds Try.pinned (OpenSpec.upto fnExactRecoverFromSpec)

/-- 'laws.FnFtlRecover', WHERE WHAT IT READS IS OF BULK AT MOST 1048576: true; the input reads as it did. -/
def fnFtlRecoverUptoRow : OpenClaim := { program := "ytbdfdkhkamonpab", sum := "17e9907185f8f78c3793a1c7454795df3b6873b8ce1e79cee704b68212aea74c", func := "loop.example/g00905/laws.FnFtlRecover", spec := "fnFtlRecover", plainKeys := false, apart := false, narrowed := true }
def FnFtlRecoverUptoSaid : Prop := fnFtlRecoverUptoRow.holds Try.pinned (OpenSpec.upto fnFtlRecoverSpec)

/-- 'laws.FnExactValidFtlAct', WHERE WHAT IT READS IS OF BULK AT MOST 1048576: true; the input reads as it did. -/
def fnExactValidFtlActUptoRow : OpenClaim := { program := "ytbdfdkhkamonpab", sum := "17e9907185f8f78c3793a1c7454795df3b6873b8ce1e79cee704b68212aea74c", func := "loop.example/g00905/laws.FnExactValidFtlAct", spec := "fnExactValidFtlAct", unfollowed := true, recurses := true, plainKeys := false, apart := false, narrowed := true }
def FnExactValidFtlActUptoSaid : Prop := fnExactValidFtlActUptoRow.holds Try.pinned (OpenSpec.upto fnExactValidFtlActSpec)

/-- 'laws.FnExactMarkBadBlocks', WHERE WHAT IT READS IS OF BULK AT MOST 1048576: true; the input reads as it did. -/
def fnExactMarkBadBlocksUptoRow : OpenClaim := { program := "ytbdfdkhkamonpab", sum := "17e9907185f8f78c3793a1c7454795df3b6873b8ce1e79cee704b68212aea74c", func := "loop.example/g00905/laws.FnExactMarkBadBlocks", spec := "fnExactMarkBadBlocks", plainKeys := false, apart := false, narrowed := true }
def FnExactMarkBadBlocksUptoSaid : Prop := fnExactMarkBadBlocksUptoRow.holds Try.pinned (OpenSpec.upto fnExactMarkBadBlocksSpec)

/-- 'laws.FnExactScanBadBlocks', WHERE WHAT IT READS IS OF BULK AT MOST 1048576: true; the input reads as it did. -/
def fnExactScanBadBlocksUptoRow : OpenClaim := { program := "ytbdfdkhkamonpab", sum := "17e9907185f8f78c3793a1c7454795df3b6873b8ce1e79cee704b68212aea74c", func := "loop.example/g00905/laws.FnExactScanBadBlocks", spec := "fnExactScanBadBlocks", plainKeys := false, apart := false, narrowed := true }
def FnExactScanBadBlocksUptoSaid : Prop := fnExactScanBadBlocksUptoRow.holds Try.pinned (OpenSpec.upto fnExactScanBadBlocksSpec)

/-- 'laws.FnExactDifferingBits', WHERE WHAT IT READS IS OF BULK AT MOST 1048576: true; the input reads as it did. -/
def fnExactDifferingBitsUptoRow : OpenClaim := { program := "ytbdfdkhkamonpab", sum := "17e9907185f8f78c3793a1c7454795df3b6873b8ce1e79cee704b68212aea74c", func := "loop.example/g00905/laws.FnExactDifferingBits", spec := "fnExactDifferingBits", inPlace := ["internal/abi.NoEscape", "internal/bytealg.MakeNoZero"], plainKeys := false, apart := false, narrowed := true }
def FnExactDifferingBitsUptoSaid : Prop := fnExactDifferingBitsUptoRow.holds Try.pinned (OpenSpec.upto fnExactDifferingBitsSpec)

/-- 'laws.FnExactFaultedBlocks', WHERE WHAT IT READS IS OF BULK AT MOST 1048576: true; the input reads as it did. -/
def fnExactFaultedBlocksUptoRow : OpenClaim := { program := "ytbdfdkhkamonpab", sum := "17e9907185f8f78c3793a1c7454795df3b6873b8ce1e79cee704b68212aea74c", func := "loop.example/g00905/laws.FnExactFaultedBlocks", spec := "fnExactFaultedBlocks", recurses := true, plainKeys := false, apart := false, narrowed := true }
def FnExactFaultedBlocksUptoSaid : Prop := fnExactFaultedBlocksUptoRow.holds Try.pinned (OpenSpec.upto fnExactFaultedBlocksSpec)

/-- 'laws.FnExactApplyFault', WHERE WHAT IT READS IS OF BULK AT MOST 1048576: true; the input reads as it did. -/
def fnExactApplyFaultUptoRow : OpenClaim := { program := "ytbdfdkhkamonpab", sum := "17e9907185f8f78c3793a1c7454795df3b6873b8ce1e79cee704b68212aea74c", func := "loop.example/g00905/laws.FnExactApplyFault", spec := "fnExactApplyFault", unfollowed := true, recurses := true, plainKeys := false, apart := false, narrowed := true }
def FnExactApplyFaultUptoSaid : Prop := fnExactApplyFaultUptoRow.holds Try.pinned (OpenSpec.upto fnExactApplyFaultSpec)

end Rows
end Go.Proofs.Ytbdfdkhkamonpab
