/-
  NARROWER THAN 'FOR EVERY INPUT', by the rows' own cells (each row's printed sentence says how): FnExactEncodeMeta: laid · FnExactDecodeMeta: laid · FnExactEncodeCheckpoint: laid · FnExactDecodeCheckpoint: laid · FnMeta: laid · FnCheckpoint: laid.
  DERIVED. THE GIVEN ROWS OF THIS SEAT. 6 by the template 'for every input the law returns true; each argument reads behind the call as it read before'; 0 by the template 'total and deterministic' (their statements: YtfnccbanmgfkeabDoorTotals.lean).
  GIVEN WITH THE SEED: the statements are not yours to turn. If you find one false, say at which input.
  Laid BY PROGRAM, IN A SANDBOX (cutbox-rows.mjs): the forced cells as the released guide's own fill.sh prints them over the translation e81003415e0534a4… (all of the seat's roots in one cut). By AI agents, Wed Nov 11 2026. No macro, syntax, notation, axiom, sorry.
-/
import Derived.Test.YtfnccbanmgfkeabDoorChecked
import GoSem.Claim
import GoSem.ClaimJoined
import GoSem.ClaimMapViews
import Derived.JoinedTies
import Derived.KernelRfl
namespace Go.Proofs.YtfnccbanmgfkeabDoor
/- THE CELL 'sum', in the pinned program and in every row, IS THE sha256 OF THE DUMP (.gsa) THAT YtfnccbanmgfkeabDoorProg.lean LOADS. Nothing in Lean hashes anything: it is a label: what it is worth is what the hold of that sum in a sandbox is worth. -/
noncomputable def Tryd.pinned : Pinned := { name := "ytfnccbanmgfkeabdoor", sum := "e81003415e0534a4ff5a0c7cbb0cdfa8b96803ae887b368a5a50ea02025007ff", checked := Tryd.checked }
namespace Rows
def none {H : Type} : Left H := { results := [], args := [] }

/- WHAT THE LISTED PACKAGE-LEVEL VARIABLES READ AS WHEN THE CALL BEGINS. Each datum BY PROGRAM (the guide's laid-datum.mjs) off the statement by which the dump's own 'gosem.cut.vars' lays the variable. In a bare row this is a premise. The card (YtfnccbanmgfkeabDoorCards.lean) ties it to the program's text. -/
def laid_loop_example_g00905_impl_crcNibbles {H : Type} : DataW H := .agg [.lit (.int .u32 0), .lit (.int .u32 498536548), .lit (.int .u32 997073096), .lit (.int .u32 651767980), .lit (.int .u32 1994146192), .lit (.int .u32 1802195444), .lit (.int .u32 1303535960), .lit (.int .u32 1342533948), .lit (.int .u32 3988292384), .lit (.int .u32 4027552580), .lit (.int .u32 3604390888), .lit (.int .u32 3412177804), .lit (.int .u32 2607071920), .lit (.int .u32 2262029012), .lit (.int .u32 2685067896), .lit (.int .u32 3183342108)]

/-- 'laws.FnExactEncodeMeta': WHATEVER THE INPUT: true; the input reads as it did. -/
def fnExactEncodeMetaSpec : ChangeSpec := { name := "fnExactEncodeMeta", vars := ["loop.example/g00905/impl.crcNibbles"], fn := fun _ => fun
  | [d, g1] => { results := [.lit (.bool true)], args := [d], vars := [g1] }
  | _ => none }
def fnExactEncodeMetaRow : OpenClaim := { program := "ytfnccbanmgfkeabdoor", sum := "e81003415e0534a4ff5a0c7cbb0cdfa8b96803ae887b368a5a50ea02025007ff", func := "loop.example/g00905/laws.FnExactEncodeMeta", spec := "fnExactEncodeMeta", named := ["loop.example/g00905/impl.crcNibbles"], plainKeys := false, apart := false, laid := [("loop.example/g00905/impl.crcNibbles", laid_loop_example_g00905_impl_crcNibbles)] }
def FnExactEncodeMetaSaid : Prop := fnExactEncodeMetaRow.holds Tryd.pinned (OpenSpec.ofChange fnExactEncodeMetaSpec)

/-- ITS FALSE NEIGHBOUR: 'it returns false'. Refute it at one input. -/
def fnExactEncodeMetaWrong : ChangeSpec := { name := "fnExactEncodeMeta", vars := ["loop.example/g00905/impl.crcNibbles"], fn := fun _ => fun
  | [d, g1] => { results := [.lit (.bool false)], args := [d], vars := [g1] }
  | _ => none }
def FnExactEncodeMetaWrongFalsely : Prop := fnExactEncodeMetaRow.holds Tryd.pinned (OpenSpec.ofChange fnExactEncodeMetaWrong)

/-- 'laws.FnExactDecodeMeta': WHATEVER THE INPUT: true; the input reads as it did. -/
def fnExactDecodeMetaSpec : ChangeSpec := { name := "fnExactDecodeMeta", vars := ["loop.example/g00905/impl.crcNibbles"], fn := fun _ => fun
  | [d, g1] => { results := [.lit (.bool true)], args := [d], vars := [g1] }
  | _ => none }
def fnExactDecodeMetaRow : OpenClaim := { program := "ytfnccbanmgfkeabdoor", sum := "e81003415e0534a4ff5a0c7cbb0cdfa8b96803ae887b368a5a50ea02025007ff", func := "loop.example/g00905/laws.FnExactDecodeMeta", spec := "fnExactDecodeMeta", unfollowed := true, recurses := true, named := ["loop.example/g00905/impl.crcNibbles"], plainKeys := false, apart := false, laid := [("loop.example/g00905/impl.crcNibbles", laid_loop_example_g00905_impl_crcNibbles)] }
def FnExactDecodeMetaSaid : Prop := fnExactDecodeMetaRow.holds Tryd.pinned (OpenSpec.ofChange fnExactDecodeMetaSpec)

/-- ITS FALSE NEIGHBOUR: 'it returns false'. Refute it at one input. -/
def fnExactDecodeMetaWrong : ChangeSpec := { name := "fnExactDecodeMeta", vars := ["loop.example/g00905/impl.crcNibbles"], fn := fun _ => fun
  | [d, g1] => { results := [.lit (.bool false)], args := [d], vars := [g1] }
  | _ => none }
def FnExactDecodeMetaWrongFalsely : Prop := fnExactDecodeMetaRow.holds Tryd.pinned (OpenSpec.ofChange fnExactDecodeMetaWrong)

/-- 'laws.FnExactEncodeCheckpoint': WHATEVER THE INPUT: true; the input reads as it did. -/
def fnExactEncodeCheckpointSpec : ChangeSpec := { name := "fnExactEncodeCheckpoint", vars := ["loop.example/g00905/impl.crcNibbles"], fn := fun _ => fun
  | [d, g1] => { results := [.lit (.bool true)], args := [d], vars := [g1] }
  | _ => none }
def fnExactEncodeCheckpointRow : OpenClaim := { program := "ytfnccbanmgfkeabdoor", sum := "e81003415e0534a4ff5a0c7cbb0cdfa8b96803ae887b368a5a50ea02025007ff", func := "loop.example/g00905/laws.FnExactEncodeCheckpoint", spec := "fnExactEncodeCheckpoint", inPlace := ["internal/abi.NoEscape"], named := ["loop.example/g00905/impl.crcNibbles"], plainKeys := false, apart := false, laid := [("loop.example/g00905/impl.crcNibbles", laid_loop_example_g00905_impl_crcNibbles)] }
def FnExactEncodeCheckpointSaid : Prop := fnExactEncodeCheckpointRow.holds Tryd.pinned (OpenSpec.ofChange fnExactEncodeCheckpointSpec)

/-- ITS FALSE NEIGHBOUR: 'it returns false'. Refute it at one input. -/
def fnExactEncodeCheckpointWrong : ChangeSpec := { name := "fnExactEncodeCheckpoint", vars := ["loop.example/g00905/impl.crcNibbles"], fn := fun _ => fun
  | [d, g1] => { results := [.lit (.bool false)], args := [d], vars := [g1] }
  | _ => none }
def FnExactEncodeCheckpointWrongFalsely : Prop := fnExactEncodeCheckpointRow.holds Tryd.pinned (OpenSpec.ofChange fnExactEncodeCheckpointWrong)

/-- 'laws.FnExactDecodeCheckpoint': WHATEVER THE INPUT: true; the input reads as it did. -/
def fnExactDecodeCheckpointSpec : ChangeSpec := { name := "fnExactDecodeCheckpoint", vars := ["loop.example/g00905/impl.crcNibbles"], fn := fun _ => fun
  | [d, g1] => { results := [.lit (.bool true)], args := [d], vars := [g1] }
  | _ => none }
def fnExactDecodeCheckpointRow : OpenClaim := { program := "ytfnccbanmgfkeabdoor", sum := "e81003415e0534a4ff5a0c7cbb0cdfa8b96803ae887b368a5a50ea02025007ff", func := "loop.example/g00905/laws.FnExactDecodeCheckpoint", spec := "fnExactDecodeCheckpoint", inPlace := ["internal/abi.NoEscape"], named := ["loop.example/g00905/impl.crcNibbles"], plainKeys := false, apart := false, laid := [("loop.example/g00905/impl.crcNibbles", laid_loop_example_g00905_impl_crcNibbles)] }
def FnExactDecodeCheckpointSaid : Prop := fnExactDecodeCheckpointRow.holds Tryd.pinned (OpenSpec.ofChange fnExactDecodeCheckpointSpec)

/-- ITS FALSE NEIGHBOUR: 'it returns false'. Refute it at one input. -/
def fnExactDecodeCheckpointWrong : ChangeSpec := { name := "fnExactDecodeCheckpoint", vars := ["loop.example/g00905/impl.crcNibbles"], fn := fun _ => fun
  | [d, g1] => { results := [.lit (.bool false)], args := [d], vars := [g1] }
  | _ => none }
def FnExactDecodeCheckpointWrongFalsely : Prop := fnExactDecodeCheckpointRow.holds Tryd.pinned (OpenSpec.ofChange fnExactDecodeCheckpointWrong)

/-- 'laws.FnMeta': WHATEVER THE INPUT: true; the input reads as it did. -/
def fnMetaSpec : ChangeSpec := { name := "fnMeta", vars := ["loop.example/g00905/impl.crcNibbles"], fn := fun _ => fun
  | [d1, d2, g1] => { results := [.lit (.bool true)], args := [d1, d2], vars := [g1] }
  | _ => none }
def fnMetaRow : OpenClaim := { program := "ytfnccbanmgfkeabdoor", sum := "e81003415e0534a4ff5a0c7cbb0cdfa8b96803ae887b368a5a50ea02025007ff", func := "loop.example/g00905/laws.FnMeta", spec := "fnMeta", unfollowed := true, recurses := true, named := ["loop.example/g00905/impl.crcNibbles"], plainKeys := false, apart := false, laid := [("loop.example/g00905/impl.crcNibbles", laid_loop_example_g00905_impl_crcNibbles)] }
def FnMetaSaid : Prop := fnMetaRow.holds Tryd.pinned (OpenSpec.ofChange fnMetaSpec)

/-- ITS FALSE NEIGHBOUR: 'it returns false'. Refute it at one input. -/
def fnMetaWrong : ChangeSpec := { name := "fnMeta", vars := ["loop.example/g00905/impl.crcNibbles"], fn := fun _ => fun
  | [d1, d2, g1] => { results := [.lit (.bool false)], args := [d1, d2], vars := [g1] }
  | _ => none }
def FnMetaWrongFalsely : Prop := fnMetaRow.holds Tryd.pinned (OpenSpec.ofChange fnMetaWrong)

/-- 'laws.FnCheckpoint': WHATEVER THE INPUT: true; the input reads as it did. -/
def fnCheckpointSpec : ChangeSpec := { name := "fnCheckpoint", vars := ["loop.example/g00905/impl.crcNibbles"], fn := fun _ => fun
  | [d, g1] => { results := [.lit (.bool true)], args := [d], vars := [g1] }
  | _ => none }
def fnCheckpointRow : OpenClaim := { program := "ytfnccbanmgfkeabdoor", sum := "e81003415e0534a4ff5a0c7cbb0cdfa8b96803ae887b368a5a50ea02025007ff", func := "loop.example/g00905/laws.FnCheckpoint", spec := "fnCheckpoint", inPlace := ["internal/abi.NoEscape"], named := ["loop.example/g00905/impl.crcNibbles"], plainKeys := false, apart := false, laid := [("loop.example/g00905/impl.crcNibbles", laid_loop_example_g00905_impl_crcNibbles)] }
def FnCheckpointSaid : Prop := fnCheckpointRow.holds Tryd.pinned (OpenSpec.ofChange fnCheckpointSpec)

/-- ITS FALSE NEIGHBOUR: 'it returns false'. Refute it at one input. -/
def fnCheckpointWrong : ChangeSpec := { name := "fnCheckpoint", vars := ["loop.example/g00905/impl.crcNibbles"], fn := fun _ => fun
  | [d, g1] => { results := [.lit (.bool false)], args := [d], vars := [g1] }
  | _ => none }
def FnCheckpointWrongFalsely : Prop := fnCheckpointRow.holds Tryd.pinned (OpenSpec.ofChange fnCheckpointWrong)

/- THE SECOND FORM. 'bulk': how many values and letters a reading holds, each counted each time it is reached (what is shared counts as often as it is met; a slice's spare places count too). A statement '..UptoSaid' is the law's where the arguments, and the package variables that the reading takes, are together of bulk at most 1048576: NARROWER than '..Said'. Prove '..Said' where nothing that the law and all that it calls make is longer than what came in: it says more and counts as full. Else prove '..UptoSaid'. A law counts once. -/
mutual
def uptoBulk {H : Type} : DataW H → Nat
  | .lit (.string bytes) => bytes.length + 1
  | .lit _ => 1
  | .nil => 1
  | .ptr d => uptoBulk d + 1
  | .slice elems spare => uptoBulkAll elems + uptoBulkAll spare + 1
  | .agg parts => uptoBulkAll parts + 1
  | .iface _ d => uptoBulk d + 1
  | .map entries => uptoBulkEntries entries + 1
  | .held _ => 1
def uptoBulkAll {H : Type} : List (DataW H) → Nat
  | [] => 0
  | d :: r => uptoBulk d + uptoBulkAll r
def uptoBulkEntries {H : Type} : List (Lit × DataW H) → Nat
  | [] => 0
  | x :: r => uptoBulkEntry x + uptoBulkEntries r
def uptoBulkEntry {H : Type} : Lit × DataW H → Nat
  | (.string bytes, d) => bytes.length + uptoBulk d + 1
  | (_, d) => uptoBulk d + 1
 end
def uptoSmall : (H : Type) → List (DataW H) → Bool := fun _ ds => decide (uptoBulkAll ds ≤ 1048576)
def OpenSpec.upto (s : _root_.Go.ChangeSpec) : _root_.Go.OpenSpec := { _root_.Go.OpenSpec.ofChange s with cond := some uptoSmall }

/-- 'laws.FnExactEncodeMeta', WHERE WHAT IT READS IS OF BULK AT MOST 1048576: true; the input reads as it did. -/
def fnExactEncodeMetaUptoRow : OpenClaim := { program := "ytfnccbanmgfkeabdoor", sum := "e81003415e0534a4ff5a0c7cbb0cdfa8b96803ae887b368a5a50ea02025007ff", func := "loop.example/g00905/laws.FnExactEncodeMeta", spec := "fnExactEncodeMeta", named := ["loop.example/g00905/impl.crcNibbles"], plainKeys := false, apart := false, laid := [("loop.example/g00905/impl.crcNibbles", laid_loop_example_g00905_impl_crcNibbles)], narrowed := true }
def FnExactEncodeMetaUptoSaid : Prop := fnExactEncodeMetaUptoRow.holds Tryd.pinned (OpenSpec.upto fnExactEncodeMetaSpec)

/-- 'laws.FnExactDecodeMeta', WHERE WHAT IT READS IS OF BULK AT MOST 1048576: true; the input reads as it did. -/
def fnExactDecodeMetaUptoRow : OpenClaim := { program := "ytfnccbanmgfkeabdoor", sum := "e81003415e0534a4ff5a0c7cbb0cdfa8b96803ae887b368a5a50ea02025007ff", func := "loop.example/g00905/laws.FnExactDecodeMeta", spec := "fnExactDecodeMeta", unfollowed := true, recurses := true, named := ["loop.example/g00905/impl.crcNibbles"], plainKeys := false, apart := false, laid := [("loop.example/g00905/impl.crcNibbles", laid_loop_example_g00905_impl_crcNibbles)], narrowed := true }
def FnExactDecodeMetaUptoSaid : Prop := fnExactDecodeMetaUptoRow.holds Tryd.pinned (OpenSpec.upto fnExactDecodeMetaSpec)

/-- 'laws.FnExactEncodeCheckpoint', WHERE WHAT IT READS IS OF BULK AT MOST 1048576: true; the input reads as it did. -/
def fnExactEncodeCheckpointUptoRow : OpenClaim := { program := "ytfnccbanmgfkeabdoor", sum := "e81003415e0534a4ff5a0c7cbb0cdfa8b96803ae887b368a5a50ea02025007ff", func := "loop.example/g00905/laws.FnExactEncodeCheckpoint", spec := "fnExactEncodeCheckpoint", inPlace := ["internal/abi.NoEscape"], named := ["loop.example/g00905/impl.crcNibbles"], plainKeys := false, apart := false, laid := [("loop.example/g00905/impl.crcNibbles", laid_loop_example_g00905_impl_crcNibbles)], narrowed := true }
def FnExactEncodeCheckpointUptoSaid : Prop := fnExactEncodeCheckpointUptoRow.holds Tryd.pinned (OpenSpec.upto fnExactEncodeCheckpointSpec)

/-- 'laws.FnExactDecodeCheckpoint', WHERE WHAT IT READS IS OF BULK AT MOST 1048576: true; the input reads as it did. -/
def fnExactDecodeCheckpointUptoRow : OpenClaim := { program := "ytfnccbanmgfkeabdoor", sum := "e81003415e0534a4ff5a0c7cbb0cdfa8b96803ae887b368a5a50ea02025007ff", func := "loop.example/g00905/laws.FnExactDecodeCheckpoint", spec := "fnExactDecodeCheckpoint", inPlace := ["internal/abi.NoEscape"], named := ["loop.example/g00905/impl.crcNibbles"], plainKeys := false, apart := false, laid := [("loop.example/g00905/impl.crcNibbles", laid_loop_example_g00905_impl_crcNibbles)], narrowed := true }
def FnExactDecodeCheckpointUptoSaid : Prop := fnExactDecodeCheckpointUptoRow.holds Tryd.pinned (OpenSpec.upto fnExactDecodeCheckpointSpec)

/-- 'laws.FnMeta', WHERE WHAT IT READS IS OF BULK AT MOST 1048576: true; the input reads as it did. -/
def fnMetaUptoRow : OpenClaim := { program := "ytfnccbanmgfkeabdoor", sum := "e81003415e0534a4ff5a0c7cbb0cdfa8b96803ae887b368a5a50ea02025007ff", func := "loop.example/g00905/laws.FnMeta", spec := "fnMeta", unfollowed := true, recurses := true, named := ["loop.example/g00905/impl.crcNibbles"], plainKeys := false, apart := false, laid := [("loop.example/g00905/impl.crcNibbles", laid_loop_example_g00905_impl_crcNibbles)], narrowed := true }
def FnMetaUptoSaid : Prop := fnMetaUptoRow.holds Tryd.pinned (OpenSpec.upto fnMetaSpec)

/-- 'laws.FnCheckpoint', WHERE WHAT IT READS IS OF BULK AT MOST 1048576: true; the input reads as it did. -/
def fnCheckpointUptoRow : OpenClaim := { program := "ytfnccbanmgfkeabdoor", sum := "e81003415e0534a4ff5a0c7cbb0cdfa8b96803ae887b368a5a50ea02025007ff", func := "loop.example/g00905/laws.FnCheckpoint", spec := "fnCheckpoint", inPlace := ["internal/abi.NoEscape"], named := ["loop.example/g00905/impl.crcNibbles"], plainKeys := false, apart := false, laid := [("loop.example/g00905/impl.crcNibbles", laid_loop_example_g00905_impl_crcNibbles)], narrowed := true }
def FnCheckpointUptoSaid : Prop := fnCheckpointUptoRow.holds Tryd.pinned (OpenSpec.upto fnCheckpointSpec)

end Rows
end Go.Proofs.YtfnccbanmgfkeabDoor
