/-
  NARROWER THAN 'FOR EVERY INPUT', by the rows' own cells (each row's printed sentence says how): FnExactEncodeHeader: laid · FnExactDecodeHeader: laid · FnHeader: laid.
  DERIVED. THE GIVEN ROWS OF THIS SEAT. 3 by the template 'for every input the law returns true; each argument reads behind the call as it read before'; 0 by the template 'total and deterministic' (their statements: YtnobgapdidpafaaDoorTotals.lean).
  GIVEN WITH THE SEED: the statements are not yours to turn. If you find one false, say at which input.
  Laid BY PROGRAM, IN A SANDBOX (cutbox-rows.mjs): the forced cells as the released guide's own fill.sh prints them over the translation a0c3aef5dae04e84… (all of the seat's roots in one cut). By AI agents, Wed Nov 11 2026. No macro, syntax, notation, axiom, sorry.
-/
import Derived.Test.YtnobgapdidpafaaDoorChecked
import GoSem.Claim
import GoSem.ClaimJoined
import GoSem.ClaimMapViews
import Derived.JoinedTies
import Derived.KernelRfl
namespace Go.Proofs.YtnobgapdidpafaaDoor
/- THE CELL 'sum', in the pinned program and in every row, IS THE sha256 OF THE DUMP (.gsa) THAT YtnobgapdidpafaaDoorProg.lean LOADS. Nothing in Lean hashes anything: it is a label: what it is worth is what the hold of that sum in a sandbox is worth. -/
noncomputable def Tryd.pinned : Pinned := { name := "ytnobgapdidpafaadoor", sum := "a0c3aef5dae04e84ad1918dbd0be6df36c7503ed579d6559e9efdb120f3144f6", checked := Tryd.checked }
namespace Rows
def none {H : Type} : Left H := { results := [], args := [] }

/- WHAT THE LISTED PACKAGE-LEVEL VARIABLES READ AS WHEN THE CALL BEGINS. Each datum BY PROGRAM (the guide's laid-datum.mjs) off the statement by which the dump's own 'gosem.cut.vars' lays the variable. In a bare row this is a premise. The card (YtnobgapdidpafaaDoorCards.lean) ties it to the program's text. -/
def laid_loop_example_g00905_impl_crcNibbles {H : Type} : DataW H := .agg [.lit (.int .u32 0), .lit (.int .u32 498536548), .lit (.int .u32 997073096), .lit (.int .u32 651767980), .lit (.int .u32 1994146192), .lit (.int .u32 1802195444), .lit (.int .u32 1303535960), .lit (.int .u32 1342533948), .lit (.int .u32 3988292384), .lit (.int .u32 4027552580), .lit (.int .u32 3604390888), .lit (.int .u32 3412177804), .lit (.int .u32 2607071920), .lit (.int .u32 2262029012), .lit (.int .u32 2685067896), .lit (.int .u32 3183342108)]

/-- 'laws.FnExactEncodeHeader': WHATEVER THE INPUT: true; the input reads as it did. -/
def fnExactEncodeHeaderSpec : ChangeSpec := { name := "fnExactEncodeHeader", vars := ["loop.example/g00905/impl.crcNibbles"], fn := fun _ => fun
  | [d1, d2, g1] => { results := [.lit (.bool true)], args := [d1, d2], vars := [g1] }
  | _ => none }
def fnExactEncodeHeaderRow : OpenClaim := { program := "ytnobgapdidpafaadoor", sum := "a0c3aef5dae04e84ad1918dbd0be6df36c7503ed579d6559e9efdb120f3144f6", func := "loop.example/g00905/laws.FnExactEncodeHeader", spec := "fnExactEncodeHeader", named := ["loop.example/g00905/impl.crcNibbles"], apart := false, laid := [("loop.example/g00905/impl.crcNibbles", laid_loop_example_g00905_impl_crcNibbles)] }
def FnExactEncodeHeaderSaid : Prop := fnExactEncodeHeaderRow.holds Tryd.pinned (OpenSpec.ofChange fnExactEncodeHeaderSpec)

/-- ITS FALSE NEIGHBOUR: 'it returns false'. Refute it at one input. -/
def fnExactEncodeHeaderWrong : ChangeSpec := { name := "fnExactEncodeHeader", vars := ["loop.example/g00905/impl.crcNibbles"], fn := fun _ => fun
  | [d1, d2, g1] => { results := [.lit (.bool false)], args := [d1, d2], vars := [g1] }
  | _ => none }
def FnExactEncodeHeaderWrongFalsely : Prop := fnExactEncodeHeaderRow.holds Tryd.pinned (OpenSpec.ofChange fnExactEncodeHeaderWrong)

/-- 'laws.FnExactDecodeHeader': WHATEVER THE INPUT: true; the input reads as it did. -/
def fnExactDecodeHeaderSpec : ChangeSpec := { name := "fnExactDecodeHeader", vars := ["loop.example/g00905/impl.crcNibbles"], fn := fun _ => fun
  | [d1, d2, g1] => { results := [.lit (.bool true)], args := [d1, d2], vars := [g1] }
  | _ => none }
def fnExactDecodeHeaderRow : OpenClaim := { program := "ytnobgapdidpafaadoor", sum := "a0c3aef5dae04e84ad1918dbd0be6df36c7503ed579d6559e9efdb120f3144f6", func := "loop.example/g00905/laws.FnExactDecodeHeader", spec := "fnExactDecodeHeader", named := ["loop.example/g00905/impl.crcNibbles"], apart := false, laid := [("loop.example/g00905/impl.crcNibbles", laid_loop_example_g00905_impl_crcNibbles)] }
def FnExactDecodeHeaderSaid : Prop := fnExactDecodeHeaderRow.holds Tryd.pinned (OpenSpec.ofChange fnExactDecodeHeaderSpec)

/-- ITS FALSE NEIGHBOUR: 'it returns false'. Refute it at one input. -/
def fnExactDecodeHeaderWrong : ChangeSpec := { name := "fnExactDecodeHeader", vars := ["loop.example/g00905/impl.crcNibbles"], fn := fun _ => fun
  | [d1, d2, g1] => { results := [.lit (.bool false)], args := [d1, d2], vars := [g1] }
  | _ => none }
def FnExactDecodeHeaderWrongFalsely : Prop := fnExactDecodeHeaderRow.holds Tryd.pinned (OpenSpec.ofChange fnExactDecodeHeaderWrong)

/-- 'laws.FnHeader': WHATEVER THE INPUT: true; the input reads as it did. -/
def fnHeaderSpec : ChangeSpec := { name := "fnHeader", vars := ["loop.example/g00905/impl.crcNibbles"], fn := fun _ => fun
  | [d1, d2, g1] => { results := [.lit (.bool true)], args := [d1, d2], vars := [g1] }
  | _ => none }
def fnHeaderRow : OpenClaim := { program := "ytnobgapdidpafaadoor", sum := "a0c3aef5dae04e84ad1918dbd0be6df36c7503ed579d6559e9efdb120f3144f6", func := "loop.example/g00905/laws.FnHeader", spec := "fnHeader", named := ["loop.example/g00905/impl.crcNibbles"], apart := false, laid := [("loop.example/g00905/impl.crcNibbles", laid_loop_example_g00905_impl_crcNibbles)] }
def FnHeaderSaid : Prop := fnHeaderRow.holds Tryd.pinned (OpenSpec.ofChange fnHeaderSpec)

/-- ITS FALSE NEIGHBOUR: 'it returns false'. Refute it at one input. -/
def fnHeaderWrong : ChangeSpec := { name := "fnHeader", vars := ["loop.example/g00905/impl.crcNibbles"], fn := fun _ => fun
  | [d1, d2, g1] => { results := [.lit (.bool false)], args := [d1, d2], vars := [g1] }
  | _ => none }
def FnHeaderWrongFalsely : Prop := fnHeaderRow.holds Tryd.pinned (OpenSpec.ofChange fnHeaderWrong)

/- THE SECOND FORM. 'bulk': how many values and letters a reading holds, each counted each time it is reached (what is shared counts as often as it is met; a slice's spare places count too). A statement '..UptoSaid' is the law's where the arguments, and the package variables that the reading takes, are together of bulk at most 1048576: NARROWER than '..Said'. Prove '..Said' where nothing that the law and all that it calls make is longer than what came in: it says more and counts as full. Else prove '..UptoSaid'. A law counts once. -/
mutual
def uptoBulk {H : Type} : DataW H → Nat
  | .lit (.string bytes) => bytes.length + 1
  | .lit _ => 1
  | .nil => 1
  | .ptr d => uptoBulk d + 1
  | .slice elems spare => uptoBulkAll elems + uptoBulkAll spare + 1
  | .agg parts => uptoBulkAll parts + 1
  | .iface _ d => uptoBulk d + 1
  | .map entries => uptoBulkEntries entries + 1
  | .held _ => 1
def uptoBulkAll {H : Type} : List (DataW H) → Nat
  | [] => 0
  | d :: r => uptoBulk d + uptoBulkAll r
def uptoBulkEntries {H : Type} : List (Lit × DataW H) → Nat
  | [] => 0
  | x :: r => uptoBulkEntry x + uptoBulkEntries r
def uptoBulkEntry {H : Type} : Lit × DataW H → Nat
  | (.string bytes, d) => bytes.length + uptoBulk d + 1
  | (_, d) => uptoBulk d + 1
 end
def uptoSmall : (H : Type) → List (DataW H) → Bool := fun _ ds => decide (uptoBulkAll ds ≤ 1048576)
def OpenSpec.upto (s : _root_.Go.ChangeSpec) : _root_.Go.OpenSpec := { _root_.Go.OpenSpec.ofChange s with cond := some uptoSmall }

/-- 'laws.FnExactEncodeHeader', WHERE WHAT IT READS IS OF BULK AT MOST 1048576: true; the input reads as it did. -/
def fnExactEncodeHeaderUptoRow : OpenClaim := { program := "ytnobgapdidpafaadoor", sum := "a0c3aef5dae04e84ad1918dbd0be6df36c7503ed579d6559e9efdb120f3144f6", func := "loop.example/g00905/laws.FnExactEncodeHeader", spec := "fnExactEncodeHeader", named := ["loop.example/g00905/impl.crcNibbles"], apart := false, laid := [("loop.example/g00905/impl.crcNibbles", laid_loop_example_g00905_impl_crcNibbles)], narrowed := true }
def FnExactEncodeHeaderUptoSaid : Prop := fnExactEncodeHeaderUptoRow.holds Tryd.pinned (OpenSpec.upto fnExactEncodeHeaderSpec)

/-- 'laws.FnExactDecodeHeader', WHERE WHAT IT READS IS OF BULK AT MOST 1048576: true; the input reads as it did. -/
def fnExactDecodeHeaderUptoRow : OpenClaim := { program := "ytnobgapdidpafaadoor", sum := "a0c3aef5dae04e84ad1918dbd0be6df36c7503ed579d6559e9efdb120f3144f6", func := "loop.example/g00905/laws.FnExactDecodeHeader", spec := "fnExactDecodeHeader", named := ["loop.example/g00905/impl.crcNibbles"], apart := false, laid := [("loop.example/g00905/impl.crcNibbles", laid_loop_example_g00905_impl_crcNibbles)], narrowed := true }
def FnExactDecodeHeaderUptoSaid : Prop := fnExactDecodeHeaderUptoRow.holds Tryd.pinned (OpenSpec.upto fnExactDecodeHeaderSpec)

/-- 'laws.FnHeader', WHERE WHAT IT READS IS OF BULK AT MOST 1048576: true; the input reads as it did. -/
def fnHeaderUptoRow : OpenClaim := { program := "ytnobgapdidpafaadoor", sum := "a0c3aef5dae04e84ad1918dbd0be6df36c7503ed579d6559e9efdb120f3144f6", func := "loop.example/g00905/laws.FnHeader", spec := "fnHeader", named := ["loop.example/g00905/impl.crcNibbles"], apart := false, laid := [("loop.example/g00905/impl.crcNibbles", laid_loop_example_g00905_impl_crcNibbles)], narrowed := true }
def FnHeaderUptoSaid : Prop := fnHeaderUptoRow.holds Tryd.pinned (OpenSpec.upto fnHeaderSpec)

end Rows
end Go.Proofs.YtnobgapdidpafaaDoor
