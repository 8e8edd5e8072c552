/-
  NARROWER THAN 'FOR EVERY INPUT', by the rows' own cells (each row's printed sentence says how): FnCrc: laid · FnEccOne: laid · FnEccTwo: laid · FnErasures: laid · FnWords: laid.
  DERIVED. THE GIVEN ROWS OF THIS SEAT. 5 by the template 'for every input the law returns true; each argument reads behind the call as it read before'; 0 by the template 'total and deterministic' (their statements: YtegjppihopncoaaDoorTotals.lean).
  GIVEN WITH THE SEED: the statements are not yours to turn. If you find one false, say at which input.
  Laid BY PROGRAM, IN A SANDBOX (cutbox-rows.mjs): the forced cells as the released guide's own fill.sh prints them over the translation 7662f03db408fc08… (all of the seat's roots in one cut). By AI agents, Wed Nov 11 2026. No macro, syntax, notation, axiom, sorry.
-/
import Derived.Test.YtegjppihopncoaaDoorChecked
import GoSem.Claim
import GoSem.ClaimJoined
import GoSem.ClaimMapViews
import Derived.JoinedTies
import Derived.KernelRfl
namespace Go.Proofs.YtegjppihopncoaaDoor
/- THE CELL 'sum', in the pinned program and in every row, IS THE sha256 OF THE DUMP (.gsa) THAT YtegjppihopncoaaDoorProg.lean LOADS. Nothing in Lean hashes anything: it is a label: what it is worth is what the hold of that sum in a sandbox is worth. -/
noncomputable def Tryd.pinned : Pinned := { name := "ytegjppihopncoaadoor", sum := "7662f03db408fc08ad1a38ef3a9ad0d4145c623ec69ccd4236dfdb236b3a9f38", checked := Tryd.checked }
namespace Rows
def none {H : Type} : Left H := { results := [], args := [] }

/- WHAT THE LISTED PACKAGE-LEVEL VARIABLES READ AS WHEN THE CALL BEGINS. Each datum BY PROGRAM (the guide's laid-datum.mjs) off the statement by which the dump's own 'gosem.cut.vars' lays the variable. In a bare row this is a premise. The card (YtegjppihopncoaaDoorCards.lean) ties it to the program's text. -/
def laid_loop_example_g00905_impl_crcNibbles {H : Type} : DataW H := .agg [.lit (.int .u32 0), .lit (.int .u32 498536548), .lit (.int .u32 997073096), .lit (.int .u32 651767980), .lit (.int .u32 1994146192), .lit (.int .u32 1802195444), .lit (.int .u32 1303535960), .lit (.int .u32 1342533948), .lit (.int .u32 3988292384), .lit (.int .u32 4027552580), .lit (.int .u32 3604390888), .lit (.int .u32 3412177804), .lit (.int .u32 2607071920), .lit (.int .u32 2262029012), .lit (.int .u32 2685067896), .lit (.int .u32 3183342108)]
def laid_loop_example_g00905_impl_positionMasks {H : Type} : DataW H := .agg [.lit (.int .u64 12345867778520690011), .lit (.int .u64 14815041334224828013), .lit (.int .u64 17429460393205680014), .lit (.int .u64 143554428622604272), .lit (.int .u64 144112989119707136), .lit (.int .u64 144115188008747008), .lit (.int .u64 18302628885633695744)]

/-- 'laws.FnCrc': WHATEVER THE INPUT: true; the input reads as it did. -/
def fnCrcSpec : ChangeSpec := { name := "fnCrc", vars := ["loop.example/g00905/impl.crcNibbles"], fn := fun _ => fun
  | [d1, d2, g1] => { results := [.lit (.bool true)], args := [d1, d2], vars := [g1] }
  | _ => none }
def fnCrcRow : OpenClaim := { program := "ytegjppihopncoaadoor", sum := "7662f03db408fc08ad1a38ef3a9ad0d4145c623ec69ccd4236dfdb236b3a9f38", func := "loop.example/g00905/laws.FnCrc", spec := "fnCrc", named := ["loop.example/g00905/impl.crcNibbles"], apart := false, laid := [("loop.example/g00905/impl.crcNibbles", laid_loop_example_g00905_impl_crcNibbles)] }
def FnCrcSaid : Prop := fnCrcRow.holds Tryd.pinned (OpenSpec.ofChange fnCrcSpec)

/-- ITS FALSE NEIGHBOUR: 'it returns false'. Refute it at one input. -/
def fnCrcWrong : ChangeSpec := { name := "fnCrc", vars := ["loop.example/g00905/impl.crcNibbles"], fn := fun _ => fun
  | [d1, d2, g1] => { results := [.lit (.bool false)], args := [d1, d2], vars := [g1] }
  | _ => none }
def FnCrcWrongFalsely : Prop := fnCrcRow.holds Tryd.pinned (OpenSpec.ofChange fnCrcWrong)

/-- 'laws.FnEccOne': WHATEVER THE INPUT: true; the input reads as it did. -/
def fnEccOneSpec : ChangeSpec := { name := "fnEccOne", vars := ["loop.example/g00905/impl.positionMasks"], fn := fun _ => fun
  | [d1, d2, g1] => { results := [.lit (.bool true)], args := [d1, d2], vars := [g1] }
  | _ => none }
def fnEccOneRow : OpenClaim := { program := "ytegjppihopncoaadoor", sum := "7662f03db408fc08ad1a38ef3a9ad0d4145c623ec69ccd4236dfdb236b3a9f38", func := "loop.example/g00905/laws.FnEccOne", spec := "fnEccOne", named := ["loop.example/g00905/impl.positionMasks"], apart := false, laid := [("loop.example/g00905/impl.positionMasks", laid_loop_example_g00905_impl_positionMasks)] }
def FnEccOneSaid : Prop := fnEccOneRow.holds Tryd.pinned (OpenSpec.ofChange fnEccOneSpec)

/-- ITS FALSE NEIGHBOUR: 'it returns false'. Refute it at one input. -/
def fnEccOneWrong : ChangeSpec := { name := "fnEccOne", vars := ["loop.example/g00905/impl.positionMasks"], fn := fun _ => fun
  | [d1, d2, g1] => { results := [.lit (.bool false)], args := [d1, d2], vars := [g1] }
  | _ => none }
def FnEccOneWrongFalsely : Prop := fnEccOneRow.holds Tryd.pinned (OpenSpec.ofChange fnEccOneWrong)

/-- 'laws.FnEccTwo': WHATEVER THE INPUT: true; the input reads as it did. -/
def fnEccTwoSpec : ChangeSpec := { name := "fnEccTwo", vars := ["loop.example/g00905/impl.positionMasks"], fn := fun _ => fun
  | [d1, d2, g1] => { results := [.lit (.bool true)], args := [d1, d2], vars := [g1] }
  | _ => none }
def fnEccTwoRow : OpenClaim := { program := "ytegjppihopncoaadoor", sum := "7662f03db408fc08ad1a38ef3a9ad0d4145c623ec69ccd4236dfdb236b3a9f38", func := "loop.example/g00905/laws.FnEccTwo", spec := "fnEccTwo", named := ["loop.example/g00905/impl.positionMasks"], apart := false, laid := [("loop.example/g00905/impl.positionMasks", laid_loop_example_g00905_impl_positionMasks)] }
def FnEccTwoSaid : Prop := fnEccTwoRow.holds Tryd.pinned (OpenSpec.ofChange fnEccTwoSpec)

/-- ITS FALSE NEIGHBOUR: 'it returns false'. Refute it at one input. -/
def fnEccTwoWrong : ChangeSpec := { name := "fnEccTwo", vars := ["loop.example/g00905/impl.positionMasks"], fn := fun _ => fun
  | [d1, d2, g1] => { results := [.lit (.bool false)], args := [d1, d2], vars := [g1] }
  | _ => none }
def FnEccTwoWrongFalsely : Prop := fnEccTwoRow.holds Tryd.pinned (OpenSpec.ofChange fnEccTwoWrong)

/-- 'laws.FnErasures': WHATEVER THE INPUT: true; the input reads as it did. -/
def fnErasuresSpec : ChangeSpec := { name := "fnErasures", vars := ["loop.example/g00905/impl.positionMasks"], fn := fun _ => fun
  | [d1, d2, g1] => { results := [.lit (.bool true)], args := [d1, d2], vars := [g1] }
  | _ => none }
def fnErasuresRow : OpenClaim := { program := "ytegjppihopncoaadoor", sum := "7662f03db408fc08ad1a38ef3a9ad0d4145c623ec69ccd4236dfdb236b3a9f38", func := "loop.example/g00905/laws.FnErasures", spec := "fnErasures", named := ["loop.example/g00905/impl.positionMasks"], apart := false, laid := [("loop.example/g00905/impl.positionMasks", laid_loop_example_g00905_impl_positionMasks)] }
def FnErasuresSaid : Prop := fnErasuresRow.holds Tryd.pinned (OpenSpec.ofChange fnErasuresSpec)

/-- ITS FALSE NEIGHBOUR: 'it returns false'. Refute it at one input. -/
def fnErasuresWrong : ChangeSpec := { name := "fnErasures", vars := ["loop.example/g00905/impl.positionMasks"], fn := fun _ => fun
  | [d1, d2, g1] => { results := [.lit (.bool false)], args := [d1, d2], vars := [g1] }
  | _ => none }
def FnErasuresWrongFalsely : Prop := fnErasuresRow.holds Tryd.pinned (OpenSpec.ofChange fnErasuresWrong)

/-- 'laws.FnWords': WHATEVER THE INPUT: true; the input reads as it did. -/
def fnWordsSpec : ChangeSpec := { name := "fnWords", vars := ["loop.example/g00905/impl.positionMasks"], fn := fun _ => fun
  | [d1, d2, g1] => { results := [.lit (.bool true)], args := [d1, d2], vars := [g1] }
  | _ => none }
def fnWordsRow : OpenClaim := { program := "ytegjppihopncoaadoor", sum := "7662f03db408fc08ad1a38ef3a9ad0d4145c623ec69ccd4236dfdb236b3a9f38", func := "loop.example/g00905/laws.FnWords", spec := "fnWords", named := ["loop.example/g00905/impl.positionMasks"], apart := false, laid := [("loop.example/g00905/impl.positionMasks", laid_loop_example_g00905_impl_positionMasks)] }
def FnWordsSaid : Prop := fnWordsRow.holds Tryd.pinned (OpenSpec.ofChange fnWordsSpec)

/-- ITS FALSE NEIGHBOUR: 'it returns false'. Refute it at one input. -/
def fnWordsWrong : ChangeSpec := { name := "fnWords", vars := ["loop.example/g00905/impl.positionMasks"], fn := fun _ => fun
  | [d1, d2, g1] => { results := [.lit (.bool false)], args := [d1, d2], vars := [g1] }
  | _ => none }
def FnWordsWrongFalsely : Prop := fnWordsRow.holds Tryd.pinned (OpenSpec.ofChange fnWordsWrong)

/- THE SECOND FORM. 'bulk': how many values and letters a reading holds, each counted each time it is reached (what is shared counts as often as it is met; a slice's spare places count too). A statement '..UptoSaid' is the law's where the arguments, and the package variables that the reading takes, are together of bulk at most 1048576: NARROWER than '..Said'. Prove '..Said' where nothing that the law and all that it calls make is longer than what came in: it says more and counts as full. Else prove '..UptoSaid'. A law counts once. -/
mutual
def uptoBulk {H : Type} : DataW H → Nat
  | .lit (.string bytes) => bytes.length + 1
  | .lit _ => 1
  | .nil => 1
  | .ptr d => uptoBulk d + 1
  | .slice elems spare => uptoBulkAll elems + uptoBulkAll spare + 1
  | .agg parts => uptoBulkAll parts + 1
  | .iface _ d => uptoBulk d + 1
  | .map entries => uptoBulkEntries entries + 1
  | .held _ => 1
def uptoBulkAll {H : Type} : List (DataW H) → Nat
  | [] => 0
  | d :: r => uptoBulk d + uptoBulkAll r
def uptoBulkEntries {H : Type} : List (Lit × DataW H) → Nat
  | [] => 0
  | x :: r => uptoBulkEntry x + uptoBulkEntries r
def uptoBulkEntry {H : Type} : Lit × DataW H → Nat
  | (.string bytes, d) => bytes.length + uptoBulk d + 1
  | (_, d) => uptoBulk d + 1
 end
def uptoSmall : (H : Type) → List (DataW H) → Bool := fun _ ds => decide (uptoBulkAll ds ≤ 1048576)
def OpenSpec.upto (s : _root_.Go.ChangeSpec) : _root_.Go.OpenSpec := { _root_.Go.OpenSpec.ofChange s with cond := some uptoSmall }

/-- 'laws.FnCrc', WHERE WHAT IT READS IS OF BULK AT MOST 1048576: true; the input reads as it did. -/
def fnCrcUptoRow : OpenClaim := { program := "ytegjppihopncoaadoor", sum := "7662f03db408fc08ad1a38ef3a9ad0d4145c623ec69ccd4236dfdb236b3a9f38", func := "loop.example/g00905/laws.FnCrc", spec := "fnCrc", named := ["loop.example/g00905/impl.crcNibbles"], apart := false, laid := [("loop.example/g00905/impl.crcNibbles", laid_loop_example_g00905_impl_crcNibbles)], narrowed := true }
def FnCrcUptoSaid : Prop := fnCrcUptoRow.holds Tryd.pinned (OpenSpec.upto fnCrcSpec)

/-- 'laws.FnEccOne', WHERE WHAT IT READS IS OF BULK AT MOST 1048576: true; the input reads as it did. -/
def fnEccOneUptoRow : OpenClaim := { program := "ytegjppihopncoaadoor", sum := "7662f03db408fc08ad1a38ef3a9ad0d4145c623ec69ccd4236dfdb236b3a9f38", func := "loop.example/g00905/laws.FnEccOne", spec := "fnEccOne", named := ["loop.example/g00905/impl.positionMasks"], apart := false, laid := [("loop.example/g00905/impl.positionMasks", laid_loop_example_g00905_impl_positionMasks)], narrowed := true }
def FnEccOneUptoSaid : Prop := fnEccOneUptoRow.holds Tryd.pinned (OpenSpec.upto fnEccOneSpec)

/-- 'laws.FnEccTwo', WHERE WHAT IT READS IS OF BULK AT MOST 1048576: true; the input reads as it did. -/
def fnEccTwoUptoRow : OpenClaim := { program := "ytegjppihopncoaadoor", sum := "7662f03db408fc08ad1a38ef3a9ad0d4145c623ec69ccd4236dfdb236b3a9f38", func := "loop.example/g00905/laws.FnEccTwo", spec := "fnEccTwo", named := ["loop.example/g00905/impl.positionMasks"], apart := false, laid := [("loop.example/g00905/impl.positionMasks", laid_loop_example_g00905_impl_positionMasks)], narrowed := true }
def FnEccTwoUptoSaid : Prop := fnEccTwoUptoRow.holds Tryd.pinned (OpenSpec.upto fnEccTwoSpec)

/-- 'laws.FnErasures', WHERE WHAT IT READS IS OF BULK AT MOST 1048576: true; the input reads as it did. -/
def fnErasuresUptoRow : OpenClaim := { program := "ytegjppihopncoaadoor", sum := "7662f03db408fc08ad1a38ef3a9ad0d4145c623ec69ccd4236dfdb236b3a9f38", func := "loop.example/g00905/laws.FnErasures", spec := "fnErasures", named := ["loop.example/g00905/impl.positionMasks"], apart := false, laid := [("loop.example/g00905/impl.positionMasks", laid_loop_example_g00905_impl_positionMasks)], narrowed := true }
def FnErasuresUptoSaid : Prop := fnErasuresUptoRow.holds Tryd.pinned (OpenSpec.upto fnErasuresSpec)

/-- 'laws.FnWords', WHERE WHAT IT READS IS OF BULK AT MOST 1048576: true; the input reads as it did. -/
def fnWordsUptoRow : OpenClaim := { program := "ytegjppihopncoaadoor", sum := "7662f03db408fc08ad1a38ef3a9ad0d4145c623ec69ccd4236dfdb236b3a9f38", func := "loop.example/g00905/laws.FnWords", spec := "fnWords", named := ["loop.example/g00905/impl.positionMasks"], apart := false, laid := [("loop.example/g00905/impl.positionMasks", laid_loop_example_g00905_impl_positionMasks)], narrowed := true }
def FnWordsUptoSaid : Prop := fnWordsUptoRow.holds Tryd.pinned (OpenSpec.upto fnWordsSpec)

end Rows
end Go.Proofs.YtegjppihopncoaaDoor
