/-
  NARROWER THAN 'FOR EVERY INPUT', by the rows' own cells (each row's printed sentence says how): FnTornProgram: laid.
  DERIVED. THE GIVEN ROWS OF THIS SEAT. 1 by the template 'for every input the law returns true; each argument reads behind the call as it read before'; 0 by the template 'total and deterministic' (their statements: YthenilomgbnpeaaGreatDoorTotals.lean).
  GIVEN WITH THE SEED: the statements are not yours to turn. If you find one false, say at which input.
  Laid BY PROGRAM, IN A SANDBOX (cutbox-rows.mjs): the forced cells as the released guide's own fill.sh prints them over the translation 43a8d678fdf9f4bb… (all of the seat's roots in one cut). By AI agents, Wed Nov 11 2026. No macro, syntax, notation, axiom, sorry.
-/
import Derived.Test.YthenilomgbnpeaaGreatDoorChecked
import GoSem.Claim
import GoSem.ClaimJoined
import GoSem.ClaimMapViews
import Derived.JoinedTies
import Derived.KernelRfl
namespace Go.Proofs.YthenilomgbnpeaaGreatDoor
/- THE CELL 'sum', in the pinned program and in every row, IS THE sha256 OF THE DUMP (.gsa) THAT YthenilomgbnpeaaGreatDoorProg.lean LOADS. Nothing in Lean hashes anything: it is a label: what it is worth is what the hold of that sum in a sandbox is worth. -/
noncomputable def Tryz.pinned : Pinned := { name := "ythenilomgbnpeaagreatdoor", sum := "43a8d678fdf9f4bbd48d78d2d5fd8efe66193b24c625c02220c0b2bcd5d082d5", checked := Tryz.checked }
namespace Rows
def none {H : Type} : Left H := { results := [], args := [] }

/- WHAT THE LISTED PACKAGE-LEVEL VARIABLES READ AS WHEN THE CALL BEGINS. Each datum BY PROGRAM (the guide's laid-datum.mjs) off the statement by which the dump's own 'gosem.cut.vars' lays the variable. In a bare row this is a premise. The card (YthenilomgbnpeaaGreatDoorCards.lean) ties it to the program's text. -/
def laid_loop_example_g00905_impl_positionMasks {H : Type} : DataW H := .agg [.lit (.int .u64 12345867778520690011), .lit (.int .u64 14815041334224828013), .lit (.int .u64 17429460393205680014), .lit (.int .u64 143554428622604272), .lit (.int .u64 144112989119707136), .lit (.int .u64 144115188008747008), .lit (.int .u64 18302628885633695744)]

/-- 'laws.FnTornProgram': WHATEVER THE INPUT: true; the input reads as it did. -/
def fnTornProgramSpec : ChangeSpec := { name := "fnTornProgram", vars := ["loop.example/g00905/impl.positionMasks"], fn := fun _ => fun
  | [d1, d2, g1] => { results := [.lit (.bool true)], args := [d1, d2], vars := [g1] }
  | _ => none }
def fnTornProgramRow : OpenClaim := { program := "ythenilomgbnpeaagreatdoor", sum := "43a8d678fdf9f4bbd48d78d2d5fd8efe66193b24c625c02220c0b2bcd5d082d5", func := "loop.example/g00905/laws.FnTornProgram", spec := "fnTornProgram", inPlace := ["internal/abi.NoEscape", "internal/bytealg.MakeNoZero"], named := ["loop.example/g00905/impl.positionMasks"], apart := false, laid := [("loop.example/g00905/impl.positionMasks", laid_loop_example_g00905_impl_positionMasks)] }
def FnTornProgramSaid : Prop := fnTornProgramRow.holds Tryz.pinned (OpenSpec.ofChange fnTornProgramSpec)

/-- ITS FALSE NEIGHBOUR: 'it returns false'. Refute it at one input. -/
def fnTornProgramWrong : ChangeSpec := { name := "fnTornProgram", vars := ["loop.example/g00905/impl.positionMasks"], fn := fun _ => fun
  | [d1, d2, g1] => { results := [.lit (.bool false)], args := [d1, d2], vars := [g1] }
  | _ => none }
def FnTornProgramWrongFalsely : Prop := fnTornProgramRow.holds Tryz.pinned (OpenSpec.ofChange fnTornProgramWrong)

/- THE SECOND FORM. 'bulk': how many values and letters a reading holds, each counted each time it is reached (what is shared counts as often as it is met; a slice's spare places count too). A statement '..UptoSaid' is the law's where the arguments, and the package variables that the reading takes, are together of bulk at most 1048576: NARROWER than '..Said'. Prove '..Said' where nothing that the law and all that it calls make is longer than what came in: it says more and counts as full. Else prove '..UptoSaid'. A law counts once. -/
mutual
def uptoBulk {H : Type} : DataW H → Nat
  | .lit (.string bytes) => bytes.length + 1
  | .lit _ => 1
  | .nil => 1
  | .ptr d => uptoBulk d + 1
  | .slice elems spare => uptoBulkAll elems + uptoBulkAll spare + 1
  | .agg parts => uptoBulkAll parts + 1
  | .iface _ d => uptoBulk d + 1
  | .map entries => uptoBulkEntries entries + 1
  | .held _ => 1
def uptoBulkAll {H : Type} : List (DataW H) → Nat
  | [] => 0
  | d :: r => uptoBulk d + uptoBulkAll r
def uptoBulkEntries {H : Type} : List (Lit × DataW H) → Nat
  | [] => 0
  | x :: r => uptoBulkEntry x + uptoBulkEntries r
def uptoBulkEntry {H : Type} : Lit × DataW H → Nat
  | (.string bytes, d) => bytes.length + uptoBulk d + 1
  | (_, d) => uptoBulk d + 1
 end
def uptoSmall : (H : Type) → List (DataW H) → Bool := fun _ ds => decide (uptoBulkAll ds ≤ 1048576)
def OpenSpec.upto (s : _root_.Go.ChangeSpec) : _root_.Go.OpenSpec := { _root_.Go.OpenSpec.ofChange s with cond := some uptoSmall }

/-- 'laws.FnTornProgram', WHERE WHAT IT READS IS OF BULK AT MOST 1048576: true; the input reads as it did. -/
def fnTornProgramUptoRow : OpenClaim := { program := "ythenilomgbnpeaagreatdoor", sum := "43a8d678fdf9f4bbd48d78d2d5fd8efe66193b24c625c02220c0b2bcd5d082d5", func := "loop.example/g00905/laws.FnTornProgram", spec := "fnTornProgram", inPlace := ["internal/abi.NoEscape", "internal/bytealg.MakeNoZero"], named := ["loop.example/g00905/impl.positionMasks"], apart := false, laid := [("loop.example/g00905/impl.positionMasks", laid_loop_example_g00905_impl_positionMasks)], narrowed := true }
def FnTornProgramUptoSaid : Prop := fnTornProgramUptoRow.holds Tryz.pinned (OpenSpec.upto fnTornProgramSpec)

end Rows
end Go.Proofs.YthenilomgbnpeaaGreatDoor
