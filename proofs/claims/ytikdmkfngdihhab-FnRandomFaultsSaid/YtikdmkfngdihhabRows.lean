/-
  No cell of these rows narrows 'for every input' (looked for: loops, veiled, ifaces, maps, wideKeys, modest, calm, conditions, laid).
  DERIVED. THE GIVEN ROWS OF THIS SEAT. 6 by the template 'for every input the law returns true; each argument reads behind the call as it read before'; 0 by the template 'total and deterministic' (their statements: YtikdmkfngdihhabTotals.lean).
  GIVEN WITH THE SEED: the statements are not yours to turn. If you find one false, say at which input.
  Laid BY PROGRAM, IN A SANDBOX (cutbox-rows.mjs): the forced cells as the released guide's own fill.sh prints them over the translation ea625abf3f5b5ed2… (all of the seat's roots in one cut). By AI agents, Wed Nov 11 2026. No macro, syntax, notation, axiom, sorry.
-/
import Derived.Test.YtikdmkfngdihhabChecked
import GoSem.Claim
import GoSem.ClaimJoined
import GoSem.ClaimMapViews
import Derived.JoinedTies
import Derived.KernelRfl
namespace Go.Proofs.Ytikdmkfngdihhab
/- THE CELL 'sum', in the pinned program and in every row, IS THE sha256 OF THE DUMP (.gsa) THAT YtikdmkfngdihhabProg.lean LOADS. Nothing in Lean hashes anything: it is a label: what it is worth is what the hold of that sum in a sandbox is worth. -/
noncomputable def Try.pinned : Pinned := { name := "ytikdmkfngdihhab", sum := "ea625abf3f5b5ed2be33e9b514841c2ae0dbfcb50465a0577dbea8afef0e5232", checked := Try.checked }
namespace Rows
def none {H : Type} : Left H := { results := [], args := [] }

/-- 'laws.FnFaultsTwice': WHATEVER THE INPUT: true; the input reads as it did. -/
def fnFaultsTwiceSpec : ChangeSpec := { name := "fnFaultsTwice", fn := fun _ => fun
  | [d] => { results := [.lit (.bool true)], args := [d] }
  | _ => none }
def fnFaultsTwiceRow : OpenClaim := { program := "ytikdmkfngdihhab", sum := "ea625abf3f5b5ed2be33e9b514841c2ae0dbfcb50465a0577dbea8afef0e5232", func := "loop.example/g00905/laws.FnFaultsTwice", spec := "fnFaultsTwice", unfollowed := true, recurses := true, apart := false }
def FnFaultsTwiceSaid : Prop := fnFaultsTwiceRow.holds Try.pinned (OpenSpec.ofChange fnFaultsTwiceSpec)

/-- ITS FALSE NEIGHBOUR: 'it returns false'. Refute it at one input. -/
def fnFaultsTwiceWrong : ChangeSpec := { name := "fnFaultsTwice", fn := fun _ => fun
  | [d] => { results := [.lit (.bool false)], args := [d] }
  | _ => none }
def FnFaultsTwiceWrongFalsely : Prop := fnFaultsTwiceRow.holds Try.pinned (OpenSpec.ofChange fnFaultsTwiceWrong)

/-- 'laws.FnRandomFaults': WHATEVER THE INPUT: true; the input reads as it did. -/
def fnRandomFaultsSpec : ChangeSpec := { name := "fnRandomFaults", fn := fun _ => fun
  | [d] => { results := [.lit (.bool true)], args := [d] }
  | _ => none }
def fnRandomFaultsRow : OpenClaim := { program := "ytikdmkfngdihhab", sum := "ea625abf3f5b5ed2be33e9b514841c2ae0dbfcb50465a0577dbea8afef0e5232", func := "loop.example/g00905/laws.FnRandomFaults", spec := "fnRandomFaults", unfollowed := true, recurses := true, apart := false }
def FnRandomFaultsSaid : Prop := fnRandomFaultsRow.holds Try.pinned (OpenSpec.ofChange fnRandomFaultsSpec)

/-- ITS FALSE NEIGHBOUR: 'it returns false'. Refute it at one input. -/
def fnRandomFaultsWrong : ChangeSpec := { name := "fnRandomFaults", fn := fun _ => fun
  | [d] => { results := [.lit (.bool false)], args := [d] }
  | _ => none }
def FnRandomFaultsWrongFalsely : Prop := fnRandomFaultsRow.holds Try.pinned (OpenSpec.ofChange fnRandomFaultsWrong)

/-- 'laws.FnExactValidBadTable': WHATEVER THE INPUT: true; the input reads as it did. -/
def fnExactValidBadTableSpec : ChangeSpec := { name := "fnExactValidBadTable", fn := fun _ => fun
  | [d] => { results := [.lit (.bool true)], args := [d] }
  | _ => none }
def fnExactValidBadTableRow : OpenClaim := { program := "ytikdmkfngdihhab", sum := "ea625abf3f5b5ed2be33e9b514841c2ae0dbfcb50465a0577dbea8afef0e5232", func := "loop.example/g00905/laws.FnExactValidBadTable", spec := "fnExactValidBadTable", apart := false }
def FnExactValidBadTableSaid : Prop := fnExactValidBadTableRow.holds Try.pinned (OpenSpec.ofChange fnExactValidBadTableSpec)

/-- ITS FALSE NEIGHBOUR: 'it returns false'. Refute it at one input. -/
def fnExactValidBadTableWrong : ChangeSpec := { name := "fnExactValidBadTable", fn := fun _ => fun
  | [d] => { results := [.lit (.bool false)], args := [d] }
  | _ => none }
def FnExactValidBadTableWrongFalsely : Prop := fnExactValidBadTableRow.holds Try.pinned (OpenSpec.ofChange fnExactValidBadTableWrong)

/-- 'laws.FnExactSameBadTable': WHATEVER THE INPUT: true; the input reads as it did. -/
def fnExactSameBadTableSpec : ChangeSpec := { name := "fnExactSameBadTable", fn := fun _ => fun
  | [d1, d2] => { results := [.lit (.bool true)], args := [d1, d2] }
  | _ => none }
def fnExactSameBadTableRow : OpenClaim := { program := "ytikdmkfngdihhab", sum := "ea625abf3f5b5ed2be33e9b514841c2ae0dbfcb50465a0577dbea8afef0e5232", func := "loop.example/g00905/laws.FnExactSameBadTable", spec := "fnExactSameBadTable", apart := false }
def FnExactSameBadTableSaid : Prop := fnExactSameBadTableRow.holds Try.pinned (OpenSpec.ofChange fnExactSameBadTableSpec)

/-- ITS FALSE NEIGHBOUR: 'it returns false'. Refute it at one input. -/
def fnExactSameBadTableWrong : ChangeSpec := { name := "fnExactSameBadTable", fn := fun _ => fun
  | [d1, d2] => { results := [.lit (.bool false)], args := [d1, d2] }
  | _ => none }
def FnExactSameBadTableWrongFalsely : Prop := fnExactSameBadTableRow.holds Try.pinned (OpenSpec.ofChange fnExactSameBadTableWrong)

/-- 'laws.FnExactNewBadTable': WHATEVER THE INPUT: true; the input reads as it did. -/
def fnExactNewBadTableSpec : ChangeSpec := { name := "fnExactNewBadTable", fn := fun _ => fun
  | [d1, d2, d3] => { results := [.lit (.bool true)], args := [d1, d2, d3] }
  | _ => none }
def fnExactNewBadTableRow : OpenClaim := { program := "ytikdmkfngdihhab", sum := "ea625abf3f5b5ed2be33e9b514841c2ae0dbfcb50465a0577dbea8afef0e5232", func := "loop.example/g00905/laws.FnExactNewBadTable", spec := "fnExactNewBadTable", apart := false }
def FnExactNewBadTableSaid : Prop := fnExactNewBadTableRow.holds Try.pinned (OpenSpec.ofChange fnExactNewBadTableSpec)

/-- ITS FALSE NEIGHBOUR: 'it returns false'. Refute it at one input. -/
def fnExactNewBadTableWrong : ChangeSpec := { name := "fnExactNewBadTable", fn := fun _ => fun
  | [d1, d2, d3] => { results := [.lit (.bool false)], args := [d1, d2, d3] }
  | _ => none }
def FnExactNewBadTableWrongFalsely : Prop := fnExactNewBadTableRow.holds Try.pinned (OpenSpec.ofChange fnExactNewBadTableWrong)

/-- 'laws.FnExactPhysicalBlock': WHATEVER THE INPUT: true; the input reads as it did. -/
def fnExactPhysicalBlockSpec : ChangeSpec := { name := "fnExactPhysicalBlock", fn := fun _ => fun
  | [d1, d2] => { results := [.lit (.bool true)], args := [d1, d2] }
  | _ => none }
def fnExactPhysicalBlockRow : OpenClaim := { program := "ytikdmkfngdihhab", sum := "ea625abf3f5b5ed2be33e9b514841c2ae0dbfcb50465a0577dbea8afef0e5232", func := "loop.example/g00905/laws.FnExactPhysicalBlock", spec := "fnExactPhysicalBlock", apart := false }
def FnExactPhysicalBlockSaid : Prop := fnExactPhysicalBlockRow.holds Try.pinned (OpenSpec.ofChange fnExactPhysicalBlockSpec)

/-- ITS FALSE NEIGHBOUR: 'it returns false'. Refute it at one input. -/
def fnExactPhysicalBlockWrong : ChangeSpec := { name := "fnExactPhysicalBlock", fn := fun _ => fun
  | [d1, d2] => { results := [.lit (.bool false)], args := [d1, d2] }
  | _ => none }
def FnExactPhysicalBlockWrongFalsely : Prop := fnExactPhysicalBlockRow.holds Try.pinned (OpenSpec.ofChange fnExactPhysicalBlockWrong)

/- THE SECOND FORM. 'bulk': how many values and letters a reading holds, each counted each time it is reached (what is shared counts as often as it is met; a slice's spare places count too). A statement '..UptoSaid' is the law's where the arguments, and the package variables that the reading takes, are together of bulk at most 1048576: NARROWER than '..Said'. Prove '..Said' where nothing that the law and all that it calls make is longer than what came in: it says more and counts as full. Else prove '..UptoSaid'. A law counts once. -/
mutual
def uptoBulk {H : Type} : DataW H → Nat
  | .lit (.string bytes) => bytes.length + 1
  | .lit _ => 1
  | .nil => 1
  | .ptr d => uptoBulk d + 1
  | .slice elems spare => uptoBulkAll elems + uptoBulkAll spare + 1
  | .agg parts => uptoBulkAll parts + 1
  | .iface _ d => uptoBulk d + 1
  | .map entries => uptoBulkEntries entries + 1
  | .held _ => 1
def uptoBulkAll {H : Type} : List (DataW H) → Nat
  | [] => 0
  | d :: r => uptoBulk d + uptoBulkAll r
def uptoBulkEntries {H : Type} : List (Lit × DataW H) → Nat
  | [] => 0
  | x :: r => uptoBulkEntry x + uptoBulkEntries r
def uptoBulkEntry {H : Type} : Lit × DataW H → Nat
  | (.string bytes, d) => bytes.length + uptoBulk d + 1
  | (_, d) => uptoBulk d + 1
 end
def uptoSmall : (H : Type) → List (DataW H) → Bool := fun _ ds => decide (uptoBulkAll ds ≤ 1048576)
def OpenSpec.upto (s : _root_.Go.ChangeSpec) : _root_.Go.OpenSpec := { _root_.Go.OpenSpec.ofChange s with cond := some uptoSmall }

/-- 'laws.FnFaultsTwice', WHERE WHAT IT READS IS OF BULK AT MOST 1048576: true; the input reads as it did. -/
def fnFaultsTwiceUptoRow : OpenClaim := { program := "ytikdmkfngdihhab", sum := "ea625abf3f5b5ed2be33e9b514841c2ae0dbfcb50465a0577dbea8afef0e5232", func := "loop.example/g00905/laws.FnFaultsTwice", spec := "fnFaultsTwice", unfollowed := true, recurses := true, apart := false, narrowed := true }
def FnFaultsTwiceUptoSaid : Prop := fnFaultsTwiceUptoRow.holds Try.pinned (OpenSpec.upto fnFaultsTwiceSpec)

/-- 'laws.FnRandomFaults', WHERE WHAT IT READS IS OF BULK AT MOST 1048576: true; the input reads as it did. -/
def fnRandomFaultsUptoRow : OpenClaim := { program := "ytikdmkfngdihhab", sum := "ea625abf3f5b5ed2be33e9b514841c2ae0dbfcb50465a0577dbea8afef0e5232", func := "loop.example/g00905/laws.FnRandomFaults", spec := "fnRandomFaults", unfollowed := true, recurses := true, apart := false, narrowed := true }
def FnRandomFaultsUptoSaid : Prop := fnRandomFaultsUptoRow.holds Try.pinned (OpenSpec.upto fnRandomFaultsSpec)

/-- 'laws.FnExactValidBadTable', WHERE WHAT IT READS IS OF BULK AT MOST 1048576: true; the input reads as it did. -/
def fnExactValidBadTableUptoRow : OpenClaim := { program := "ytikdmkfngdihhab", sum := "ea625abf3f5b5ed2be33e9b514841c2ae0dbfcb50465a0577dbea8afef0e5232", func := "loop.example/g00905/laws.FnExactValidBadTable", spec := "fnExactValidBadTable", apart := false, narrowed := true }
def FnExactValidBadTableUptoSaid : Prop := fnExactValidBadTableUptoRow.holds Try.pinned (OpenSpec.upto fnExactValidBadTableSpec)

/-- 'laws.FnExactSameBadTable', WHERE WHAT IT READS IS OF BULK AT MOST 1048576: true; the input reads as it did. -/
def fnExactSameBadTableUptoRow : OpenClaim := { program := "ytikdmkfngdihhab", sum := "ea625abf3f5b5ed2be33e9b514841c2ae0dbfcb50465a0577dbea8afef0e5232", func := "loop.example/g00905/laws.FnExactSameBadTable", spec := "fnExactSameBadTable", apart := false, narrowed := true }
def FnExactSameBadTableUptoSaid : Prop := fnExactSameBadTableUptoRow.holds Try.pinned (OpenSpec.upto fnExactSameBadTableSpec)

/-- 'laws.FnExactNewBadTable', WHERE WHAT IT READS IS OF BULK AT MOST 1048576: true; the input reads as it did. -/
def fnExactNewBadTableUptoRow : OpenClaim := { program := "ytikdmkfngdihhab", sum := "ea625abf3f5b5ed2be33e9b514841c2ae0dbfcb50465a0577dbea8afef0e5232", func := "loop.example/g00905/laws.FnExactNewBadTable", spec := "fnExactNewBadTable", apart := false, narrowed := true }
def FnExactNewBadTableUptoSaid : Prop := fnExactNewBadTableUptoRow.holds Try.pinned (OpenSpec.upto fnExactNewBadTableSpec)

/-- 'laws.FnExactPhysicalBlock', WHERE WHAT IT READS IS OF BULK AT MOST 1048576: true; the input reads as it did. -/
def fnExactPhysicalBlockUptoRow : OpenClaim := { program := "ytikdmkfngdihhab", sum := "ea625abf3f5b5ed2be33e9b514841c2ae0dbfcb50465a0577dbea8afef0e5232", func := "loop.example/g00905/laws.FnExactPhysicalBlock", spec := "fnExactPhysicalBlock", apart := false, narrowed := true }
def FnExactPhysicalBlockUptoSaid : Prop := fnExactPhysicalBlockUptoRow.holds Try.pinned (OpenSpec.upto fnExactPhysicalBlockSpec)

end Rows
end Go.Proofs.Ytikdmkfngdihhab
