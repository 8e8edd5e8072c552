/-
  No cell of these rows narrows 'for every input' (looked for: loops, veiled, ifaces, maps, wideKeys, modest, calm, conditions, laid).
  DERIVED. THE GIVEN ROWS OF THIS SEAT. 5 by the template 'for every input the law returns true; each argument reads behind the call as it read before'; 0 by the template 'total and deterministic' (their statements: YtikdmkfngdihhadTotals.lean).
  GIVEN WITH THE SEED: the statements are not yours to turn. If you find one false, say at which input.
  Laid BY PROGRAM, IN A SANDBOX (cutbox-rows.mjs): the forced cells as the released guide's own fill.sh prints them over the translation 8ed2ed2e6cbbc5a4… (all of the seat's roots in one cut). By AI agents, Wed Nov 11 2026. No macro, syntax, notation, axiom, sorry.
-/
import Derived.Test.YtikdmkfngdihhadChecked
import GoSem.Claim
import GoSem.ClaimJoined
import GoSem.ClaimMapViews
import Derived.JoinedTies
import Derived.KernelRfl
namespace Go.Proofs.Ytikdmkfngdihhad
/- THE CELL 'sum', in the pinned program and in every row, IS THE sha256 OF THE DUMP (.gsa) THAT YtikdmkfngdihhadProg.lean LOADS. Nothing in Lean hashes anything: it is a label: what it is worth is what the hold of that sum in a sandbox is worth. -/
noncomputable def Try.pinned : Pinned := { name := "ytikdmkfngdihhad", sum := "8ed2ed2e6cbbc5a4e9b2765f389e2f0f0410b40456e01c07f51ece1ed40f3f25", checked := Try.checked }
namespace Rows
def none {H : Type} : Left H := { results := [], args := [] }

/-- 'laws.FnExactValidFault': WHATEVER THE INPUT: true; the input reads as it did. -/
def fnExactValidFaultSpec : ChangeSpec := { name := "fnExactValidFault", fn := fun _ => fun
  | [d1, d2] => { results := [.lit (.bool true)], args := [d1, d2] }
  | _ => none }
def fnExactValidFaultRow : OpenClaim := { program := "ytikdmkfngdihhad", sum := "8ed2ed2e6cbbc5a4e9b2765f389e2f0f0410b40456e01c07f51ece1ed40f3f25", func := "loop.example/g00905/laws.FnExactValidFault", spec := "fnExactValidFault", plainKeys := false, apart := false }
def FnExactValidFaultSaid : Prop := fnExactValidFaultRow.holds Try.pinned (OpenSpec.ofChange fnExactValidFaultSpec)

/-- ITS FALSE NEIGHBOUR: 'it returns false'. Refute it at one input. -/
def fnExactValidFaultWrong : ChangeSpec := { name := "fnExactValidFault", fn := fun _ => fun
  | [d1, d2] => { results := [.lit (.bool false)], args := [d1, d2] }
  | _ => none }
def FnExactValidFaultWrongFalsely : Prop := fnExactValidFaultRow.holds Try.pinned (OpenSpec.ofChange fnExactValidFaultWrong)

/-- 'laws.FnExactApplyFault': WHATEVER THE INPUT: true; the input reads as it did. -/
def fnExactApplyFaultSpec : ChangeSpec := { name := "fnExactApplyFault", fn := fun _ => fun
  | [d1, d2] => { results := [.lit (.bool true)], args := [d1, d2] }
  | _ => none }
def fnExactApplyFaultRow : OpenClaim := { program := "ytikdmkfngdihhad", sum := "8ed2ed2e6cbbc5a4e9b2765f389e2f0f0410b40456e01c07f51ece1ed40f3f25", func := "loop.example/g00905/laws.FnExactApplyFault", spec := "fnExactApplyFault", unfollowed := true, recurses := true, plainKeys := false, apart := false }
def FnExactApplyFaultSaid : Prop := fnExactApplyFaultRow.holds Try.pinned (OpenSpec.ofChange fnExactApplyFaultSpec)

/-- ITS FALSE NEIGHBOUR: 'it returns false'. Refute it at one input. -/
def fnExactApplyFaultWrong : ChangeSpec := { name := "fnExactApplyFault", fn := fun _ => fun
  | [d1, d2] => { results := [.lit (.bool false)], args := [d1, d2] }
  | _ => none }
def FnExactApplyFaultWrongFalsely : Prop := fnExactApplyFaultRow.holds Try.pinned (OpenSpec.ofChange fnExactApplyFaultWrong)

/-- 'laws.FnExactApplyFaults': WHATEVER THE INPUT: true; the input reads as it did. -/
def fnExactApplyFaultsSpec : ChangeSpec := { name := "fnExactApplyFaults", fn := fun _ => fun
  | [d1, d2] => { results := [.lit (.bool true)], args := [d1, d2] }
  | _ => none }
def fnExactApplyFaultsRow : OpenClaim := { program := "ytikdmkfngdihhad", sum := "8ed2ed2e6cbbc5a4e9b2765f389e2f0f0410b40456e01c07f51ece1ed40f3f25", func := "loop.example/g00905/laws.FnExactApplyFaults", spec := "fnExactApplyFaults", unfollowed := true, recurses := true, plainKeys := false, apart := false }
def FnExactApplyFaultsSaid : Prop := fnExactApplyFaultsRow.holds Try.pinned (OpenSpec.ofChange fnExactApplyFaultsSpec)

/-- ITS FALSE NEIGHBOUR: 'it returns false'. Refute it at one input. -/
def fnExactApplyFaultsWrong : ChangeSpec := { name := "fnExactApplyFaults", fn := fun _ => fun
  | [d1, d2] => { results := [.lit (.bool false)], args := [d1, d2] }
  | _ => none }
def FnExactApplyFaultsWrongFalsely : Prop := fnExactApplyFaultsRow.holds Try.pinned (OpenSpec.ofChange fnExactApplyFaultsWrong)

/-- 'laws.FnExactDifferingBits': WHATEVER THE INPUT: true; the input reads as it did. -/
def fnExactDifferingBitsSpec : ChangeSpec := { name := "fnExactDifferingBits", fn := fun _ => fun
  | [d1, d2] => { results := [.lit (.bool true)], args := [d1, d2] }
  | _ => none }
def fnExactDifferingBitsRow : OpenClaim := { program := "ytikdmkfngdihhad", sum := "8ed2ed2e6cbbc5a4e9b2765f389e2f0f0410b40456e01c07f51ece1ed40f3f25", func := "loop.example/g00905/laws.FnExactDifferingBits", spec := "fnExactDifferingBits", inPlace := ["internal/abi.NoEscape", "internal/bytealg.MakeNoZero"], plainKeys := false, apart := false }
def FnExactDifferingBitsSaid : Prop := fnExactDifferingBitsRow.holds Try.pinned (OpenSpec.ofChange fnExactDifferingBitsSpec)

/-- ITS FALSE NEIGHBOUR: 'it returns false'. Refute it at one input. -/
def fnExactDifferingBitsWrong : ChangeSpec := { name := "fnExactDifferingBits", fn := fun _ => fun
  | [d1, d2] => { results := [.lit (.bool false)], args := [d1, d2] }
  | _ => none }
def FnExactDifferingBitsWrongFalsely : Prop := fnExactDifferingBitsRow.holds Try.pinned (OpenSpec.ofChange fnExactDifferingBitsWrong)

/-- 'laws.FnExactWithinEccBudget': WHATEVER THE INPUT: true; the input reads as it did. -/
def fnExactWithinEccBudgetSpec : ChangeSpec := { name := "fnExactWithinEccBudget", fn := fun _ => fun
  | [d1, d2] => { results := [.lit (.bool true)], args := [d1, d2] }
  | _ => none }
def fnExactWithinEccBudgetRow : OpenClaim := { program := "ytikdmkfngdihhad", sum := "8ed2ed2e6cbbc5a4e9b2765f389e2f0f0410b40456e01c07f51ece1ed40f3f25", func := "loop.example/g00905/laws.FnExactWithinEccBudget", spec := "fnExactWithinEccBudget", unfollowed := true, recurses := true, plainKeys := false, apart := false }
def FnExactWithinEccBudgetSaid : Prop := fnExactWithinEccBudgetRow.holds Try.pinned (OpenSpec.ofChange fnExactWithinEccBudgetSpec)

/-- ITS FALSE NEIGHBOUR: 'it returns false'. Refute it at one input. -/
def fnExactWithinEccBudgetWrong : ChangeSpec := { name := "fnExactWithinEccBudget", fn := fun _ => fun
  | [d1, d2] => { results := [.lit (.bool false)], args := [d1, d2] }
  | _ => none }
def FnExactWithinEccBudgetWrongFalsely : Prop := fnExactWithinEccBudgetRow.holds Try.pinned (OpenSpec.ofChange fnExactWithinEccBudgetWrong)

/- THE SECOND FORM. 'bulk': how many values and letters a reading holds, each counted each time it is reached (what is shared counts as often as it is met; a slice's spare places count too). A statement '..UptoSaid' is the law's where the arguments, and the package variables that the reading takes, are together of bulk at most 1048576: NARROWER than '..Said'. Prove '..Said' where nothing that the law and all that it calls make is longer than what came in: it says more and counts as full. Else prove '..UptoSaid'. A law counts once. -/
mutual
def uptoBulk {H : Type} : DataW H → Nat
  | .lit (.string bytes) => bytes.length + 1
  | .lit _ => 1
  | .nil => 1
  | .ptr d => uptoBulk d + 1
  | .slice elems spare => uptoBulkAll elems + uptoBulkAll spare + 1
  | .agg parts => uptoBulkAll parts + 1
  | .iface _ d => uptoBulk d + 1
  | .map entries => uptoBulkEntries entries + 1
  | .held _ => 1
def uptoBulkAll {H : Type} : List (DataW H) → Nat
  | [] => 0
  | d :: r => uptoBulk d + uptoBulkAll r
def uptoBulkEntries {H : Type} : List (Lit × DataW H) → Nat
  | [] => 0
  | x :: r => uptoBulkEntry x + uptoBulkEntries r
def uptoBulkEntry {H : Type} : Lit × DataW H → Nat
  | (.string bytes, d) => bytes.length + uptoBulk d + 1
  | (_, d) => uptoBulk d + 1
 end
def uptoSmall : (H : Type) → List (DataW H) → Bool := fun _ ds => decide (uptoBulkAll ds ≤ 1048576)
def OpenSpec.upto (s : _root_.Go.ChangeSpec) : _root_.Go.OpenSpec := { _root_.Go.OpenSpec.ofChange s with cond := some uptoSmall }

/-- 'laws.FnExactValidFault', WHERE WHAT IT READS IS OF BULK AT MOST 1048576: true; the input reads as it did. -/
def fnExactValidFaultUptoRow : OpenClaim := { program := "ytikdmkfngdihhad", sum := "8ed2ed2e6cbbc5a4e9b2765f389e2f0f0410b40456e01c07f51ece1ed40f3f25", func := "loop.example/g00905/laws.FnExactValidFault", spec := "fnExactValidFault", plainKeys := false, apart := false, narrowed := true }
def FnExactValidFaultUptoSaid : Prop := fnExactValidFaultUptoRow.holds Try.pinned (OpenSpec.upto fnExactValidFaultSpec)

/-- 'laws.FnExactApplyFault', WHERE WHAT IT READS IS OF BULK AT MOST 1048576: true; the input reads as it did. -/
def fnExactApplyFaultUptoRow : OpenClaim := { program := "ytikdmkfngdihhad", sum := "8ed2ed2e6cbbc5a4e9b2765f389e2f0f0410b40456e01c07f51ece1ed40f3f25", func := "loop.example/g00905/laws.FnExactApplyFault", spec := "fnExactApplyFault", unfollowed := true, recurses := true, plainKeys := false, apart := false, narrowed := true }
def FnExactApplyFaultUptoSaid : Prop := fnExactApplyFaultUptoRow.holds Try.pinned (OpenSpec.upto fnExactApplyFaultSpec)

/-- 'laws.FnExactApplyFaults', WHERE WHAT IT READS IS OF BULK AT MOST 1048576: true; the input reads as it did. -/
def fnExactApplyFaultsUptoRow : OpenClaim := { program := "ytikdmkfngdihhad", sum := "8ed2ed2e6cbbc5a4e9b2765f389e2f0f0410b40456e01c07f51ece1ed40f3f25", func := "loop.example/g00905/laws.FnExactApplyFaults", spec := "fnExactApplyFaults", unfollowed := true, recurses := true, plainKeys := false, apart := false, narrowed := true }
def FnExactApplyFaultsUptoSaid : Prop := fnExactApplyFaultsUptoRow.holds Try.pinned (OpenSpec.upto fnExactApplyFaultsSpec)

/-- 'laws.FnExactDifferingBits', WHERE WHAT IT READS IS OF BULK AT MOST 1048576: true; the input reads as it did. -/
def fnExactDifferingBitsUptoRow : OpenClaim := { program := "ytikdmkfngdihhad", sum := "8ed2ed2e6cbbc5a4e9b2765f389e2f0f0410b40456e01c07f51ece1ed40f3f25", func := "loop.example/g00905/laws.FnExactDifferingBits", spec := "fnExactDifferingBits", inPlace := ["internal/abi.NoEscape", "internal/bytealg.MakeNoZero"], plainKeys := false, apart := false, narrowed := true }
def FnExactDifferingBitsUptoSaid : Prop := fnExactDifferingBitsUptoRow.holds Try.pinned (OpenSpec.upto fnExactDifferingBitsSpec)

/-- 'laws.FnExactWithinEccBudget', WHERE WHAT IT READS IS OF BULK AT MOST 1048576: true; the input reads as it did. -/
def fnExactWithinEccBudgetUptoRow : OpenClaim := { program := "ytikdmkfngdihhad", sum := "8ed2ed2e6cbbc5a4e9b2765f389e2f0f0410b40456e01c07f51ece1ed40f3f25", func := "loop.example/g00905/laws.FnExactWithinEccBudget", spec := "fnExactWithinEccBudget", unfollowed := true, recurses := true, plainKeys := false, apart := false, narrowed := true }
def FnExactWithinEccBudgetUptoSaid : Prop := fnExactWithinEccBudgetUptoRow.holds Try.pinned (OpenSpec.upto fnExactWithinEccBudgetSpec)

end Rows
end Go.Proofs.Ytikdmkfngdihhad
