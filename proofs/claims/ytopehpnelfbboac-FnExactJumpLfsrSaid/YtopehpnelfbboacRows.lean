/-
  No cell of these rows narrows 'for every input' (looked for: loops, veiled, ifaces, maps, wideKeys, modest, calm, conditions, laid).
  DERIVED. THE GIVEN ROWS OF THIS SEAT. 6 by the template 'for every input the law returns true; each argument reads behind the call as it read before'; 0 by the template 'total and deterministic' (their statements: YtopehpnelfbboacTotals.lean).
  GIVEN WITH THE SEED: the statements are not yours to turn. If you find one false, say at which input.
  Laid BY PROGRAM, IN A SANDBOX (cutbox-rows.mjs): the forced cells as the released guide's own fill.sh prints them over the translation 91a686e54566c6db… (all of the seat's roots in one cut). By AI agents, Wed Nov 11 2026. No macro, syntax, notation, axiom, sorry.
-/
import Derived.Test.YtopehpnelfbboacChecked
import GoSem.Claim
import GoSem.ClaimJoined
import GoSem.ClaimMapViews
import Derived.JoinedTies
import Derived.KernelRfl
namespace Go.Proofs.Ytopehpnelfbboac
/- THE CELL 'sum', in the pinned program and in every row, IS THE sha256 OF THE DUMP (.gsa) THAT YtopehpnelfbboacProg.lean LOADS. Nothing in Lean hashes anything: it is a label: what it is worth is what the hold of that sum in a sandbox is worth. -/
noncomputable def Try.pinned : Pinned := { name := "ytopehpnelfbboac", sum := "91a686e54566c6dbc0b96e6ee6cfafc581b9aaae0ec3059e38e6446b0d74522f", checked := Try.checked }
namespace Rows
def none {H : Type} : Left H := { results := [], args := [] }

/-- 'laws.FnExactValidState': WHATEVER THE INPUT: true; the input reads as it did. -/
def fnExactValidStateSpec : ChangeSpec := { name := "fnExactValidState", fn := fun _ => fun
  | [d] => { results := [.lit (.bool true)], args := [d] }
  | _ => none }
def fnExactValidStateRow : OpenClaim := { program := "ytopehpnelfbboac", sum := "91a686e54566c6dbc0b96e6ee6cfafc581b9aaae0ec3059e38e6446b0d74522f", func := "loop.example/g00905/laws.FnExactValidState", spec := "fnExactValidState", apart := false }
def FnExactValidStateSaid : Prop := fnExactValidStateRow.holds Try.pinned (OpenSpec.ofChange fnExactValidStateSpec)

/-- ITS FALSE NEIGHBOUR: 'it returns false'. Refute it at one input. -/
def fnExactValidStateWrong : ChangeSpec := { name := "fnExactValidState", fn := fun _ => fun
  | [d] => { results := [.lit (.bool false)], args := [d] }
  | _ => none }
def FnExactValidStateWrongFalsely : Prop := fnExactValidStateRow.holds Try.pinned (OpenSpec.ofChange fnExactValidStateWrong)

/-- 'laws.FnExactStepLfsr': WHATEVER THE INPUT: true; the input reads as it did. -/
def fnExactStepLfsrSpec : ChangeSpec := { name := "fnExactStepLfsr", fn := fun _ => fun
  | [d] => { results := [.lit (.bool true)], args := [d] }
  | _ => none }
def fnExactStepLfsrRow : OpenClaim := { program := "ytopehpnelfbboac", sum := "91a686e54566c6dbc0b96e6ee6cfafc581b9aaae0ec3059e38e6446b0d74522f", func := "loop.example/g00905/laws.FnExactStepLfsr", spec := "fnExactStepLfsr", apart := false }
def FnExactStepLfsrSaid : Prop := fnExactStepLfsrRow.holds Try.pinned (OpenSpec.ofChange fnExactStepLfsrSpec)

/-- ITS FALSE NEIGHBOUR: 'it returns false'. Refute it at one input. -/
def fnExactStepLfsrWrong : ChangeSpec := { name := "fnExactStepLfsr", fn := fun _ => fun
  | [d] => { results := [.lit (.bool false)], args := [d] }
  | _ => none }
def FnExactStepLfsrWrongFalsely : Prop := fnExactStepLfsrRow.holds Try.pinned (OpenSpec.ofChange fnExactStepLfsrWrong)

/-- 'laws.FnExactBackLfsr': WHATEVER THE INPUT: true; the input reads as it did. -/
def fnExactBackLfsrSpec : ChangeSpec := { name := "fnExactBackLfsr", fn := fun _ => fun
  | [d] => { results := [.lit (.bool true)], args := [d] }
  | _ => none }
def fnExactBackLfsrRow : OpenClaim := { program := "ytopehpnelfbboac", sum := "91a686e54566c6dbc0b96e6ee6cfafc581b9aaae0ec3059e38e6446b0d74522f", func := "loop.example/g00905/laws.FnExactBackLfsr", spec := "fnExactBackLfsr", apart := false }
def FnExactBackLfsrSaid : Prop := fnExactBackLfsrRow.holds Try.pinned (OpenSpec.ofChange fnExactBackLfsrSpec)

/-- ITS FALSE NEIGHBOUR: 'it returns false'. Refute it at one input. -/
def fnExactBackLfsrWrong : ChangeSpec := { name := "fnExactBackLfsr", fn := fun _ => fun
  | [d] => { results := [.lit (.bool false)], args := [d] }
  | _ => none }
def FnExactBackLfsrWrongFalsely : Prop := fnExactBackLfsrRow.holds Try.pinned (OpenSpec.ofChange fnExactBackLfsrWrong)

/-- 'laws.FnExactJumpLfsr': WHATEVER THE INPUT: true; the input reads as it did. -/
def fnExactJumpLfsrSpec : ChangeSpec := { name := "fnExactJumpLfsr", fn := fun _ => fun
  | [d1, d2] => { results := [.lit (.bool true)], args := [d1, d2] }
  | _ => none }
def fnExactJumpLfsrRow : OpenClaim := { program := "ytopehpnelfbboac", sum := "91a686e54566c6dbc0b96e6ee6cfafc581b9aaae0ec3059e38e6446b0d74522f", func := "loop.example/g00905/laws.FnExactJumpLfsr", spec := "fnExactJumpLfsr", unfollowed := true, recurses := true, apart := false }
def FnExactJumpLfsrSaid : Prop := fnExactJumpLfsrRow.holds Try.pinned (OpenSpec.ofChange fnExactJumpLfsrSpec)

/-- ITS FALSE NEIGHBOUR: 'it returns false'. Refute it at one input. -/
def fnExactJumpLfsrWrong : ChangeSpec := { name := "fnExactJumpLfsr", fn := fun _ => fun
  | [d1, d2] => { results := [.lit (.bool false)], args := [d1, d2] }
  | _ => none }
def FnExactJumpLfsrWrongFalsely : Prop := fnExactJumpLfsrRow.holds Try.pinned (OpenSpec.ofChange fnExactJumpLfsrWrong)

/-- 'laws.FnExactKeystream': WHATEVER THE INPUT: true; the input reads as it did. -/
def fnExactKeystreamSpec : ChangeSpec := { name := "fnExactKeystream", fn := fun _ => fun
  | [d1, d2] => { results := [.lit (.bool true)], args := [d1, d2] }
  | _ => none }
def fnExactKeystreamRow : OpenClaim := { program := "ytopehpnelfbboac", sum := "91a686e54566c6dbc0b96e6ee6cfafc581b9aaae0ec3059e38e6446b0d74522f", func := "loop.example/g00905/laws.FnExactKeystream", spec := "fnExactKeystream", apart := false }
def FnExactKeystreamSaid : Prop := fnExactKeystreamRow.holds Try.pinned (OpenSpec.ofChange fnExactKeystreamSpec)

/-- ITS FALSE NEIGHBOUR: 'it returns false'. Refute it at one input. -/
def fnExactKeystreamWrong : ChangeSpec := { name := "fnExactKeystream", fn := fun _ => fun
  | [d1, d2] => { results := [.lit (.bool false)], args := [d1, d2] }
  | _ => none }
def FnExactKeystreamWrongFalsely : Prop := fnExactKeystreamRow.holds Try.pinned (OpenSpec.ofChange fnExactKeystreamWrong)

/-- 'laws.FnExactSeedFor': WHATEVER THE INPUT: true; the input reads as it did. -/
def fnExactSeedForSpec : ChangeSpec := { name := "fnExactSeedFor", fn := fun _ => fun
  | [d] => { results := [.lit (.bool true)], args := [d] }
  | _ => none }
def fnExactSeedForRow : OpenClaim := { program := "ytopehpnelfbboac", sum := "91a686e54566c6dbc0b96e6ee6cfafc581b9aaae0ec3059e38e6446b0d74522f", func := "loop.example/g00905/laws.FnExactSeedFor", spec := "fnExactSeedFor", apart := false }
def FnExactSeedForSaid : Prop := fnExactSeedForRow.holds Try.pinned (OpenSpec.ofChange fnExactSeedForSpec)

/-- ITS FALSE NEIGHBOUR: 'it returns false'. Refute it at one input. -/
def fnExactSeedForWrong : ChangeSpec := { name := "fnExactSeedFor", fn := fun _ => fun
  | [d] => { results := [.lit (.bool false)], args := [d] }
  | _ => none }
def FnExactSeedForWrongFalsely : Prop := fnExactSeedForRow.holds Try.pinned (OpenSpec.ofChange fnExactSeedForWrong)

/- THE SECOND FORM. 'bulk': how many values and letters a reading holds, each counted each time it is reached (what is shared counts as often as it is met; a slice's spare places count too). A statement '..UptoSaid' is the law's where the arguments, and the package variables that the reading takes, are together of bulk at most 1048576: NARROWER than '..Said'. Prove '..Said' where nothing that the law and all that it calls make is longer than what came in: it says more and counts as full. Else prove '..UptoSaid'. A law counts once. -/
mutual
def uptoBulk {H : Type} : DataW H → Nat
  | .lit (.string bytes) => bytes.length + 1
  | .lit _ => 1
  | .nil => 1
  | .ptr d => uptoBulk d + 1
  | .slice elems spare => uptoBulkAll elems + uptoBulkAll spare + 1
  | .agg parts => uptoBulkAll parts + 1
  | .iface _ d => uptoBulk d + 1
  | .map entries => uptoBulkEntries entries + 1
  | .held _ => 1
def uptoBulkAll {H : Type} : List (DataW H) → Nat
  | [] => 0
  | d :: r => uptoBulk d + uptoBulkAll r
def uptoBulkEntries {H : Type} : List (Lit × DataW H) → Nat
  | [] => 0
  | x :: r => uptoBulkEntry x + uptoBulkEntries r
def uptoBulkEntry {H : Type} : Lit × DataW H → Nat
  | (.string bytes, d) => bytes.length + uptoBulk d + 1
  | (_, d) => uptoBulk d + 1
 end
def uptoSmall : (H : Type) → List (DataW H) → Bool := fun _ ds => decide (uptoBulkAll ds ≤ 1048576)
def OpenSpec.upto (s : _root_.Go.ChangeSpec) : _root_.Go.OpenSpec := { _root_.Go.OpenSpec.ofChange s with cond := some uptoSmall }

/-- 'laws.FnExactValidState', WHERE WHAT IT READS IS OF BULK AT MOST 1048576: true; the input reads as it did. -/
def fnExactValidStateUptoRow : OpenClaim := { program := "ytopehpnelfbboac", sum := "91a686e54566c6dbc0b96e6ee6cfafc581b9aaae0ec3059e38e6446b0d74522f", func := "loop.example/g00905/laws.FnExactValidState", spec := "fnExactValidState", apart := false, narrowed := true }
def FnExactValidStateUptoSaid : Prop := fnExactValidStateUptoRow.holds Try.pinned (OpenSpec.upto fnExactValidStateSpec)

/-- 'laws.FnExactStepLfsr', WHERE WHAT IT READS IS OF BULK AT MOST 1048576: true; the input reads as it did. -/
def fnExactStepLfsrUptoRow : OpenClaim := { program := "ytopehpnelfbboac", sum := "91a686e54566c6dbc0b96e6ee6cfafc581b9aaae0ec3059e38e6446b0d74522f", func := "loop.example/g00905/laws.FnExactStepLfsr", spec := "fnExactStepLfsr", apart := false, narrowed := true }
def FnExactStepLfsrUptoSaid : Prop := fnExactStepLfsrUptoRow.holds Try.pinned (OpenSpec.upto fnExactStepLfsrSpec)

/-- 'laws.FnExactBackLfsr', WHERE WHAT IT READS IS OF BULK AT MOST 1048576: true; the input reads as it did. -/
def fnExactBackLfsrUptoRow : OpenClaim := { program := "ytopehpnelfbboac", sum := "91a686e54566c6dbc0b96e6ee6cfafc581b9aaae0ec3059e38e6446b0d74522f", func := "loop.example/g00905/laws.FnExactBackLfsr", spec := "fnExactBackLfsr", apart := false, narrowed := true }
def FnExactBackLfsrUptoSaid : Prop := fnExactBackLfsrUptoRow.holds Try.pinned (OpenSpec.upto fnExactBackLfsrSpec)

/-- 'laws.FnExactJumpLfsr', WHERE WHAT IT READS IS OF BULK AT MOST 1048576: true; the input reads as it did. -/
def fnExactJumpLfsrUptoRow : OpenClaim := { program := "ytopehpnelfbboac", sum := "91a686e54566c6dbc0b96e6ee6cfafc581b9aaae0ec3059e38e6446b0d74522f", func := "loop.example/g00905/laws.FnExactJumpLfsr", spec := "fnExactJumpLfsr", unfollowed := true, recurses := true, apart := false, narrowed := true }
def FnExactJumpLfsrUptoSaid : Prop := fnExactJumpLfsrUptoRow.holds Try.pinned (OpenSpec.upto fnExactJumpLfsrSpec)

/-- 'laws.FnExactKeystream', WHERE WHAT IT READS IS OF BULK AT MOST 1048576: true; the input reads as it did. -/
def fnExactKeystreamUptoRow : OpenClaim := { program := "ytopehpnelfbboac", sum := "91a686e54566c6dbc0b96e6ee6cfafc581b9aaae0ec3059e38e6446b0d74522f", func := "loop.example/g00905/laws.FnExactKeystream", spec := "fnExactKeystream", apart := false, narrowed := true }
def FnExactKeystreamUptoSaid : Prop := fnExactKeystreamUptoRow.holds Try.pinned (OpenSpec.upto fnExactKeystreamSpec)

/-- 'laws.FnExactSeedFor', WHERE WHAT IT READS IS OF BULK AT MOST 1048576: true; the input reads as it did. -/
def fnExactSeedForUptoRow : OpenClaim := { program := "ytopehpnelfbboac", sum := "91a686e54566c6dbc0b96e6ee6cfafc581b9aaae0ec3059e38e6446b0d74522f", func := "loop.example/g00905/laws.FnExactSeedFor", spec := "fnExactSeedFor", apart := false, narrowed := true }
def FnExactSeedForUptoSaid : Prop := fnExactSeedForUptoRow.holds Try.pinned (OpenSpec.upto fnExactSeedForSpec)

end Rows
end Go.Proofs.Ytopehpnelfbboac
