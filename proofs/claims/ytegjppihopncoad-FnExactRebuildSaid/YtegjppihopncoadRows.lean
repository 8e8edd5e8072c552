/-
  No cell of these rows narrows 'for every input' (looked for: loops, veiled, ifaces, maps, wideKeys, modest, calm, conditions, laid).
  DERIVED. THE GIVEN ROWS OF THIS SEAT. 5 by the template 'for every input the law returns true; each argument reads behind the call as it read before'; 0 by the template 'total and deterministic' (their statements: YtegjppihopncoadTotals.lean).
  GIVEN WITH THE SEED: the statements are not yours to turn. If you find one false, say at which input.
  Laid BY PROGRAM, IN A SANDBOX (cutbox-rows.mjs): the forced cells as the released guide's own fill.sh prints them over the translation 90a2059a1edb0302… (all of the seat's roots in one cut). By AI agents, Wed Nov 11 2026. No macro, syntax, notation, axiom, sorry.
-/
import Derived.Test.YtegjppihopncoadChecked
import GoSem.Claim
import GoSem.ClaimJoined
import GoSem.ClaimMapViews
import Derived.JoinedTies
import Derived.KernelRfl
namespace Go.Proofs.Ytegjppihopncoad
/- THE CELL 'sum', in the pinned program and in every row, IS THE sha256 OF THE DUMP (.gsa) THAT YtegjppihopncoadProg.lean LOADS. Nothing in Lean hashes anything: it is a label: what it is worth is what the hold of that sum in a sandbox is worth. -/
noncomputable def Try.pinned : Pinned := { name := "ytegjppihopncoad", sum := "90a2059a1edb03025bb79ed9da5bb6dee5e21fb24b138d76c24bf1272e5c7ec9", checked := Try.checked }
namespace Rows
def none {H : Type} : Left H := { results := [], args := [] }

/-- 'laws.FnExactRebuild': WHATEVER THE INPUT: true; the input reads as it did. -/
def fnExactRebuildSpec : ChangeSpec := { name := "fnExactRebuild", fn := fun _ => fun
  | [d1, d2, d3] => { results := [.lit (.bool true)], args := [d1, d2, d3] }
  | _ => none }
def fnExactRebuildRow : OpenClaim := { program := "ytegjppihopncoad", sum := "90a2059a1edb03025bb79ed9da5bb6dee5e21fb24b138d76c24bf1272e5c7ec9", func := "loop.example/g00905/laws.FnExactRebuild", spec := "fnExactRebuild", apart := false }
def FnExactRebuildSaid : Prop := fnExactRebuildRow.holds Try.pinned (OpenSpec.ofChange fnExactRebuildSpec)

/-- ITS FALSE NEIGHBOUR: 'it returns false'. Refute it at one input. -/
def fnExactRebuildWrong : ChangeSpec := { name := "fnExactRebuild", fn := fun _ => fun
  | [d1, d2, d3] => { results := [.lit (.bool false)], args := [d1, d2, d3] }
  | _ => none }
def FnExactRebuildWrongFalsely : Prop := fnExactRebuildRow.holds Try.pinned (OpenSpec.ofChange fnExactRebuildWrong)

/-- 'laws.FnExactUpdateParity': WHATEVER THE INPUT: true; the input reads as it did. -/
def fnExactUpdateParitySpec : ChangeSpec := { name := "fnExactUpdateParity", fn := fun _ => fun
  | [d1, d2, d3] => { results := [.lit (.bool true)], args := [d1, d2, d3] }
  | _ => none }
def fnExactUpdateParityRow : OpenClaim := { program := "ytegjppihopncoad", sum := "90a2059a1edb03025bb79ed9da5bb6dee5e21fb24b138d76c24bf1272e5c7ec9", func := "loop.example/g00905/laws.FnExactUpdateParity", spec := "fnExactUpdateParity", apart := false }
def FnExactUpdateParitySaid : Prop := fnExactUpdateParityRow.holds Try.pinned (OpenSpec.ofChange fnExactUpdateParitySpec)

/-- ITS FALSE NEIGHBOUR: 'it returns false'. Refute it at one input. -/
def fnExactUpdateParityWrong : ChangeSpec := { name := "fnExactUpdateParity", fn := fun _ => fun
  | [d1, d2, d3] => { results := [.lit (.bool false)], args := [d1, d2, d3] }
  | _ => none }
def FnExactUpdateParityWrongFalsely : Prop := fnExactUpdateParityRow.holds Try.pinned (OpenSpec.ofChange fnExactUpdateParityWrong)

/-- 'laws.FnExactParityDie': WHATEVER THE INPUT: true; the input reads as it did. -/
def fnExactParityDieSpec : ChangeSpec := { name := "fnExactParityDie", fn := fun _ => fun
  | [d1, d2] => { results := [.lit (.bool true)], args := [d1, d2] }
  | _ => none }
def fnExactParityDieRow : OpenClaim := { program := "ytegjppihopncoad", sum := "90a2059a1edb03025bb79ed9da5bb6dee5e21fb24b138d76c24bf1272e5c7ec9", func := "loop.example/g00905/laws.FnExactParityDie", spec := "fnExactParityDie", apart := false }
def FnExactParityDieSaid : Prop := fnExactParityDieRow.holds Try.pinned (OpenSpec.ofChange fnExactParityDieSpec)

/-- ITS FALSE NEIGHBOUR: 'it returns false'. Refute it at one input. -/
def fnExactParityDieWrong : ChangeSpec := { name := "fnExactParityDie", fn := fun _ => fun
  | [d1, d2] => { results := [.lit (.bool false)], args := [d1, d2] }
  | _ => none }
def FnExactParityDieWrongFalsely : Prop := fnExactParityDieRow.holds Try.pinned (OpenSpec.ofChange fnExactParityDieWrong)

/-- 'laws.FnExactDataDie': WHATEVER THE INPUT: true; the input reads as it did. -/
def fnExactDataDieSpec : ChangeSpec := { name := "fnExactDataDie", fn := fun _ => fun
  | [d1, d2, d3] => { results := [.lit (.bool true)], args := [d1, d2, d3] }
  | _ => none }
def fnExactDataDieRow : OpenClaim := { program := "ytegjppihopncoad", sum := "90a2059a1edb03025bb79ed9da5bb6dee5e21fb24b138d76c24bf1272e5c7ec9", func := "loop.example/g00905/laws.FnExactDataDie", spec := "fnExactDataDie", apart := false }
def FnExactDataDieSaid : Prop := fnExactDataDieRow.holds Try.pinned (OpenSpec.ofChange fnExactDataDieSpec)

/-- ITS FALSE NEIGHBOUR: 'it returns false'. Refute it at one input. -/
def fnExactDataDieWrong : ChangeSpec := { name := "fnExactDataDie", fn := fun _ => fun
  | [d1, d2, d3] => { results := [.lit (.bool false)], args := [d1, d2, d3] }
  | _ => none }
def FnExactDataDieWrongFalsely : Prop := fnExactDataDieRow.holds Try.pinned (OpenSpec.ofChange fnExactDataDieWrong)

/-- 'laws.FnExactUnitOn': WHATEVER THE INPUT: true; the input reads as it did. -/
def fnExactUnitOnSpec : ChangeSpec := { name := "fnExactUnitOn", fn := fun _ => fun
  | [d1, d2, d3] => { results := [.lit (.bool true)], args := [d1, d2, d3] }
  | _ => none }
def fnExactUnitOnRow : OpenClaim := { program := "ytegjppihopncoad", sum := "90a2059a1edb03025bb79ed9da5bb6dee5e21fb24b138d76c24bf1272e5c7ec9", func := "loop.example/g00905/laws.FnExactUnitOn", spec := "fnExactUnitOn", apart := false }
def FnExactUnitOnSaid : Prop := fnExactUnitOnRow.holds Try.pinned (OpenSpec.ofChange fnExactUnitOnSpec)

/-- ITS FALSE NEIGHBOUR: 'it returns false'. Refute it at one input. -/
def fnExactUnitOnWrong : ChangeSpec := { name := "fnExactUnitOn", fn := fun _ => fun
  | [d1, d2, d3] => { results := [.lit (.bool false)], args := [d1, d2, d3] }
  | _ => none }
def FnExactUnitOnWrongFalsely : Prop := fnExactUnitOnRow.holds Try.pinned (OpenSpec.ofChange fnExactUnitOnWrong)

/- THE SECOND FORM. 'bulk': how many values and letters a reading holds, each counted each time it is reached (what is shared counts as often as it is met; a slice's spare places count too). A statement '..UptoSaid' is the law's where the arguments, and the package variables that the reading takes, are together of bulk at most 1048576: NARROWER than '..Said'. Prove '..Said' where nothing that the law and all that it calls make is longer than what came in: it says more and counts as full. Else prove '..UptoSaid'. A law counts once. -/
mutual
def uptoBulk {H : Type} : DataW H → Nat
  | .lit (.string bytes) => bytes.length + 1
  | .lit _ => 1
  | .nil => 1
  | .ptr d => uptoBulk d + 1
  | .slice elems spare => uptoBulkAll elems + uptoBulkAll spare + 1
  | .agg parts => uptoBulkAll parts + 1
  | .iface _ d => uptoBulk d + 1
  | .map entries => uptoBulkEntries entries + 1
  | .held _ => 1
def uptoBulkAll {H : Type} : List (DataW H) → Nat
  | [] => 0
  | d :: r => uptoBulk d + uptoBulkAll r
def uptoBulkEntries {H : Type} : List (Lit × DataW H) → Nat
  | [] => 0
  | x :: r => uptoBulkEntry x + uptoBulkEntries r
def uptoBulkEntry {H : Type} : Lit × DataW H → Nat
  | (.string bytes, d) => bytes.length + uptoBulk d + 1
  | (_, d) => uptoBulk d + 1
 end
def uptoSmall : (H : Type) → List (DataW H) → Bool := fun _ ds => decide (uptoBulkAll ds ≤ 1048576)
def OpenSpec.upto (s : _root_.Go.ChangeSpec) : _root_.Go.OpenSpec := { _root_.Go.OpenSpec.ofChange s with cond := some uptoSmall }

/-- 'laws.FnExactRebuild', WHERE WHAT IT READS IS OF BULK AT MOST 1048576: true; the input reads as it did. -/
def fnExactRebuildUptoRow : OpenClaim := { program := "ytegjppihopncoad", sum := "90a2059a1edb03025bb79ed9da5bb6dee5e21fb24b138d76c24bf1272e5c7ec9", func := "loop.example/g00905/laws.FnExactRebuild", spec := "fnExactRebuild", apart := false, narrowed := true }
def FnExactRebuildUptoSaid : Prop := fnExactRebuildUptoRow.holds Try.pinned (OpenSpec.upto fnExactRebuildSpec)

/-- 'laws.FnExactUpdateParity', WHERE WHAT IT READS IS OF BULK AT MOST 1048576: true; the input reads as it did. -/
def fnExactUpdateParityUptoRow : OpenClaim := { program := "ytegjppihopncoad", sum := "90a2059a1edb03025bb79ed9da5bb6dee5e21fb24b138d76c24bf1272e5c7ec9", func := "loop.example/g00905/laws.FnExactUpdateParity", spec := "fnExactUpdateParity", apart := false, narrowed := true }
def FnExactUpdateParityUptoSaid : Prop := fnExactUpdateParityUptoRow.holds Try.pinned (OpenSpec.upto fnExactUpdateParitySpec)

/-- 'laws.FnExactParityDie', WHERE WHAT IT READS IS OF BULK AT MOST 1048576: true; the input reads as it did. -/
def fnExactParityDieUptoRow : OpenClaim := { program := "ytegjppihopncoad", sum := "90a2059a1edb03025bb79ed9da5bb6dee5e21fb24b138d76c24bf1272e5c7ec9", func := "loop.example/g00905/laws.FnExactParityDie", spec := "fnExactParityDie", apart := false, narrowed := true }
def FnExactParityDieUptoSaid : Prop := fnExactParityDieUptoRow.holds Try.pinned (OpenSpec.upto fnExactParityDieSpec)

/-- 'laws.FnExactDataDie', WHERE WHAT IT READS IS OF BULK AT MOST 1048576: true; the input reads as it did. -/
def fnExactDataDieUptoRow : OpenClaim := { program := "ytegjppihopncoad", sum := "90a2059a1edb03025bb79ed9da5bb6dee5e21fb24b138d76c24bf1272e5c7ec9", func := "loop.example/g00905/laws.FnExactDataDie", spec := "fnExactDataDie", apart := false, narrowed := true }
def FnExactDataDieUptoSaid : Prop := fnExactDataDieUptoRow.holds Try.pinned (OpenSpec.upto fnExactDataDieSpec)

/-- 'laws.FnExactUnitOn', WHERE WHAT IT READS IS OF BULK AT MOST 1048576: true; the input reads as it did. -/
def fnExactUnitOnUptoRow : OpenClaim := { program := "ytegjppihopncoad", sum := "90a2059a1edb03025bb79ed9da5bb6dee5e21fb24b138d76c24bf1272e5c7ec9", func := "loop.example/g00905/laws.FnExactUnitOn", spec := "fnExactUnitOn", apart := false, narrowed := true }
def FnExactUnitOnUptoSaid : Prop := fnExactUnitOnUptoRow.holds Try.pinned (OpenSpec.upto fnExactUnitOnSpec)

end Rows
end Go.Proofs.Ytegjppihopncoad
