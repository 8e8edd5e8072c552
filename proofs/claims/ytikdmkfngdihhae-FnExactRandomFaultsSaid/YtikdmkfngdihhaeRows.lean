/-
  No cell of these rows narrows 'for every input' (looked for: loops, veiled, ifaces, maps, wideKeys, modest, calm, conditions, laid).
  DERIVED. THE GIVEN ROWS OF THIS SEAT. 2 by the template 'for every input the law returns true; each argument reads behind the call as it read before'; 0 by the template 'total and deterministic' (their statements: YtikdmkfngdihhaeTotals.lean).
  GIVEN WITH THE SEED: the statements are not yours to turn. If you find one false, say at which input.
  Laid BY PROGRAM, IN A SANDBOX (cutbox-rows.mjs): the forced cells as the released guide's own fill.sh prints them over the translation 2871386cccf3b86c… (all of the seat's roots in one cut). By AI agents, Wed Nov 11 2026. No macro, syntax, notation, axiom, sorry.
-/
import Derived.Test.YtikdmkfngdihhaeChecked
import GoSem.Claim
import GoSem.ClaimJoined
import GoSem.ClaimMapViews
import Derived.JoinedTies
import Derived.KernelRfl
namespace Go.Proofs.Ytikdmkfngdihhae
/- THE CELL 'sum', in the pinned program and in every row, IS THE sha256 OF THE DUMP (.gsa) THAT YtikdmkfngdihhaeProg.lean LOADS. Nothing in Lean hashes anything: it is a label: what it is worth is what the hold of that sum in a sandbox is worth. -/
noncomputable def Try.pinned : Pinned := { name := "ytikdmkfngdihhae", sum := "2871386cccf3b86c4b440c8fa0b0b11720bfe4b4b2da76aacec50e1ae07697ac", checked := Try.checked }
namespace Rows
def none {H : Type} : Left H := { results := [], args := [] }

/-- 'laws.FnExactFaultedBlocks': WHATEVER THE INPUT: true; the input reads as it did. -/
def fnExactFaultedBlocksSpec : ChangeSpec := { name := "fnExactFaultedBlocks", fn := fun _ => fun
  | [d] => { results := [.lit (.bool true)], args := [d] }
  | _ => none }
def fnExactFaultedBlocksRow : OpenClaim := { program := "ytikdmkfngdihhae", sum := "2871386cccf3b86c4b440c8fa0b0b11720bfe4b4b2da76aacec50e1ae07697ac", func := "loop.example/g00905/laws.FnExactFaultedBlocks", spec := "fnExactFaultedBlocks", recurses := true, apart := false }
def FnExactFaultedBlocksSaid : Prop := fnExactFaultedBlocksRow.holds Try.pinned (OpenSpec.ofChange fnExactFaultedBlocksSpec)

/-- ITS FALSE NEIGHBOUR: 'it returns false'. Refute it at one input. -/
def fnExactFaultedBlocksWrong : ChangeSpec := { name := "fnExactFaultedBlocks", fn := fun _ => fun
  | [d] => { results := [.lit (.bool false)], args := [d] }
  | _ => none }
def FnExactFaultedBlocksWrongFalsely : Prop := fnExactFaultedBlocksRow.holds Try.pinned (OpenSpec.ofChange fnExactFaultedBlocksWrong)

/-- 'laws.FnExactRandomFaults': WHATEVER THE INPUT: true; the input reads as it did. -/
def fnExactRandomFaultsSpec : ChangeSpec := { name := "fnExactRandomFaults", fn := fun _ => fun
  | [d1, d2, d3] => { results := [.lit (.bool true)], args := [d1, d2, d3] }
  | _ => none }
def fnExactRandomFaultsRow : OpenClaim := { program := "ytikdmkfngdihhae", sum := "2871386cccf3b86c4b440c8fa0b0b11720bfe4b4b2da76aacec50e1ae07697ac", func := "loop.example/g00905/laws.FnExactRandomFaults", spec := "fnExactRandomFaults", unfollowed := true, recurses := true, apart := false }
def FnExactRandomFaultsSaid : Prop := fnExactRandomFaultsRow.holds Try.pinned (OpenSpec.ofChange fnExactRandomFaultsSpec)

/-- ITS FALSE NEIGHBOUR: 'it returns false'. Refute it at one input. -/
def fnExactRandomFaultsWrong : ChangeSpec := { name := "fnExactRandomFaults", fn := fun _ => fun
  | [d1, d2, d3] => { results := [.lit (.bool false)], args := [d1, d2, d3] }
  | _ => none }
def FnExactRandomFaultsWrongFalsely : Prop := fnExactRandomFaultsRow.holds Try.pinned (OpenSpec.ofChange fnExactRandomFaultsWrong)

/- THE SECOND FORM. 'bulk': how many values and letters a reading holds, each counted each time it is reached (what is shared counts as often as it is met; a slice's spare places count too). A statement '..UptoSaid' is the law's where the arguments, and the package variables that the reading takes, are together of bulk at most 1048576: NARROWER than '..Said'. Prove '..Said' where nothing that the law and all that it calls make is longer than what came in: it says more and counts as full. Else prove '..UptoSaid'. A law counts once. -/
mutual
def uptoBulk {H : Type} : DataW H → Nat
  | .lit (.string bytes) => bytes.length + 1
  | .lit _ => 1
  | .nil => 1
  | .ptr d => uptoBulk d + 1
  | .slice elems spare => uptoBulkAll elems + uptoBulkAll spare + 1
  | .agg parts => uptoBulkAll parts + 1
  | .iface _ d => uptoBulk d + 1
  | .map entries => uptoBulkEntries entries + 1
  | .held _ => 1
def uptoBulkAll {H : Type} : List (DataW H) → Nat
  | [] => 0
  | d :: r => uptoBulk d + uptoBulkAll r
def uptoBulkEntries {H : Type} : List (Lit × DataW H) → Nat
  | [] => 0
  | x :: r => uptoBulkEntry x + uptoBulkEntries r
def uptoBulkEntry {H : Type} : Lit × DataW H → Nat
  | (.string bytes, d) => bytes.length + uptoBulk d + 1
  | (_, d) => uptoBulk d + 1
 end
def uptoSmall : (H : Type) → List (DataW H) → Bool := fun _ ds => decide (uptoBulkAll ds ≤ 1048576)
def OpenSpec.upto (s : _root_.Go.ChangeSpec) : _root_.Go.OpenSpec := { _root_.Go.OpenSpec.ofChange s with cond := some uptoSmall }

/-- 'laws.FnExactFaultedBlocks', WHERE WHAT IT READS IS OF BULK AT MOST 1048576: true; the input reads as it did. -/
def fnExactFaultedBlocksUptoRow : OpenClaim := { program := "ytikdmkfngdihhae", sum := "2871386cccf3b86c4b440c8fa0b0b11720bfe4b4b2da76aacec50e1ae07697ac", func := "loop.example/g00905/laws.FnExactFaultedBlocks", spec := "fnExactFaultedBlocks", recurses := true, apart := false, narrowed := true }
def FnExactFaultedBlocksUptoSaid : Prop := fnExactFaultedBlocksUptoRow.holds Try.pinned (OpenSpec.upto fnExactFaultedBlocksSpec)

/-- 'laws.FnExactRandomFaults', WHERE WHAT IT READS IS OF BULK AT MOST 1048576: true; the input reads as it did. -/
def fnExactRandomFaultsUptoRow : OpenClaim := { program := "ytikdmkfngdihhae", sum := "2871386cccf3b86c4b440c8fa0b0b11720bfe4b4b2da76aacec50e1ae07697ac", func := "loop.example/g00905/laws.FnExactRandomFaults", spec := "fnExactRandomFaults", unfollowed := true, recurses := true, apart := false, narrowed := true }
def FnExactRandomFaultsUptoSaid : Prop := fnExactRandomFaultsUptoRow.holds Try.pinned (OpenSpec.upto fnExactRandomFaultsSpec)

end Rows
end Go.Proofs.Ytikdmkfngdihhae
