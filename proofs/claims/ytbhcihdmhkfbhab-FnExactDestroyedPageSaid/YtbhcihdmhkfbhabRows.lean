/-
  No cell of these rows narrows 'for every input' (looked for: loops, veiled, ifaces, maps, wideKeys, modest, calm, conditions, laid).
  DERIVED. THE GIVEN ROWS OF THIS SEAT. 5 by the template 'for every input the law returns true; each argument reads behind the call as it read before'; 0 by the template 'total and deterministic' (their statements: YtbhcihdmhkfbhabTotals.lean).
  GIVEN WITH THE SEED: the statements are not yours to turn. If you find one false, say at which input.
  Laid BY PROGRAM, IN A SANDBOX (cutbox-rows.mjs): the forced cells as the released guide's own fill.sh prints them over the translation 841e19f881003355… (all of the seat's roots in one cut). By AI agents, Wed Nov 11 2026. No macro, syntax, notation, axiom, sorry.
-/
import Derived.Test.YtbhcihdmhkfbhabChecked
import GoSem.Claim
import GoSem.ClaimJoined
import GoSem.ClaimMapViews
import Derived.JoinedTies
import Derived.KernelRfl
namespace Go.Proofs.Ytbhcihdmhkfbhab
/- THE CELL 'sum', in the pinned program and in every row, IS THE sha256 OF THE DUMP (.gsa) THAT YtbhcihdmhkfbhabProg.lean LOADS. Nothing in Lean hashes anything: it is a label: what it is worth is what the hold of that sum in a sandbox is worth. -/
noncomputable def Try.pinned : Pinned := { name := "ytbhcihdmhkfbhab", sum := "841e19f8810033555db98038a92f6cb172cba3692d59205019535032621d25a3", checked := Try.checked }
namespace Rows
def none {H : Type} : Left H := { results := [], args := [] }

/-- 'laws.FnExactErasedPage': WHATEVER THE INPUT: true; the input reads as it did. -/
def fnExactErasedPageSpec : ChangeSpec := { name := "fnExactErasedPage", fn := fun _ => fun
  | [] => { results := [.lit (.bool true)], args := [] }
  | _ => none }
def fnExactErasedPageRow : OpenClaim := { program := "ytbhcihdmhkfbhab", sum := "841e19f8810033555db98038a92f6cb172cba3692d59205019535032621d25a3", func := "loop.example/g00905/laws.FnExactErasedPage", spec := "fnExactErasedPage", inPlace := ["internal/abi.NoEscape", "internal/bytealg.MakeNoZero"], apart := false }
def FnExactErasedPageSaid : Prop := fnExactErasedPageRow.holds Try.pinned (OpenSpec.ofChange fnExactErasedPageSpec)

/-- ITS FALSE NEIGHBOUR: 'it returns false'. Refute it at one input. -/
def fnExactErasedPageWrong : ChangeSpec := { name := "fnExactErasedPage", fn := fun _ => fun
  | [] => { results := [.lit (.bool false)], args := [] }
  | _ => none }
def FnExactErasedPageWrongFalsely : Prop := fnExactErasedPageRow.holds Try.pinned (OpenSpec.ofChange fnExactErasedPageWrong)

/-- 'laws.FnExactIsErased': WHATEVER THE INPUT: true; the input reads as it did. -/
def fnExactIsErasedSpec : ChangeSpec := { name := "fnExactIsErased", fn := fun _ => fun
  | [d] => { results := [.lit (.bool true)], args := [d] }
  | _ => none }
def fnExactIsErasedRow : OpenClaim := { program := "ytbhcihdmhkfbhab", sum := "841e19f8810033555db98038a92f6cb172cba3692d59205019535032621d25a3", func := "loop.example/g00905/laws.FnExactIsErased", spec := "fnExactIsErased", inPlace := ["internal/abi.NoEscape", "internal/bytealg.MakeNoZero"], apart := false }
def FnExactIsErasedSaid : Prop := fnExactIsErasedRow.holds Try.pinned (OpenSpec.ofChange fnExactIsErasedSpec)

/-- ITS FALSE NEIGHBOUR: 'it returns false'. Refute it at one input. -/
def fnExactIsErasedWrong : ChangeSpec := { name := "fnExactIsErased", fn := fun _ => fun
  | [d] => { results := [.lit (.bool false)], args := [d] }
  | _ => none }
def FnExactIsErasedWrongFalsely : Prop := fnExactIsErasedRow.holds Try.pinned (OpenSpec.ofChange fnExactIsErasedWrong)

/-- 'laws.FnExactTornPage': WHATEVER THE INPUT: true; the input reads as it did. -/
def fnExactTornPageSpec : ChangeSpec := { name := "fnExactTornPage", fn := fun _ => fun
  | [d1, d2] => { results := [.lit (.bool true)], args := [d1, d2] }
  | _ => none }
def fnExactTornPageRow : OpenClaim := { program := "ytbhcihdmhkfbhab", sum := "841e19f8810033555db98038a92f6cb172cba3692d59205019535032621d25a3", func := "loop.example/g00905/laws.FnExactTornPage", spec := "fnExactTornPage", inPlace := ["internal/abi.NoEscape", "internal/bytealg.MakeNoZero"], apart := false }
def FnExactTornPageSaid : Prop := fnExactTornPageRow.holds Try.pinned (OpenSpec.ofChange fnExactTornPageSpec)

/-- ITS FALSE NEIGHBOUR: 'it returns false'. Refute it at one input. -/
def fnExactTornPageWrong : ChangeSpec := { name := "fnExactTornPage", fn := fun _ => fun
  | [d1, d2] => { results := [.lit (.bool false)], args := [d1, d2] }
  | _ => none }
def FnExactTornPageWrongFalsely : Prop := fnExactTornPageRow.holds Try.pinned (OpenSpec.ofChange fnExactTornPageWrong)

/-- 'laws.FnExactDestroyedPage': WHATEVER THE INPUT: true; the input reads as it did. -/
def fnExactDestroyedPageSpec : ChangeSpec := { name := "fnExactDestroyedPage", fn := fun _ => fun
  | [] => { results := [.lit (.bool true)], args := [] }
  | _ => none }
def fnExactDestroyedPageRow : OpenClaim := { program := "ytbhcihdmhkfbhab", sum := "841e19f8810033555db98038a92f6cb172cba3692d59205019535032621d25a3", func := "loop.example/g00905/laws.FnExactDestroyedPage", spec := "fnExactDestroyedPage", inPlace := ["internal/abi.NoEscape", "internal/bytealg.MakeNoZero"], apart := false }
def FnExactDestroyedPageSaid : Prop := fnExactDestroyedPageRow.holds Try.pinned (OpenSpec.ofChange fnExactDestroyedPageSpec)

/-- ITS FALSE NEIGHBOUR: 'it returns false'. Refute it at one input. -/
def fnExactDestroyedPageWrong : ChangeSpec := { name := "fnExactDestroyedPage", fn := fun _ => fun
  | [] => { results := [.lit (.bool false)], args := [] }
  | _ => none }
def FnExactDestroyedPageWrongFalsely : Prop := fnExactDestroyedPageRow.holds Try.pinned (OpenSpec.ofChange fnExactDestroyedPageWrong)

/-- 'laws.FnExactFlipPageBit': WHATEVER THE INPUT: true; the input reads as it did. -/
def fnExactFlipPageBitSpec : ChangeSpec := { name := "fnExactFlipPageBit", fn := fun _ => fun
  | [d1, d2] => { results := [.lit (.bool true)], args := [d1, d2] }
  | _ => none }
def fnExactFlipPageBitRow : OpenClaim := { program := "ytbhcihdmhkfbhab", sum := "841e19f8810033555db98038a92f6cb172cba3692d59205019535032621d25a3", func := "loop.example/g00905/laws.FnExactFlipPageBit", spec := "fnExactFlipPageBit", apart := false }
def FnExactFlipPageBitSaid : Prop := fnExactFlipPageBitRow.holds Try.pinned (OpenSpec.ofChange fnExactFlipPageBitSpec)

/-- ITS FALSE NEIGHBOUR: 'it returns false'. Refute it at one input. -/
def fnExactFlipPageBitWrong : ChangeSpec := { name := "fnExactFlipPageBit", fn := fun _ => fun
  | [d1, d2] => { results := [.lit (.bool false)], args := [d1, d2] }
  | _ => none }
def FnExactFlipPageBitWrongFalsely : Prop := fnExactFlipPageBitRow.holds Try.pinned (OpenSpec.ofChange fnExactFlipPageBitWrong)

/- THE SECOND FORM. 'bulk': how many values and letters a reading holds, each counted each time it is reached (what is shared counts as often as it is met; a slice's spare places count too). A statement '..UptoSaid' is the law's where the arguments, and the package variables that the reading takes, are together of bulk at most 1048576: NARROWER than '..Said'. Prove '..Said' where nothing that the law and all that it calls make is longer than what came in: it says more and counts as full. Else prove '..UptoSaid'. A law counts once. -/
mutual
def uptoBulk {H : Type} : DataW H → Nat
  | .lit (.string bytes) => bytes.length + 1
  | .lit _ => 1
  | .nil => 1
  | .ptr d => uptoBulk d + 1
  | .slice elems spare => uptoBulkAll elems + uptoBulkAll spare + 1
  | .agg parts => uptoBulkAll parts + 1
  | .iface _ d => uptoBulk d + 1
  | .map entries => uptoBulkEntries entries + 1
  | .held _ => 1
def uptoBulkAll {H : Type} : List (DataW H) → Nat
  | [] => 0
  | d :: r => uptoBulk d + uptoBulkAll r
def uptoBulkEntries {H : Type} : List (Lit × DataW H) → Nat
  | [] => 0
  | x :: r => uptoBulkEntry x + uptoBulkEntries r
def uptoBulkEntry {H : Type} : Lit × DataW H → Nat
  | (.string bytes, d) => bytes.length + uptoBulk d + 1
  | (_, d) => uptoBulk d + 1
 end
def uptoSmall : (H : Type) → List (DataW H) → Bool := fun _ ds => decide (uptoBulkAll ds ≤ 1048576)
def OpenSpec.upto (s : _root_.Go.ChangeSpec) : _root_.Go.OpenSpec := { _root_.Go.OpenSpec.ofChange s with cond := some uptoSmall }

/-- 'laws.FnExactErasedPage', WHERE WHAT IT READS IS OF BULK AT MOST 1048576: true; the input reads as it did. -/
def fnExactErasedPageUptoRow : OpenClaim := { program := "ytbhcihdmhkfbhab", sum := "841e19f8810033555db98038a92f6cb172cba3692d59205019535032621d25a3", func := "loop.example/g00905/laws.FnExactErasedPage", spec := "fnExactErasedPage", inPlace := ["internal/abi.NoEscape", "internal/bytealg.MakeNoZero"], apart := false, narrowed := true }
def FnExactErasedPageUptoSaid : Prop := fnExactErasedPageUptoRow.holds Try.pinned (OpenSpec.upto fnExactErasedPageSpec)

/-- 'laws.FnExactIsErased', WHERE WHAT IT READS IS OF BULK AT MOST 1048576: true; the input reads as it did. -/
def fnExactIsErasedUptoRow : OpenClaim := { program := "ytbhcihdmhkfbhab", sum := "841e19f8810033555db98038a92f6cb172cba3692d59205019535032621d25a3", func := "loop.example/g00905/laws.FnExactIsErased", spec := "fnExactIsErased", inPlace := ["internal/abi.NoEscape", "internal/bytealg.MakeNoZero"], apart := false, narrowed := true }
def FnExactIsErasedUptoSaid : Prop := fnExactIsErasedUptoRow.holds Try.pinned (OpenSpec.upto fnExactIsErasedSpec)

/-- 'laws.FnExactTornPage', WHERE WHAT IT READS IS OF BULK AT MOST 1048576: true; the input reads as it did. -/
def fnExactTornPageUptoRow : OpenClaim := { program := "ytbhcihdmhkfbhab", sum := "841e19f8810033555db98038a92f6cb172cba3692d59205019535032621d25a3", func := "loop.example/g00905/laws.FnExactTornPage", spec := "fnExactTornPage", inPlace := ["internal/abi.NoEscape", "internal/bytealg.MakeNoZero"], apart := false, narrowed := true }
def FnExactTornPageUptoSaid : Prop := fnExactTornPageUptoRow.holds Try.pinned (OpenSpec.upto fnExactTornPageSpec)

/-- 'laws.FnExactDestroyedPage', WHERE WHAT IT READS IS OF BULK AT MOST 1048576: true; the input reads as it did. -/
def fnExactDestroyedPageUptoRow : OpenClaim := { program := "ytbhcihdmhkfbhab", sum := "841e19f8810033555db98038a92f6cb172cba3692d59205019535032621d25a3", func := "loop.example/g00905/laws.FnExactDestroyedPage", spec := "fnExactDestroyedPage", inPlace := ["internal/abi.NoEscape", "internal/bytealg.MakeNoZero"], apart := false, narrowed := true }
def FnExactDestroyedPageUptoSaid : Prop := fnExactDestroyedPageUptoRow.holds Try.pinned (OpenSpec.upto fnExactDestroyedPageSpec)

/-- 'laws.FnExactFlipPageBit', WHERE WHAT IT READS IS OF BULK AT MOST 1048576: true; the input reads as it did. -/
def fnExactFlipPageBitUptoRow : OpenClaim := { program := "ytbhcihdmhkfbhab", sum := "841e19f8810033555db98038a92f6cb172cba3692d59205019535032621d25a3", func := "loop.example/g00905/laws.FnExactFlipPageBit", spec := "fnExactFlipPageBit", apart := false, narrowed := true }
def FnExactFlipPageBitUptoSaid : Prop := fnExactFlipPageBitUptoRow.holds Try.pinned (OpenSpec.upto fnExactFlipPageBitSpec)

end Rows
end Go.Proofs.Ytbhcihdmhkfbhab
