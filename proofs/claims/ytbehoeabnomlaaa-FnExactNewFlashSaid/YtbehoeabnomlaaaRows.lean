/-
  No cell of these rows narrows 'for every input' (looked for: loops, veiled, ifaces, maps, wideKeys, modest, calm, conditions, laid).
  DERIVED. THE GIVEN ROWS OF THIS SEAT. 12 by the template 'for every input the law returns true; each argument reads behind the call as it read before'; 0 by the template 'total and deterministic' (their statements: YtbehoeabnomlaaaTotals.lean).
  GIVEN WITH THE SEED: the statements are not yours to turn. If you find one false, say at which input.
  Laid BY PROGRAM, IN A SANDBOX (cutbox-rows.mjs): the forced cells as the released guide's own fill.sh prints them over the translation c6697bb45f4559ec… (all of the seat's roots in one cut). By AI agents, Wed Nov 11 2026. No macro, syntax, notation, axiom, sorry.
-/
import Derived.Test.YtbehoeabnomlaaaChecked
import GoSem.Claim
import GoSem.ClaimJoined
import GoSem.ClaimMapViews
import Derived.JoinedTies
import Derived.KernelRfl
namespace Go.Proofs.Ytbehoeabnomlaaa
/- THE CELL 'sum', in the pinned program and in every row, IS THE sha256 OF THE DUMP (.gsa) THAT YtbehoeabnomlaaaProg.lean LOADS. Nothing in Lean hashes anything: it is a label: what it is worth is what the hold of that sum in a sandbox is worth. -/
noncomputable def Try.pinned : Pinned := { name := "ytbehoeabnomlaaa", sum := "c6697bb45f4559ec6962bd4d50e91851ad8f84526792f7896dc3f0881f700a73", checked := Try.checked }
namespace Rows
def none {H : Type} : Left H := { results := [], args := [] }

/-- 'laws.FnExactValidMap': WHATEVER THE INPUT: true; the input reads as it did. -/
def fnExactValidMapSpec : ChangeSpec := { name := "fnExactValidMap", fn := fun _ => fun
  | [d] => { results := [.lit (.bool true)], args := [d] }
  | _ => none }
def fnExactValidMapRow : OpenClaim := { program := "ytbehoeabnomlaaa", sum := "c6697bb45f4559ec6962bd4d50e91851ad8f84526792f7896dc3f0881f700a73", func := "loop.example/g00905/laws.FnExactValidMap", spec := "fnExactValidMap", apart := false }
def FnExactValidMapSaid : Prop := fnExactValidMapRow.holds Try.pinned (OpenSpec.ofChange fnExactValidMapSpec)

/-- ITS FALSE NEIGHBOUR: 'it returns false'. Refute it at one input. -/
def fnExactValidMapWrong : ChangeSpec := { name := "fnExactValidMap", fn := fun _ => fun
  | [d] => { results := [.lit (.bool false)], args := [d] }
  | _ => none }
def FnExactValidMapWrongFalsely : Prop := fnExactValidMapRow.holds Try.pinned (OpenSpec.ofChange fnExactValidMapWrong)

/-- 'laws.FnExactNewMap': WHATEVER THE INPUT: true; the input reads as it did. -/
def fnExactNewMapSpec : ChangeSpec := { name := "fnExactNewMap", fn := fun _ => fun
  | [d1, d2, d3] => { results := [.lit (.bool true)], args := [d1, d2, d3] }
  | _ => none }
def fnExactNewMapRow : OpenClaim := { program := "ytbehoeabnomlaaa", sum := "c6697bb45f4559ec6962bd4d50e91851ad8f84526792f7896dc3f0881f700a73", func := "loop.example/g00905/laws.FnExactNewMap", spec := "fnExactNewMap", apart := false }
def FnExactNewMapSaid : Prop := fnExactNewMapRow.holds Try.pinned (OpenSpec.ofChange fnExactNewMapSpec)

/-- ITS FALSE NEIGHBOUR: 'it returns false'. Refute it at one input. -/
def fnExactNewMapWrong : ChangeSpec := { name := "fnExactNewMap", fn := fun _ => fun
  | [d1, d2, d3] => { results := [.lit (.bool false)], args := [d1, d2, d3] }
  | _ => none }
def FnExactNewMapWrongFalsely : Prop := fnExactNewMapRow.holds Try.pinned (OpenSpec.ofChange fnExactNewMapWrong)

/-- 'laws.FnExactPhysOf': WHATEVER THE INPUT: true; the input reads as it did. -/
def fnExactPhysOfSpec : ChangeSpec := { name := "fnExactPhysOf", fn := fun _ => fun
  | [d1, d2] => { results := [.lit (.bool true)], args := [d1, d2] }
  | _ => none }
def fnExactPhysOfRow : OpenClaim := { program := "ytbehoeabnomlaaa", sum := "c6697bb45f4559ec6962bd4d50e91851ad8f84526792f7896dc3f0881f700a73", func := "loop.example/g00905/laws.FnExactPhysOf", spec := "fnExactPhysOf", apart := false }
def FnExactPhysOfSaid : Prop := fnExactPhysOfRow.holds Try.pinned (OpenSpec.ofChange fnExactPhysOfSpec)

/-- ITS FALSE NEIGHBOUR: 'it returns false'. Refute it at one input. -/
def fnExactPhysOfWrong : ChangeSpec := { name := "fnExactPhysOf", fn := fun _ => fun
  | [d1, d2] => { results := [.lit (.bool false)], args := [d1, d2] }
  | _ => none }
def FnExactPhysOfWrongFalsely : Prop := fnExactPhysOfRow.holds Try.pinned (OpenSpec.ofChange fnExactPhysOfWrong)

/-- 'laws.FnExactLogicalAt': WHATEVER THE INPUT: true; the input reads as it did. -/
def fnExactLogicalAtSpec : ChangeSpec := { name := "fnExactLogicalAt", fn := fun _ => fun
  | [d1, d2] => { results := [.lit (.bool true)], args := [d1, d2] }
  | _ => none }
def fnExactLogicalAtRow : OpenClaim := { program := "ytbehoeabnomlaaa", sum := "c6697bb45f4559ec6962bd4d50e91851ad8f84526792f7896dc3f0881f700a73", func := "loop.example/g00905/laws.FnExactLogicalAt", spec := "fnExactLogicalAt", apart := false }
def FnExactLogicalAtSaid : Prop := fnExactLogicalAtRow.holds Try.pinned (OpenSpec.ofChange fnExactLogicalAtSpec)

/-- ITS FALSE NEIGHBOUR: 'it returns false'. Refute it at one input. -/
def fnExactLogicalAtWrong : ChangeSpec := { name := "fnExactLogicalAt", fn := fun _ => fun
  | [d1, d2] => { results := [.lit (.bool false)], args := [d1, d2] }
  | _ => none }
def FnExactLogicalAtWrongFalsely : Prop := fnExactLogicalAtRow.holds Try.pinned (OpenSpec.ofChange fnExactLogicalAtWrong)

/-- 'laws.FnExactLivePages': WHATEVER THE INPUT: true; the input reads as it did. -/
def fnExactLivePagesSpec : ChangeSpec := { name := "fnExactLivePages", fn := fun _ => fun
  | [d1, d2] => { results := [.lit (.bool true)], args := [d1, d2] }
  | _ => none }
def fnExactLivePagesRow : OpenClaim := { program := "ytbehoeabnomlaaa", sum := "c6697bb45f4559ec6962bd4d50e91851ad8f84526792f7896dc3f0881f700a73", func := "loop.example/g00905/laws.FnExactLivePages", spec := "fnExactLivePages", apart := false }
def FnExactLivePagesSaid : Prop := fnExactLivePagesRow.holds Try.pinned (OpenSpec.ofChange fnExactLivePagesSpec)

/-- ITS FALSE NEIGHBOUR: 'it returns false'. Refute it at one input. -/
def fnExactLivePagesWrong : ChangeSpec := { name := "fnExactLivePages", fn := fun _ => fun
  | [d1, d2] => { results := [.lit (.bool false)], args := [d1, d2] }
  | _ => none }
def FnExactLivePagesWrongFalsely : Prop := fnExactLivePagesRow.holds Try.pinned (OpenSpec.ofChange fnExactLivePagesWrong)

/-- 'laws.FnExactLiveIn': WHATEVER THE INPUT: true; the input reads as it did. -/
def fnExactLiveInSpec : ChangeSpec := { name := "fnExactLiveIn", fn := fun _ => fun
  | [d1, d2] => { results := [.lit (.bool true)], args := [d1, d2] }
  | _ => none }
def fnExactLiveInRow : OpenClaim := { program := "ytbehoeabnomlaaa", sum := "c6697bb45f4559ec6962bd4d50e91851ad8f84526792f7896dc3f0881f700a73", func := "loop.example/g00905/laws.FnExactLiveIn", spec := "fnExactLiveIn", apart := false }
def FnExactLiveInSaid : Prop := fnExactLiveInRow.holds Try.pinned (OpenSpec.ofChange fnExactLiveInSpec)

/-- ITS FALSE NEIGHBOUR: 'it returns false'. Refute it at one input. -/
def fnExactLiveInWrong : ChangeSpec := { name := "fnExactLiveIn", fn := fun _ => fun
  | [d1, d2] => { results := [.lit (.bool false)], args := [d1, d2] }
  | _ => none }
def FnExactLiveInWrongFalsely : Prop := fnExactLiveInRow.holds Try.pinned (OpenSpec.ofChange fnExactLiveInWrong)

/-- 'laws.FnExactMappedPages': WHATEVER THE INPUT: true; the input reads as it did. -/
def fnExactMappedPagesSpec : ChangeSpec := { name := "fnExactMappedPages", fn := fun _ => fun
  | [d] => { results := [.lit (.bool true)], args := [d] }
  | _ => none }
def fnExactMappedPagesRow : OpenClaim := { program := "ytbehoeabnomlaaa", sum := "c6697bb45f4559ec6962bd4d50e91851ad8f84526792f7896dc3f0881f700a73", func := "loop.example/g00905/laws.FnExactMappedPages", spec := "fnExactMappedPages", apart := false }
def FnExactMappedPagesSaid : Prop := fnExactMappedPagesRow.holds Try.pinned (OpenSpec.ofChange fnExactMappedPagesSpec)

/-- ITS FALSE NEIGHBOUR: 'it returns false'. Refute it at one input. -/
def fnExactMappedPagesWrong : ChangeSpec := { name := "fnExactMappedPages", fn := fun _ => fun
  | [d] => { results := [.lit (.bool false)], args := [d] }
  | _ => none }
def FnExactMappedPagesWrongFalsely : Prop := fnExactMappedPagesRow.holds Try.pinned (OpenSpec.ofChange fnExactMappedPagesWrong)

/-- 'laws.FnExactValidFlash': WHATEVER THE INPUT: true; the input reads as it did. -/
def fnExactValidFlashSpec : ChangeSpec := { name := "fnExactValidFlash", fn := fun _ => fun
  | [d] => { results := [.lit (.bool true)], args := [d] }
  | _ => none }
def fnExactValidFlashRow : OpenClaim := { program := "ytbehoeabnomlaaa", sum := "c6697bb45f4559ec6962bd4d50e91851ad8f84526792f7896dc3f0881f700a73", func := "loop.example/g00905/laws.FnExactValidFlash", spec := "fnExactValidFlash", apart := false }
def FnExactValidFlashSaid : Prop := fnExactValidFlashRow.holds Try.pinned (OpenSpec.ofChange fnExactValidFlashSpec)

/-- ITS FALSE NEIGHBOUR: 'it returns false'. Refute it at one input. -/
def fnExactValidFlashWrong : ChangeSpec := { name := "fnExactValidFlash", fn := fun _ => fun
  | [d] => { results := [.lit (.bool false)], args := [d] }
  | _ => none }
def FnExactValidFlashWrongFalsely : Prop := fnExactValidFlashRow.holds Try.pinned (OpenSpec.ofChange fnExactValidFlashWrong)

/-- 'laws.FnExactNewFlash': WHATEVER THE INPUT: true; the input reads as it did. -/
def fnExactNewFlashSpec : ChangeSpec := { name := "fnExactNewFlash", fn := fun _ => fun
  | [d] => { results := [.lit (.bool true)], args := [d] }
  | _ => none }
def fnExactNewFlashRow : OpenClaim := { program := "ytbehoeabnomlaaa", sum := "c6697bb45f4559ec6962bd4d50e91851ad8f84526792f7896dc3f0881f700a73", func := "loop.example/g00905/laws.FnExactNewFlash", spec := "fnExactNewFlash", apart := false }
def FnExactNewFlashSaid : Prop := fnExactNewFlashRow.holds Try.pinned (OpenSpec.ofChange fnExactNewFlashSpec)

/-- ITS FALSE NEIGHBOUR: 'it returns false'. Refute it at one input. -/
def fnExactNewFlashWrong : ChangeSpec := { name := "fnExactNewFlash", fn := fun _ => fun
  | [d] => { results := [.lit (.bool false)], args := [d] }
  | _ => none }
def FnExactNewFlashWrongFalsely : Prop := fnExactNewFlashRow.holds Try.pinned (OpenSpec.ofChange fnExactNewFlashWrong)

/-- 'laws.FnExactEraseBlock': WHATEVER THE INPUT: true; the input reads as it did. -/
def fnExactEraseBlockSpec : ChangeSpec := { name := "fnExactEraseBlock", fn := fun _ => fun
  | [d1, d2] => { results := [.lit (.bool true)], args := [d1, d2] }
  | _ => none }
def fnExactEraseBlockRow : OpenClaim := { program := "ytbehoeabnomlaaa", sum := "c6697bb45f4559ec6962bd4d50e91851ad8f84526792f7896dc3f0881f700a73", func := "loop.example/g00905/laws.FnExactEraseBlock", spec := "fnExactEraseBlock", apart := false }
def FnExactEraseBlockSaid : Prop := fnExactEraseBlockRow.holds Try.pinned (OpenSpec.ofChange fnExactEraseBlockSpec)

/-- ITS FALSE NEIGHBOUR: 'it returns false'. Refute it at one input. -/
def fnExactEraseBlockWrong : ChangeSpec := { name := "fnExactEraseBlock", fn := fun _ => fun
  | [d1, d2] => { results := [.lit (.bool false)], args := [d1, d2] }
  | _ => none }
def FnExactEraseBlockWrongFalsely : Prop := fnExactEraseBlockRow.holds Try.pinned (OpenSpec.ofChange fnExactEraseBlockWrong)

/-- 'laws.FnExactPowerOn': WHATEVER THE INPUT: true; the input reads as it did. -/
def fnExactPowerOnSpec : ChangeSpec := { name := "fnExactPowerOn", fn := fun _ => fun
  | [d] => { results := [.lit (.bool true)], args := [d] }
  | _ => none }
def fnExactPowerOnRow : OpenClaim := { program := "ytbehoeabnomlaaa", sum := "c6697bb45f4559ec6962bd4d50e91851ad8f84526792f7896dc3f0881f700a73", func := "loop.example/g00905/laws.FnExactPowerOn", spec := "fnExactPowerOn", apart := false }
def FnExactPowerOnSaid : Prop := fnExactPowerOnRow.holds Try.pinned (OpenSpec.ofChange fnExactPowerOnSpec)

/-- ITS FALSE NEIGHBOUR: 'it returns false'. Refute it at one input. -/
def fnExactPowerOnWrong : ChangeSpec := { name := "fnExactPowerOn", fn := fun _ => fun
  | [d] => { results := [.lit (.bool false)], args := [d] }
  | _ => none }
def FnExactPowerOnWrongFalsely : Prop := fnExactPowerOnRow.holds Try.pinned (OpenSpec.ofChange fnExactPowerOnWrong)

/-- 'laws.FnExactArmFuse': WHATEVER THE INPUT: true; the input reads as it did. -/
def fnExactArmFuseSpec : ChangeSpec := { name := "fnExactArmFuse", fn := fun _ => fun
  | [d1, d2, d3] => { results := [.lit (.bool true)], args := [d1, d2, d3] }
  | _ => none }
def fnExactArmFuseRow : OpenClaim := { program := "ytbehoeabnomlaaa", sum := "c6697bb45f4559ec6962bd4d50e91851ad8f84526792f7896dc3f0881f700a73", func := "loop.example/g00905/laws.FnExactArmFuse", spec := "fnExactArmFuse", apart := false }
def FnExactArmFuseSaid : Prop := fnExactArmFuseRow.holds Try.pinned (OpenSpec.ofChange fnExactArmFuseSpec)

/-- ITS FALSE NEIGHBOUR: 'it returns false'. Refute it at one input. -/
def fnExactArmFuseWrong : ChangeSpec := { name := "fnExactArmFuse", fn := fun _ => fun
  | [d1, d2, d3] => { results := [.lit (.bool false)], args := [d1, d2, d3] }
  | _ => none }
def FnExactArmFuseWrongFalsely : Prop := fnExactArmFuseRow.holds Try.pinned (OpenSpec.ofChange fnExactArmFuseWrong)

/- THE SECOND FORM. 'bulk': how many values and letters a reading holds, each counted each time it is reached (what is shared counts as often as it is met; a slice's spare places count too). A statement '..UptoSaid' is the law's where the arguments, and the package variables that the reading takes, are together of bulk at most 1048576: NARROWER than '..Said'. Prove '..Said' where nothing that the law and all that it calls make is longer than what came in: it says more and counts as full. Else prove '..UptoSaid'. A law counts once. -/
mutual
def uptoBulk {H : Type} : DataW H → Nat
  | .lit (.string bytes) => bytes.length + 1
  | .lit _ => 1
  | .nil => 1
  | .ptr d => uptoBulk d + 1
  | .slice elems spare => uptoBulkAll elems + uptoBulkAll spare + 1
  | .agg parts => uptoBulkAll parts + 1
  | .iface _ d => uptoBulk d + 1
  | .map entries => uptoBulkEntries entries + 1
  | .held _ => 1
def uptoBulkAll {H : Type} : List (DataW H) → Nat
  | [] => 0
  | d :: r => uptoBulk d + uptoBulkAll r
def uptoBulkEntries {H : Type} : List (Lit × DataW H) → Nat
  | [] => 0
  | x :: r => uptoBulkEntry x + uptoBulkEntries r
def uptoBulkEntry {H : Type} : Lit × DataW H → Nat
  | (.string bytes, d) => bytes.length + uptoBulk d + 1
  | (_, d) => uptoBulk d + 1
 end
def uptoSmall : (H : Type) → List (DataW H) → Bool := fun _ ds => decide (uptoBulkAll ds ≤ 1048576)
def OpenSpec.upto (s : _root_.Go.ChangeSpec) : _root_.Go.OpenSpec := { _root_.Go.OpenSpec.ofChange s with cond := some uptoSmall }

/-- 'laws.FnExactValidMap', WHERE WHAT IT READS IS OF BULK AT MOST 1048576: true; the input reads as it did. -/
def fnExactValidMapUptoRow : OpenClaim := { program := "ytbehoeabnomlaaa", sum := "c6697bb45f4559ec6962bd4d50e91851ad8f84526792f7896dc3f0881f700a73", func := "loop.example/g00905/laws.FnExactValidMap", spec := "fnExactValidMap", apart := false, narrowed := true }
def FnExactValidMapUptoSaid : Prop := fnExactValidMapUptoRow.holds Try.pinned (OpenSpec.upto fnExactValidMapSpec)

/-- 'laws.FnExactNewMap', WHERE WHAT IT READS IS OF BULK AT MOST 1048576: true; the input reads as it did. -/
def fnExactNewMapUptoRow : OpenClaim := { program := "ytbehoeabnomlaaa", sum := "c6697bb45f4559ec6962bd4d50e91851ad8f84526792f7896dc3f0881f700a73", func := "loop.example/g00905/laws.FnExactNewMap", spec := "fnExactNewMap", apart := false, narrowed := true }
def FnExactNewMapUptoSaid : Prop := fnExactNewMapUptoRow.holds Try.pinned (OpenSpec.upto fnExactNewMapSpec)

/-- 'laws.FnExactPhysOf', WHERE WHAT IT READS IS OF BULK AT MOST 1048576: true; the input reads as it did. -/
def fnExactPhysOfUptoRow : OpenClaim := { program := "ytbehoeabnomlaaa", sum := "c6697bb45f4559ec6962bd4d50e91851ad8f84526792f7896dc3f0881f700a73", func := "loop.example/g00905/laws.FnExactPhysOf", spec := "fnExactPhysOf", apart := false, narrowed := true }
def FnExactPhysOfUptoSaid : Prop := fnExactPhysOfUptoRow.holds Try.pinned (OpenSpec.upto fnExactPhysOfSpec)

/-- 'laws.FnExactLogicalAt', WHERE WHAT IT READS IS OF BULK AT MOST 1048576: true; the input reads as it did. -/
def fnExactLogicalAtUptoRow : OpenClaim := { program := "ytbehoeabnomlaaa", sum := "c6697bb45f4559ec6962bd4d50e91851ad8f84526792f7896dc3f0881f700a73", func := "loop.example/g00905/laws.FnExactLogicalAt", spec := "fnExactLogicalAt", apart := false, narrowed := true }
def FnExactLogicalAtUptoSaid : Prop := fnExactLogicalAtUptoRow.holds Try.pinned (OpenSpec.upto fnExactLogicalAtSpec)

/-- 'laws.FnExactLivePages', WHERE WHAT IT READS IS OF BULK AT MOST 1048576: true; the input reads as it did. -/
def fnExactLivePagesUptoRow : OpenClaim := { program := "ytbehoeabnomlaaa", sum := "c6697bb45f4559ec6962bd4d50e91851ad8f84526792f7896dc3f0881f700a73", func := "loop.example/g00905/laws.FnExactLivePages", spec := "fnExactLivePages", apart := false, narrowed := true }
def FnExactLivePagesUptoSaid : Prop := fnExactLivePagesUptoRow.holds Try.pinned (OpenSpec.upto fnExactLivePagesSpec)

/-- 'laws.FnExactLiveIn', WHERE WHAT IT READS IS OF BULK AT MOST 1048576: true; the input reads as it did. -/
def fnExactLiveInUptoRow : OpenClaim := { program := "ytbehoeabnomlaaa", sum := "c6697bb45f4559ec6962bd4d50e91851ad8f84526792f7896dc3f0881f700a73", func := "loop.example/g00905/laws.FnExactLiveIn", spec := "fnExactLiveIn", apart := false, narrowed := true }
def FnExactLiveInUptoSaid : Prop := fnExactLiveInUptoRow.holds Try.pinned (OpenSpec.upto fnExactLiveInSpec)

/-- 'laws.FnExactMappedPages', WHERE WHAT IT READS IS OF BULK AT MOST 1048576: true; the input reads as it did. -/
def fnExactMappedPagesUptoRow : OpenClaim := { program := "ytbehoeabnomlaaa", sum := "c6697bb45f4559ec6962bd4d50e91851ad8f84526792f7896dc3f0881f700a73", func := "loop.example/g00905/laws.FnExactMappedPages", spec := "fnExactMappedPages", apart := false, narrowed := true }
def FnExactMappedPagesUptoSaid : Prop := fnExactMappedPagesUptoRow.holds Try.pinned (OpenSpec.upto fnExactMappedPagesSpec)

/-- 'laws.FnExactValidFlash', WHERE WHAT IT READS IS OF BULK AT MOST 1048576: true; the input reads as it did. -/
def fnExactValidFlashUptoRow : OpenClaim := { program := "ytbehoeabnomlaaa", sum := "c6697bb45f4559ec6962bd4d50e91851ad8f84526792f7896dc3f0881f700a73", func := "loop.example/g00905/laws.FnExactValidFlash", spec := "fnExactValidFlash", apart := false, narrowed := true }
def FnExactValidFlashUptoSaid : Prop := fnExactValidFlashUptoRow.holds Try.pinned (OpenSpec.upto fnExactValidFlashSpec)

/-- 'laws.FnExactNewFlash', WHERE WHAT IT READS IS OF BULK AT MOST 1048576: true; the input reads as it did. -/
def fnExactNewFlashUptoRow : OpenClaim := { program := "ytbehoeabnomlaaa", sum := "c6697bb45f4559ec6962bd4d50e91851ad8f84526792f7896dc3f0881f700a73", func := "loop.example/g00905/laws.FnExactNewFlash", spec := "fnExactNewFlash", apart := false, narrowed := true }
def FnExactNewFlashUptoSaid : Prop := fnExactNewFlashUptoRow.holds Try.pinned (OpenSpec.upto fnExactNewFlashSpec)

/-- 'laws.FnExactEraseBlock', WHERE WHAT IT READS IS OF BULK AT MOST 1048576: true; the input reads as it did. -/
def fnExactEraseBlockUptoRow : OpenClaim := { program := "ytbehoeabnomlaaa", sum := "c6697bb45f4559ec6962bd4d50e91851ad8f84526792f7896dc3f0881f700a73", func := "loop.example/g00905/laws.FnExactEraseBlock", spec := "fnExactEraseBlock", apart := false, narrowed := true }
def FnExactEraseBlockUptoSaid : Prop := fnExactEraseBlockUptoRow.holds Try.pinned (OpenSpec.upto fnExactEraseBlockSpec)

/-- 'laws.FnExactPowerOn', WHERE WHAT IT READS IS OF BULK AT MOST 1048576: true; the input reads as it did. -/
def fnExactPowerOnUptoRow : OpenClaim := { program := "ytbehoeabnomlaaa", sum := "c6697bb45f4559ec6962bd4d50e91851ad8f84526792f7896dc3f0881f700a73", func := "loop.example/g00905/laws.FnExactPowerOn", spec := "fnExactPowerOn", apart := false, narrowed := true }
def FnExactPowerOnUptoSaid : Prop := fnExactPowerOnUptoRow.holds Try.pinned (OpenSpec.upto fnExactPowerOnSpec)

/-- 'laws.FnExactArmFuse', WHERE WHAT IT READS IS OF BULK AT MOST 1048576: true; the input reads as it did. -/
def fnExactArmFuseUptoRow : OpenClaim := { program := "ytbehoeabnomlaaa", sum := "c6697bb45f4559ec6962bd4d50e91851ad8f84526792f7896dc3f0881f700a73", func := "loop.example/g00905/laws.FnExactArmFuse", spec := "fnExactArmFuse", apart := false, narrowed := true }
def FnExactArmFuseUptoSaid : Prop := fnExactArmFuseUptoRow.holds Try.pinned (OpenSpec.upto fnExactArmFuseSpec)

end Rows
end Go.Proofs.Ytbehoeabnomlaaa
