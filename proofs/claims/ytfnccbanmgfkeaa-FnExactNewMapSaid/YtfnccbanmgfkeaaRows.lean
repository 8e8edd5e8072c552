/-
  No cell of these rows narrows 'for every input' (looked for: loops, veiled, ifaces, maps, wideKeys, modest, calm, conditions, laid).
  DERIVED. THE GIVEN ROWS OF THIS SEAT. 13 by the template 'for every input the law returns true; each argument reads behind the call as it read before'; 0 by the template 'total and deterministic' (their statements: YtfnccbanmgfkeaaTotals.lean).
  GIVEN WITH THE SEED: the statements are not yours to turn. If you find one false, say at which input.
  Laid BY PROGRAM, IN A SANDBOX (cutbox-rows.mjs): the forced cells as the released guide's own fill.sh prints them over the translation ad21853feac30e49… (all of the seat's roots in one cut). By AI agents, Wed Nov 11 2026. No macro, syntax, notation, axiom, sorry.
-/
import Derived.Test.YtfnccbanmgfkeaaChecked
import GoSem.Claim
import GoSem.ClaimJoined
import GoSem.ClaimMapViews
import Derived.JoinedTies
import Derived.KernelRfl
namespace Go.Proofs.Ytfnccbanmgfkeaa
/- THE CELL 'sum', in the pinned program and in every row, IS THE sha256 OF THE DUMP (.gsa) THAT YtfnccbanmgfkeaaProg.lean LOADS. Nothing in Lean hashes anything: it is a label: what it is worth is what the hold of that sum in a sandbox is worth. -/
noncomputable def Try.pinned : Pinned := { name := "ytfnccbanmgfkeaa", sum := "ad21853feac30e498c9524ea539437e4b2585578d22398123e79b3a8f07fadc8", checked := Try.checked }
namespace Rows
def none {H : Type} : Left H := { results := [], args := [] }

/-- 'laws.FnExactValidMap': WHATEVER THE INPUT: true; the input reads as it did. -/
def fnExactValidMapSpec : ChangeSpec := { name := "fnExactValidMap", fn := fun _ => fun
  | [d] => { results := [.lit (.bool true)], args := [d] }
  | _ => none }
def fnExactValidMapRow : OpenClaim := { program := "ytfnccbanmgfkeaa", sum := "ad21853feac30e498c9524ea539437e4b2585578d22398123e79b3a8f07fadc8", func := "loop.example/g00905/laws.FnExactValidMap", spec := "fnExactValidMap", apart := false }
def FnExactValidMapSaid : Prop := fnExactValidMapRow.holds Try.pinned (OpenSpec.ofChange fnExactValidMapSpec)

/-- ITS FALSE NEIGHBOUR: 'it returns false'. Refute it at one input. -/
def fnExactValidMapWrong : ChangeSpec := { name := "fnExactValidMap", fn := fun _ => fun
  | [d] => { results := [.lit (.bool false)], args := [d] }
  | _ => none }
def FnExactValidMapWrongFalsely : Prop := fnExactValidMapRow.holds Try.pinned (OpenSpec.ofChange fnExactValidMapWrong)

/-- 'laws.FnExactSameMap': WHATEVER THE INPUT: true; the input reads as it did. -/
def fnExactSameMapSpec : ChangeSpec := { name := "fnExactSameMap", fn := fun _ => fun
  | [d1, d2] => { results := [.lit (.bool true)], args := [d1, d2] }
  | _ => none }
def fnExactSameMapRow : OpenClaim := { program := "ytfnccbanmgfkeaa", sum := "ad21853feac30e498c9524ea539437e4b2585578d22398123e79b3a8f07fadc8", func := "loop.example/g00905/laws.FnExactSameMap", spec := "fnExactSameMap", apart := false }
def FnExactSameMapSaid : Prop := fnExactSameMapRow.holds Try.pinned (OpenSpec.ofChange fnExactSameMapSpec)

/-- ITS FALSE NEIGHBOUR: 'it returns false'. Refute it at one input. -/
def fnExactSameMapWrong : ChangeSpec := { name := "fnExactSameMap", fn := fun _ => fun
  | [d1, d2] => { results := [.lit (.bool false)], args := [d1, d2] }
  | _ => none }
def FnExactSameMapWrongFalsely : Prop := fnExactSameMapRow.holds Try.pinned (OpenSpec.ofChange fnExactSameMapWrong)

/-- 'laws.FnExactNewMap': WHATEVER THE INPUT: true; the input reads as it did. -/
def fnExactNewMapSpec : ChangeSpec := { name := "fnExactNewMap", fn := fun _ => fun
  | [d1, d2, d3] => { results := [.lit (.bool true)], args := [d1, d2, d3] }
  | _ => none }
def fnExactNewMapRow : OpenClaim := { program := "ytfnccbanmgfkeaa", sum := "ad21853feac30e498c9524ea539437e4b2585578d22398123e79b3a8f07fadc8", func := "loop.example/g00905/laws.FnExactNewMap", spec := "fnExactNewMap", apart := false }
def FnExactNewMapSaid : Prop := fnExactNewMapRow.holds Try.pinned (OpenSpec.ofChange fnExactNewMapSpec)

/-- ITS FALSE NEIGHBOUR: 'it returns false'. Refute it at one input. -/
def fnExactNewMapWrong : ChangeSpec := { name := "fnExactNewMap", fn := fun _ => fun
  | [d1, d2, d3] => { results := [.lit (.bool false)], args := [d1, d2, d3] }
  | _ => none }
def FnExactNewMapWrongFalsely : Prop := fnExactNewMapRow.holds Try.pinned (OpenSpec.ofChange fnExactNewMapWrong)

/-- 'laws.FnExactSetPage': WHATEVER THE INPUT: true; the input reads as it did. -/
def fnExactSetPageSpec : ChangeSpec := { name := "fnExactSetPage", fn := fun _ => fun
  | [d1, d2, d3, d4] => { results := [.lit (.bool true)], args := [d1, d2, d3, d4] }
  | _ => none }
def fnExactSetPageRow : OpenClaim := { program := "ytfnccbanmgfkeaa", sum := "ad21853feac30e498c9524ea539437e4b2585578d22398123e79b3a8f07fadc8", func := "loop.example/g00905/laws.FnExactSetPage", spec := "fnExactSetPage", apart := false }
def FnExactSetPageSaid : Prop := fnExactSetPageRow.holds Try.pinned (OpenSpec.ofChange fnExactSetPageSpec)

/-- ITS FALSE NEIGHBOUR: 'it returns false'. Refute it at one input. -/
def fnExactSetPageWrong : ChangeSpec := { name := "fnExactSetPage", fn := fun _ => fun
  | [d1, d2, d3, d4] => { results := [.lit (.bool false)], args := [d1, d2, d3, d4] }
  | _ => none }
def FnExactSetPageWrongFalsely : Prop := fnExactSetPageRow.holds Try.pinned (OpenSpec.ofChange fnExactSetPageWrong)

/-- 'laws.FnExactPhysOf': WHATEVER THE INPUT: true; the input reads as it did. -/
def fnExactPhysOfSpec : ChangeSpec := { name := "fnExactPhysOf", fn := fun _ => fun
  | [d1, d2] => { results := [.lit (.bool true)], args := [d1, d2] }
  | _ => none }
def fnExactPhysOfRow : OpenClaim := { program := "ytfnccbanmgfkeaa", sum := "ad21853feac30e498c9524ea539437e4b2585578d22398123e79b3a8f07fadc8", func := "loop.example/g00905/laws.FnExactPhysOf", spec := "fnExactPhysOf", apart := false }
def FnExactPhysOfSaid : Prop := fnExactPhysOfRow.holds Try.pinned (OpenSpec.ofChange fnExactPhysOfSpec)

/-- ITS FALSE NEIGHBOUR: 'it returns false'. Refute it at one input. -/
def fnExactPhysOfWrong : ChangeSpec := { name := "fnExactPhysOf", fn := fun _ => fun
  | [d1, d2] => { results := [.lit (.bool false)], args := [d1, d2] }
  | _ => none }
def FnExactPhysOfWrongFalsely : Prop := fnExactPhysOfRow.holds Try.pinned (OpenSpec.ofChange fnExactPhysOfWrong)

/-- 'laws.FnExactLogicalAt': WHATEVER THE INPUT: true; the input reads as it did. -/
def fnExactLogicalAtSpec : ChangeSpec := { name := "fnExactLogicalAt", fn := fun _ => fun
  | [d1, d2] => { results := [.lit (.bool true)], args := [d1, d2] }
  | _ => none }
def fnExactLogicalAtRow : OpenClaim := { program := "ytfnccbanmgfkeaa", sum := "ad21853feac30e498c9524ea539437e4b2585578d22398123e79b3a8f07fadc8", func := "loop.example/g00905/laws.FnExactLogicalAt", spec := "fnExactLogicalAt", apart := false }
def FnExactLogicalAtSaid : Prop := fnExactLogicalAtRow.holds Try.pinned (OpenSpec.ofChange fnExactLogicalAtSpec)

/-- ITS FALSE NEIGHBOUR: 'it returns false'. Refute it at one input. -/
def fnExactLogicalAtWrong : ChangeSpec := { name := "fnExactLogicalAt", fn := fun _ => fun
  | [d1, d2] => { results := [.lit (.bool false)], args := [d1, d2] }
  | _ => none }
def FnExactLogicalAtWrongFalsely : Prop := fnExactLogicalAtRow.holds Try.pinned (OpenSpec.ofChange fnExactLogicalAtWrong)

/-- 'laws.FnExactLivePages': WHATEVER THE INPUT: true; the input reads as it did. -/
def fnExactLivePagesSpec : ChangeSpec := { name := "fnExactLivePages", fn := fun _ => fun
  | [d1, d2] => { results := [.lit (.bool true)], args := [d1, d2] }
  | _ => none }
def fnExactLivePagesRow : OpenClaim := { program := "ytfnccbanmgfkeaa", sum := "ad21853feac30e498c9524ea539437e4b2585578d22398123e79b3a8f07fadc8", func := "loop.example/g00905/laws.FnExactLivePages", spec := "fnExactLivePages", apart := false }
def FnExactLivePagesSaid : Prop := fnExactLivePagesRow.holds Try.pinned (OpenSpec.ofChange fnExactLivePagesSpec)

/-- ITS FALSE NEIGHBOUR: 'it returns false'. Refute it at one input. -/
def fnExactLivePagesWrong : ChangeSpec := { name := "fnExactLivePages", fn := fun _ => fun
  | [d1, d2] => { results := [.lit (.bool false)], args := [d1, d2] }
  | _ => none }
def FnExactLivePagesWrongFalsely : Prop := fnExactLivePagesRow.holds Try.pinned (OpenSpec.ofChange fnExactLivePagesWrong)

/-- 'laws.FnExactLiveIn': WHATEVER THE INPUT: true; the input reads as it did. -/
def fnExactLiveInSpec : ChangeSpec := { name := "fnExactLiveIn", fn := fun _ => fun
  | [d1, d2] => { results := [.lit (.bool true)], args := [d1, d2] }
  | _ => none }
def fnExactLiveInRow : OpenClaim := { program := "ytfnccbanmgfkeaa", sum := "ad21853feac30e498c9524ea539437e4b2585578d22398123e79b3a8f07fadc8", func := "loop.example/g00905/laws.FnExactLiveIn", spec := "fnExactLiveIn", apart := false }
def FnExactLiveInSaid : Prop := fnExactLiveInRow.holds Try.pinned (OpenSpec.ofChange fnExactLiveInSpec)

/-- ITS FALSE NEIGHBOUR: 'it returns false'. Refute it at one input. -/
def fnExactLiveInWrong : ChangeSpec := { name := "fnExactLiveIn", fn := fun _ => fun
  | [d1, d2] => { results := [.lit (.bool false)], args := [d1, d2] }
  | _ => none }
def FnExactLiveInWrongFalsely : Prop := fnExactLiveInRow.holds Try.pinned (OpenSpec.ofChange fnExactLiveInWrong)

/-- 'laws.FnExactMappedPages': WHATEVER THE INPUT: true; the input reads as it did. -/
def fnExactMappedPagesSpec : ChangeSpec := { name := "fnExactMappedPages", fn := fun _ => fun
  | [d] => { results := [.lit (.bool true)], args := [d] }
  | _ => none }
def fnExactMappedPagesRow : OpenClaim := { program := "ytfnccbanmgfkeaa", sum := "ad21853feac30e498c9524ea539437e4b2585578d22398123e79b3a8f07fadc8", func := "loop.example/g00905/laws.FnExactMappedPages", spec := "fnExactMappedPages", apart := false }
def FnExactMappedPagesSaid : Prop := fnExactMappedPagesRow.holds Try.pinned (OpenSpec.ofChange fnExactMappedPagesSpec)

/-- ITS FALSE NEIGHBOUR: 'it returns false'. Refute it at one input. -/
def fnExactMappedPagesWrong : ChangeSpec := { name := "fnExactMappedPages", fn := fun _ => fun
  | [d] => { results := [.lit (.bool false)], args := [d] }
  | _ => none }
def FnExactMappedPagesWrongFalsely : Prop := fnExactMappedPagesRow.holds Try.pinned (OpenSpec.ofChange fnExactMappedPagesWrong)

/-- 'laws.FnFtlMap': WHATEVER THE INPUT: true; the input reads as it did. -/
def fnFtlMapSpec : ChangeSpec := { name := "fnFtlMap", fn := fun _ => fun
  | [d] => { results := [.lit (.bool true)], args := [d] }
  | _ => none }
def fnFtlMapRow : OpenClaim := { program := "ytfnccbanmgfkeaa", sum := "ad21853feac30e498c9524ea539437e4b2585578d22398123e79b3a8f07fadc8", func := "loop.example/g00905/laws.FnFtlMap", spec := "fnFtlMap", apart := false }
def FnFtlMapSaid : Prop := fnFtlMapRow.holds Try.pinned (OpenSpec.ofChange fnFtlMapSpec)

/-- ITS FALSE NEIGHBOUR: 'it returns false'. Refute it at one input. -/
def fnFtlMapWrong : ChangeSpec := { name := "fnFtlMap", fn := fun _ => fun
  | [d] => { results := [.lit (.bool false)], args := [d] }
  | _ => none }
def FnFtlMapWrongFalsely : Prop := fnFtlMapRow.holds Try.pinned (OpenSpec.ofChange fnFtlMapWrong)

/-- 'laws.FnExactValidMeta': WHATEVER THE INPUT: true; the input reads as it did. -/
def fnExactValidMetaSpec : ChangeSpec := { name := "fnExactValidMeta", fn := fun _ => fun
  | [d] => { results := [.lit (.bool true)], args := [d] }
  | _ => none }
def fnExactValidMetaRow : OpenClaim := { program := "ytfnccbanmgfkeaa", sum := "ad21853feac30e498c9524ea539437e4b2585578d22398123e79b3a8f07fadc8", func := "loop.example/g00905/laws.FnExactValidMeta", spec := "fnExactValidMeta", apart := false }
def FnExactValidMetaSaid : Prop := fnExactValidMetaRow.holds Try.pinned (OpenSpec.ofChange fnExactValidMetaSpec)

/-- ITS FALSE NEIGHBOUR: 'it returns false'. Refute it at one input. -/
def fnExactValidMetaWrong : ChangeSpec := { name := "fnExactValidMeta", fn := fun _ => fun
  | [d] => { results := [.lit (.bool false)], args := [d] }
  | _ => none }
def FnExactValidMetaWrongFalsely : Prop := fnExactValidMetaRow.holds Try.pinned (OpenSpec.ofChange fnExactValidMetaWrong)

/-- 'laws.FnExactValidFound': WHATEVER THE INPUT: true; the input reads as it did. -/
def fnExactValidFoundSpec : ChangeSpec := { name := "fnExactValidFound", fn := fun _ => fun
  | [d] => { results := [.lit (.bool true)], args := [d] }
  | _ => none }
def fnExactValidFoundRow : OpenClaim := { program := "ytfnccbanmgfkeaa", sum := "ad21853feac30e498c9524ea539437e4b2585578d22398123e79b3a8f07fadc8", func := "loop.example/g00905/laws.FnExactValidFound", spec := "fnExactValidFound", apart := false }
def FnExactValidFoundSaid : Prop := fnExactValidFoundRow.holds Try.pinned (OpenSpec.ofChange fnExactValidFoundSpec)

/-- ITS FALSE NEIGHBOUR: 'it returns false'. Refute it at one input. -/
def fnExactValidFoundWrong : ChangeSpec := { name := "fnExactValidFound", fn := fun _ => fun
  | [d] => { results := [.lit (.bool false)], args := [d] }
  | _ => none }
def FnExactValidFoundWrongFalsely : Prop := fnExactValidFoundRow.holds Try.pinned (OpenSpec.ofChange fnExactValidFoundWrong)

/-- 'laws.FnExactNextSeq': WHATEVER THE INPUT: true; the input reads as it did. -/
def fnExactNextSeqSpec : ChangeSpec := { name := "fnExactNextSeq", fn := fun _ => fun
  | [d] => { results := [.lit (.bool true)], args := [d] }
  | _ => none }
def fnExactNextSeqRow : OpenClaim := { program := "ytfnccbanmgfkeaa", sum := "ad21853feac30e498c9524ea539437e4b2585578d22398123e79b3a8f07fadc8", func := "loop.example/g00905/laws.FnExactNextSeq", spec := "fnExactNextSeq", apart := false }
def FnExactNextSeqSaid : Prop := fnExactNextSeqRow.holds Try.pinned (OpenSpec.ofChange fnExactNextSeqSpec)

/-- ITS FALSE NEIGHBOUR: 'it returns false'. Refute it at one input. -/
def fnExactNextSeqWrong : ChangeSpec := { name := "fnExactNextSeq", fn := fun _ => fun
  | [d] => { results := [.lit (.bool false)], args := [d] }
  | _ => none }
def FnExactNextSeqWrongFalsely : Prop := fnExactNextSeqRow.holds Try.pinned (OpenSpec.ofChange fnExactNextSeqWrong)

/- THE SECOND FORM. 'bulk': how many values and letters a reading holds, each counted each time it is reached (what is shared counts as often as it is met; a slice's spare places count too). A statement '..UptoSaid' is the law's where the arguments, and the package variables that the reading takes, are together of bulk at most 1048576: NARROWER than '..Said'. Prove '..Said' where nothing that the law and all that it calls make is longer than what came in: it says more and counts as full. Else prove '..UptoSaid'. A law counts once. -/
mutual
def uptoBulk {H : Type} : DataW H → Nat
  | .lit (.string bytes) => bytes.length + 1
  | .lit _ => 1
  | .nil => 1
  | .ptr d => uptoBulk d + 1
  | .slice elems spare => uptoBulkAll elems + uptoBulkAll spare + 1
  | .agg parts => uptoBulkAll parts + 1
  | .iface _ d => uptoBulk d + 1
  | .map entries => uptoBulkEntries entries + 1
  | .held _ => 1
def uptoBulkAll {H : Type} : List (DataW H) → Nat
  | [] => 0
  | d :: r => uptoBulk d + uptoBulkAll r
def uptoBulkEntries {H : Type} : List (Lit × DataW H) → Nat
  | [] => 0
  | x :: r => uptoBulkEntry x + uptoBulkEntries r
def uptoBulkEntry {H : Type} : Lit × DataW H → Nat
  | (.string bytes, d) => bytes.length + uptoBulk d + 1
  | (_, d) => uptoBulk d + 1
 end
def uptoSmall : (H : Type) → List (DataW H) → Bool := fun _ ds => decide (uptoBulkAll ds ≤ 1048576)
def OpenSpec.upto (s : _root_.Go.ChangeSpec) : _root_.Go.OpenSpec := { _root_.Go.OpenSpec.ofChange s with cond := some uptoSmall }

/-- 'laws.FnExactValidMap', WHERE WHAT IT READS IS OF BULK AT MOST 1048576: true; the input reads as it did. -/
def fnExactValidMapUptoRow : OpenClaim := { program := "ytfnccbanmgfkeaa", sum := "ad21853feac30e498c9524ea539437e4b2585578d22398123e79b3a8f07fadc8", func := "loop.example/g00905/laws.FnExactValidMap", spec := "fnExactValidMap", apart := false, narrowed := true }
def FnExactValidMapUptoSaid : Prop := fnExactValidMapUptoRow.holds Try.pinned (OpenSpec.upto fnExactValidMapSpec)

/-- 'laws.FnExactSameMap', WHERE WHAT IT READS IS OF BULK AT MOST 1048576: true; the input reads as it did. -/
def fnExactSameMapUptoRow : OpenClaim := { program := "ytfnccbanmgfkeaa", sum := "ad21853feac30e498c9524ea539437e4b2585578d22398123e79b3a8f07fadc8", func := "loop.example/g00905/laws.FnExactSameMap", spec := "fnExactSameMap", apart := false, narrowed := true }
def FnExactSameMapUptoSaid : Prop := fnExactSameMapUptoRow.holds Try.pinned (OpenSpec.upto fnExactSameMapSpec)

/-- 'laws.FnExactNewMap', WHERE WHAT IT READS IS OF BULK AT MOST 1048576: true; the input reads as it did. -/
def fnExactNewMapUptoRow : OpenClaim := { program := "ytfnccbanmgfkeaa", sum := "ad21853feac30e498c9524ea539437e4b2585578d22398123e79b3a8f07fadc8", func := "loop.example/g00905/laws.FnExactNewMap", spec := "fnExactNewMap", apart := false, narrowed := true }
def FnExactNewMapUptoSaid : Prop := fnExactNewMapUptoRow.holds Try.pinned (OpenSpec.upto fnExactNewMapSpec)

/-- 'laws.FnExactSetPage', WHERE WHAT IT READS IS OF BULK AT MOST 1048576: true; the input reads as it did. -/
def fnExactSetPageUptoRow : OpenClaim := { program := "ytfnccbanmgfkeaa", sum := "ad21853feac30e498c9524ea539437e4b2585578d22398123e79b3a8f07fadc8", func := "loop.example/g00905/laws.FnExactSetPage", spec := "fnExactSetPage", apart := false, narrowed := true }
def FnExactSetPageUptoSaid : Prop := fnExactSetPageUptoRow.holds Try.pinned (OpenSpec.upto fnExactSetPageSpec)

/-- 'laws.FnExactPhysOf', WHERE WHAT IT READS IS OF BULK AT MOST 1048576: true; the input reads as it did. -/
def fnExactPhysOfUptoRow : OpenClaim := { program := "ytfnccbanmgfkeaa", sum := "ad21853feac30e498c9524ea539437e4b2585578d22398123e79b3a8f07fadc8", func := "loop.example/g00905/laws.FnExactPhysOf", spec := "fnExactPhysOf", apart := false, narrowed := true }
def FnExactPhysOfUptoSaid : Prop := fnExactPhysOfUptoRow.holds Try.pinned (OpenSpec.upto fnExactPhysOfSpec)

/-- 'laws.FnExactLogicalAt', WHERE WHAT IT READS IS OF BULK AT MOST 1048576: true; the input reads as it did. -/
def fnExactLogicalAtUptoRow : OpenClaim := { program := "ytfnccbanmgfkeaa", sum := "ad21853feac30e498c9524ea539437e4b2585578d22398123e79b3a8f07fadc8", func := "loop.example/g00905/laws.FnExactLogicalAt", spec := "fnExactLogicalAt", apart := false, narrowed := true }
def FnExactLogicalAtUptoSaid : Prop := fnExactLogicalAtUptoRow.holds Try.pinned (OpenSpec.upto fnExactLogicalAtSpec)

/-- 'laws.FnExactLivePages', WHERE WHAT IT READS IS OF BULK AT MOST 1048576: true; the input reads as it did. -/
def fnExactLivePagesUptoRow : OpenClaim := { program := "ytfnccbanmgfkeaa", sum := "ad21853feac30e498c9524ea539437e4b2585578d22398123e79b3a8f07fadc8", func := "loop.example/g00905/laws.FnExactLivePages", spec := "fnExactLivePages", apart := false, narrowed := true }
def FnExactLivePagesUptoSaid : Prop := fnExactLivePagesUptoRow.holds Try.pinned (OpenSpec.upto fnExactLivePagesSpec)

/-- 'laws.FnExactLiveIn', WHERE WHAT IT READS IS OF BULK AT MOST 1048576: true; the input reads as it did. -/
def fnExactLiveInUptoRow : OpenClaim := { program := "ytfnccbanmgfkeaa", sum := "ad21853feac30e498c9524ea539437e4b2585578d22398123e79b3a8f07fadc8", func := "loop.example/g00905/laws.FnExactLiveIn", spec := "fnExactLiveIn", apart := false, narrowed := true }
def FnExactLiveInUptoSaid : Prop := fnExactLiveInUptoRow.holds Try.pinned (OpenSpec.upto fnExactLiveInSpec)

/-- 'laws.FnExactMappedPages', WHERE WHAT IT READS IS OF BULK AT MOST 1048576: true; the input reads as it did. -/
def fnExactMappedPagesUptoRow : OpenClaim := { program := "ytfnccbanmgfkeaa", sum := "ad21853feac30e498c9524ea539437e4b2585578d22398123e79b3a8f07fadc8", func := "loop.example/g00905/laws.FnExactMappedPages", spec := "fnExactMappedPages", apart := false, narrowed := true }
def FnExactMappedPagesUptoSaid : Prop := fnExactMappedPagesUptoRow.holds Try.pinned (OpenSpec.upto fnExactMappedPagesSpec)

/-- 'laws.FnFtlMap', WHERE WHAT IT READS IS OF BULK AT MOST 1048576: true; the input reads as it did. -/
def fnFtlMapUptoRow : OpenClaim := { program := "ytfnccbanmgfkeaa", sum := "ad21853feac30e498c9524ea539437e4b2585578d22398123e79b3a8f07fadc8", func := "loop.example/g00905/laws.FnFtlMap", spec := "fnFtlMap", apart := false, narrowed := true }
def FnFtlMapUptoSaid : Prop := fnFtlMapUptoRow.holds Try.pinned (OpenSpec.upto fnFtlMapSpec)

/-- 'laws.FnExactValidMeta', WHERE WHAT IT READS IS OF BULK AT MOST 1048576: true; the input reads as it did. -/
def fnExactValidMetaUptoRow : OpenClaim := { program := "ytfnccbanmgfkeaa", sum := "ad21853feac30e498c9524ea539437e4b2585578d22398123e79b3a8f07fadc8", func := "loop.example/g00905/laws.FnExactValidMeta", spec := "fnExactValidMeta", apart := false, narrowed := true }
def FnExactValidMetaUptoSaid : Prop := fnExactValidMetaUptoRow.holds Try.pinned (OpenSpec.upto fnExactValidMetaSpec)

/-- 'laws.FnExactValidFound', WHERE WHAT IT READS IS OF BULK AT MOST 1048576: true; the input reads as it did. -/
def fnExactValidFoundUptoRow : OpenClaim := { program := "ytfnccbanmgfkeaa", sum := "ad21853feac30e498c9524ea539437e4b2585578d22398123e79b3a8f07fadc8", func := "loop.example/g00905/laws.FnExactValidFound", spec := "fnExactValidFound", apart := false, narrowed := true }
def FnExactValidFoundUptoSaid : Prop := fnExactValidFoundUptoRow.holds Try.pinned (OpenSpec.upto fnExactValidFoundSpec)

/-- 'laws.FnExactNextSeq', WHERE WHAT IT READS IS OF BULK AT MOST 1048576: true; the input reads as it did. -/
def fnExactNextSeqUptoRow : OpenClaim := { program := "ytfnccbanmgfkeaa", sum := "ad21853feac30e498c9524ea539437e4b2585578d22398123e79b3a8f07fadc8", func := "loop.example/g00905/laws.FnExactNextSeq", spec := "fnExactNextSeq", apart := false, narrowed := true }
def FnExactNextSeqUptoSaid : Prop := fnExactNextSeqUptoRow.holds Try.pinned (OpenSpec.upto fnExactNextSeqSpec)

end Rows
end Go.Proofs.Ytfnccbanmgfkeaa
