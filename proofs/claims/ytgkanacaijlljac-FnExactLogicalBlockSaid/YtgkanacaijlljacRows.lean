/-
  No cell of these rows narrows 'for every input' (looked for: loops, veiled, ifaces, maps, wideKeys, modest, calm, conditions, laid).
  DERIVED. THE GIVEN ROWS OF THIS SEAT. 11 by the template 'for every input the law returns true; each argument reads behind the call as it read before'; 0 by the template 'total and deterministic' (their statements: YtgkanacaijlljacTotals.lean).
  GIVEN WITH THE SEED: the statements are not yours to turn. If you find one false, say at which input.
  Laid BY PROGRAM, IN A SANDBOX (cutbox-rows.mjs): the forced cells as the released guide's own fill.sh prints them over the translation 6c369577b1711995… (all of the seat's roots in one cut). By AI agents, Wed Nov 11 2026. No macro, syntax, notation, axiom, sorry.
-/
import Derived.Test.YtgkanacaijlljacChecked
import GoSem.Claim
import GoSem.ClaimJoined
import GoSem.ClaimMapViews
import Derived.JoinedTies
import Derived.KernelRfl
namespace Go.Proofs.Ytgkanacaijlljac
/- THE CELL 'sum', in the pinned program and in every row, IS THE sha256 OF THE DUMP (.gsa) THAT YtgkanacaijlljacProg.lean LOADS. Nothing in Lean hashes anything: it is a label: what it is worth is what the hold of that sum in a sandbox is worth. -/
noncomputable def Try.pinned : Pinned := { name := "ytgkanacaijlljac", sum := "6c369577b1711995406f989d4b8a320b3445bb0bccaad1dd4247d504eebdf89f", checked := Try.checked }
namespace Rows
def none {H : Type} : Left H := { results := [], args := [] }

/-- 'laws.FnExactNewBadTable': WHATEVER THE INPUT: true; the input reads as it did. -/
def fnExactNewBadTableSpec : ChangeSpec := { name := "fnExactNewBadTable", fn := fun _ => fun
  | [d1, d2, d3] => { results := [.lit (.bool true)], args := [d1, d2, d3] }
  | _ => none }
def fnExactNewBadTableRow : OpenClaim := { program := "ytgkanacaijlljac", sum := "6c369577b1711995406f989d4b8a320b3445bb0bccaad1dd4247d504eebdf89f", func := "loop.example/g00905/laws.FnExactNewBadTable", spec := "fnExactNewBadTable", apart := false }
def FnExactNewBadTableSaid : Prop := fnExactNewBadTableRow.holds Try.pinned (OpenSpec.ofChange fnExactNewBadTableSpec)

/-- ITS FALSE NEIGHBOUR: 'it returns false'. Refute it at one input. -/
def fnExactNewBadTableWrong : ChangeSpec := { name := "fnExactNewBadTable", fn := fun _ => fun
  | [d1, d2, d3] => { results := [.lit (.bool false)], args := [d1, d2, d3] }
  | _ => none }
def FnExactNewBadTableWrongFalsely : Prop := fnExactNewBadTableRow.holds Try.pinned (OpenSpec.ofChange fnExactNewBadTableWrong)

/-- 'laws.FnExactPhysicalBlock': WHATEVER THE INPUT: true; the input reads as it did. -/
def fnExactPhysicalBlockSpec : ChangeSpec := { name := "fnExactPhysicalBlock", fn := fun _ => fun
  | [d1, d2] => { results := [.lit (.bool true)], args := [d1, d2] }
  | _ => none }
def fnExactPhysicalBlockRow : OpenClaim := { program := "ytgkanacaijlljac", sum := "6c369577b1711995406f989d4b8a320b3445bb0bccaad1dd4247d504eebdf89f", func := "loop.example/g00905/laws.FnExactPhysicalBlock", spec := "fnExactPhysicalBlock", apart := false }
def FnExactPhysicalBlockSaid : Prop := fnExactPhysicalBlockRow.holds Try.pinned (OpenSpec.ofChange fnExactPhysicalBlockSpec)

/-- ITS FALSE NEIGHBOUR: 'it returns false'. Refute it at one input. -/
def fnExactPhysicalBlockWrong : ChangeSpec := { name := "fnExactPhysicalBlock", fn := fun _ => fun
  | [d1, d2] => { results := [.lit (.bool false)], args := [d1, d2] }
  | _ => none }
def FnExactPhysicalBlockWrongFalsely : Prop := fnExactPhysicalBlockRow.holds Try.pinned (OpenSpec.ofChange fnExactPhysicalBlockWrong)

/-- 'laws.FnExactLogicalBlock': WHATEVER THE INPUT: true; the input reads as it did. -/
def fnExactLogicalBlockSpec : ChangeSpec := { name := "fnExactLogicalBlock", fn := fun _ => fun
  | [d1, d2] => { results := [.lit (.bool true)], args := [d1, d2] }
  | _ => none }
def fnExactLogicalBlockRow : OpenClaim := { program := "ytgkanacaijlljac", sum := "6c369577b1711995406f989d4b8a320b3445bb0bccaad1dd4247d504eebdf89f", func := "loop.example/g00905/laws.FnExactLogicalBlock", spec := "fnExactLogicalBlock", apart := false }
def FnExactLogicalBlockSaid : Prop := fnExactLogicalBlockRow.holds Try.pinned (OpenSpec.ofChange fnExactLogicalBlockSpec)

/-- ITS FALSE NEIGHBOUR: 'it returns false'. Refute it at one input. -/
def fnExactLogicalBlockWrong : ChangeSpec := { name := "fnExactLogicalBlock", fn := fun _ => fun
  | [d1, d2] => { results := [.lit (.bool false)], args := [d1, d2] }
  | _ => none }
def FnExactLogicalBlockWrongFalsely : Prop := fnExactLogicalBlockRow.holds Try.pinned (OpenSpec.ofChange fnExactLogicalBlockWrong)

/-- 'laws.FnExactAvailableSpares': WHATEVER THE INPUT: true; the input reads as it did. -/
def fnExactAvailableSparesSpec : ChangeSpec := { name := "fnExactAvailableSpares", fn := fun _ => fun
  | [d1, d2] => { results := [.lit (.bool true)], args := [d1, d2] }
  | _ => none }
def fnExactAvailableSparesRow : OpenClaim := { program := "ytgkanacaijlljac", sum := "6c369577b1711995406f989d4b8a320b3445bb0bccaad1dd4247d504eebdf89f", func := "loop.example/g00905/laws.FnExactAvailableSpares", spec := "fnExactAvailableSpares", apart := false }
def FnExactAvailableSparesSaid : Prop := fnExactAvailableSparesRow.holds Try.pinned (OpenSpec.ofChange fnExactAvailableSparesSpec)

/-- ITS FALSE NEIGHBOUR: 'it returns false'. Refute it at one input. -/
def fnExactAvailableSparesWrong : ChangeSpec := { name := "fnExactAvailableSpares", fn := fun _ => fun
  | [d1, d2] => { results := [.lit (.bool false)], args := [d1, d2] }
  | _ => none }
def FnExactAvailableSparesWrongFalsely : Prop := fnExactAvailableSparesRow.holds Try.pinned (OpenSpec.ofChange fnExactAvailableSparesWrong)

/-- 'laws.FnExactRetireBlock': WHATEVER THE INPUT: true; the input reads as it did. -/
def fnExactRetireBlockSpec : ChangeSpec := { name := "fnExactRetireBlock", fn := fun _ => fun
  | [d1, d2] => { results := [.lit (.bool true)], args := [d1, d2] }
  | _ => none }
def fnExactRetireBlockRow : OpenClaim := { program := "ytgkanacaijlljac", sum := "6c369577b1711995406f989d4b8a320b3445bb0bccaad1dd4247d504eebdf89f", func := "loop.example/g00905/laws.FnExactRetireBlock", spec := "fnExactRetireBlock", inPlace := ["slices.overlaps[int64]"], apart := false }
def FnExactRetireBlockSaid : Prop := fnExactRetireBlockRow.holds Try.pinned (OpenSpec.ofChange fnExactRetireBlockSpec)

/-- ITS FALSE NEIGHBOUR: 'it returns false'. Refute it at one input. -/
def fnExactRetireBlockWrong : ChangeSpec := { name := "fnExactRetireBlock", fn := fun _ => fun
  | [d1, d2] => { results := [.lit (.bool false)], args := [d1, d2] }
  | _ => none }
def FnExactRetireBlockWrongFalsely : Prop := fnExactRetireBlockRow.holds Try.pinned (OpenSpec.ofChange fnExactRetireBlockWrong)

/-- 'laws.FnExactMarkBadBlocks': WHATEVER THE INPUT: true; the input reads as it did. -/
def fnExactMarkBadBlocksSpec : ChangeSpec := { name := "fnExactMarkBadBlocks", fn := fun _ => fun
  | [d1, d2] => { results := [.lit (.bool true)], args := [d1, d2] }
  | _ => none }
def fnExactMarkBadBlocksRow : OpenClaim := { program := "ytgkanacaijlljac", sum := "6c369577b1711995406f989d4b8a320b3445bb0bccaad1dd4247d504eebdf89f", func := "loop.example/g00905/laws.FnExactMarkBadBlocks", spec := "fnExactMarkBadBlocks", apart := false }
def FnExactMarkBadBlocksSaid : Prop := fnExactMarkBadBlocksRow.holds Try.pinned (OpenSpec.ofChange fnExactMarkBadBlocksSpec)

/-- ITS FALSE NEIGHBOUR: 'it returns false'. Refute it at one input. -/
def fnExactMarkBadBlocksWrong : ChangeSpec := { name := "fnExactMarkBadBlocks", fn := fun _ => fun
  | [d1, d2] => { results := [.lit (.bool false)], args := [d1, d2] }
  | _ => none }
def FnExactMarkBadBlocksWrongFalsely : Prop := fnExactMarkBadBlocksRow.holds Try.pinned (OpenSpec.ofChange fnExactMarkBadBlocksWrong)

/-- 'laws.FnExactScanBadBlocks': WHATEVER THE INPUT: true; the input reads as it did. -/
def fnExactScanBadBlocksSpec : ChangeSpec := { name := "fnExactScanBadBlocks", fn := fun _ => fun
  | [d1, d2] => { results := [.lit (.bool true)], args := [d1, d2] }
  | _ => none }
def fnExactScanBadBlocksRow : OpenClaim := { program := "ytgkanacaijlljac", sum := "6c369577b1711995406f989d4b8a320b3445bb0bccaad1dd4247d504eebdf89f", func := "loop.example/g00905/laws.FnExactScanBadBlocks", spec := "fnExactScanBadBlocks", apart := false }
def FnExactScanBadBlocksSaid : Prop := fnExactScanBadBlocksRow.holds Try.pinned (OpenSpec.ofChange fnExactScanBadBlocksSpec)

/-- ITS FALSE NEIGHBOUR: 'it returns false'. Refute it at one input. -/
def fnExactScanBadBlocksWrong : ChangeSpec := { name := "fnExactScanBadBlocks", fn := fun _ => fun
  | [d1, d2] => { results := [.lit (.bool false)], args := [d1, d2] }
  | _ => none }
def FnExactScanBadBlocksWrongFalsely : Prop := fnExactScanBadBlocksRow.holds Try.pinned (OpenSpec.ofChange fnExactScanBadBlocksWrong)

/-- 'laws.FnExactDifferingBits': WHATEVER THE INPUT: true; the input reads as it did. -/
def fnExactDifferingBitsSpec : ChangeSpec := { name := "fnExactDifferingBits", fn := fun _ => fun
  | [d1, d2] => { results := [.lit (.bool true)], args := [d1, d2] }
  | _ => none }
def fnExactDifferingBitsRow : OpenClaim := { program := "ytgkanacaijlljac", sum := "6c369577b1711995406f989d4b8a320b3445bb0bccaad1dd4247d504eebdf89f", func := "loop.example/g00905/laws.FnExactDifferingBits", spec := "fnExactDifferingBits", inPlace := ["internal/abi.NoEscape", "internal/bytealg.MakeNoZero"], apart := false }
def FnExactDifferingBitsSaid : Prop := fnExactDifferingBitsRow.holds Try.pinned (OpenSpec.ofChange fnExactDifferingBitsSpec)

/-- ITS FALSE NEIGHBOUR: 'it returns false'. Refute it at one input. -/
def fnExactDifferingBitsWrong : ChangeSpec := { name := "fnExactDifferingBits", fn := fun _ => fun
  | [d1, d2] => { results := [.lit (.bool false)], args := [d1, d2] }
  | _ => none }
def FnExactDifferingBitsWrongFalsely : Prop := fnExactDifferingBitsRow.holds Try.pinned (OpenSpec.ofChange fnExactDifferingBitsWrong)

/-- 'laws.FnExactFaultedBlocks': WHATEVER THE INPUT: true; the input reads as it did. -/
def fnExactFaultedBlocksSpec : ChangeSpec := { name := "fnExactFaultedBlocks", fn := fun _ => fun
  | [d] => { results := [.lit (.bool true)], args := [d] }
  | _ => none }
def fnExactFaultedBlocksRow : OpenClaim := { program := "ytgkanacaijlljac", sum := "6c369577b1711995406f989d4b8a320b3445bb0bccaad1dd4247d504eebdf89f", func := "loop.example/g00905/laws.FnExactFaultedBlocks", spec := "fnExactFaultedBlocks", recurses := true, apart := false }
def FnExactFaultedBlocksSaid : Prop := fnExactFaultedBlocksRow.holds Try.pinned (OpenSpec.ofChange fnExactFaultedBlocksSpec)

/-- ITS FALSE NEIGHBOUR: 'it returns false'. Refute it at one input. -/
def fnExactFaultedBlocksWrong : ChangeSpec := { name := "fnExactFaultedBlocks", fn := fun _ => fun
  | [d] => { results := [.lit (.bool false)], args := [d] }
  | _ => none }
def FnExactFaultedBlocksWrongFalsely : Prop := fnExactFaultedBlocksRow.holds Try.pinned (OpenSpec.ofChange fnExactFaultedBlocksWrong)

/-- 'laws.FnExactApplyFault': WHATEVER THE INPUT: true; the input reads as it did. -/
def fnExactApplyFaultSpec : ChangeSpec := { name := "fnExactApplyFault", fn := fun _ => fun
  | [d1, d2] => { results := [.lit (.bool true)], args := [d1, d2] }
  | _ => none }
def fnExactApplyFaultRow : OpenClaim := { program := "ytgkanacaijlljac", sum := "6c369577b1711995406f989d4b8a320b3445bb0bccaad1dd4247d504eebdf89f", func := "loop.example/g00905/laws.FnExactApplyFault", spec := "fnExactApplyFault", unfollowed := true, recurses := true, apart := false }
def FnExactApplyFaultSaid : Prop := fnExactApplyFaultRow.holds Try.pinned (OpenSpec.ofChange fnExactApplyFaultSpec)

/-- ITS FALSE NEIGHBOUR: 'it returns false'. Refute it at one input. -/
def fnExactApplyFaultWrong : ChangeSpec := { name := "fnExactApplyFault", fn := fun _ => fun
  | [d1, d2] => { results := [.lit (.bool false)], args := [d1, d2] }
  | _ => none }
def FnExactApplyFaultWrongFalsely : Prop := fnExactApplyFaultRow.holds Try.pinned (OpenSpec.ofChange fnExactApplyFaultWrong)

/-- 'laws.FnExactApplyFaults': WHATEVER THE INPUT: true; the input reads as it did. -/
def fnExactApplyFaultsSpec : ChangeSpec := { name := "fnExactApplyFaults", fn := fun _ => fun
  | [d1, d2] => { results := [.lit (.bool true)], args := [d1, d2] }
  | _ => none }
def fnExactApplyFaultsRow : OpenClaim := { program := "ytgkanacaijlljac", sum := "6c369577b1711995406f989d4b8a320b3445bb0bccaad1dd4247d504eebdf89f", func := "loop.example/g00905/laws.FnExactApplyFaults", spec := "fnExactApplyFaults", unfollowed := true, recurses := true, apart := false }
def FnExactApplyFaultsSaid : Prop := fnExactApplyFaultsRow.holds Try.pinned (OpenSpec.ofChange fnExactApplyFaultsSpec)

/-- ITS FALSE NEIGHBOUR: 'it returns false'. Refute it at one input. -/
def fnExactApplyFaultsWrong : ChangeSpec := { name := "fnExactApplyFaults", fn := fun _ => fun
  | [d1, d2] => { results := [.lit (.bool false)], args := [d1, d2] }
  | _ => none }
def FnExactApplyFaultsWrongFalsely : Prop := fnExactApplyFaultsRow.holds Try.pinned (OpenSpec.ofChange fnExactApplyFaultsWrong)

/- THE SECOND FORM. 'bulk': how many values and letters a reading holds, each counted each time it is reached (what is shared counts as often as it is met; a slice's spare places count too). A statement '..UptoSaid' is the law's where the arguments, and the package variables that the reading takes, are together of bulk at most 1048576: NARROWER than '..Said'. Prove '..Said' where nothing that the law and all that it calls make is longer than what came in: it says more and counts as full. Else prove '..UptoSaid'. A law counts once. -/
mutual
def uptoBulk {H : Type} : DataW H → Nat
  | .lit (.string bytes) => bytes.length + 1
  | .lit _ => 1
  | .nil => 1
  | .ptr d => uptoBulk d + 1
  | .slice elems spare => uptoBulkAll elems + uptoBulkAll spare + 1
  | .agg parts => uptoBulkAll parts + 1
  | .iface _ d => uptoBulk d + 1
  | .map entries => uptoBulkEntries entries + 1
  | .held _ => 1
def uptoBulkAll {H : Type} : List (DataW H) → Nat
  | [] => 0
  | d :: r => uptoBulk d + uptoBulkAll r
def uptoBulkEntries {H : Type} : List (Lit × DataW H) → Nat
  | [] => 0
  | x :: r => uptoBulkEntry x + uptoBulkEntries r
def uptoBulkEntry {H : Type} : Lit × DataW H → Nat
  | (.string bytes, d) => bytes.length + uptoBulk d + 1
  | (_, d) => uptoBulk d + 1
 end
def uptoSmall : (H : Type) → List (DataW H) → Bool := fun _ ds => decide (uptoBulkAll ds ≤ 1048576)
def OpenSpec.upto (s : _root_.Go.ChangeSpec) : _root_.Go.OpenSpec := { _root_.Go.OpenSpec.ofChange s with cond := some uptoSmall }

/-- 'laws.FnExactNewBadTable', WHERE WHAT IT READS IS OF BULK AT MOST 1048576: true; the input reads as it did. -/
def fnExactNewBadTableUptoRow : OpenClaim := { program := "ytgkanacaijlljac", sum := "6c369577b1711995406f989d4b8a320b3445bb0bccaad1dd4247d504eebdf89f", func := "loop.example/g00905/laws.FnExactNewBadTable", spec := "fnExactNewBadTable", apart := false, narrowed := true }
def FnExactNewBadTableUptoSaid : Prop := fnExactNewBadTableUptoRow.holds Try.pinned (OpenSpec.upto fnExactNewBadTableSpec)

/-- 'laws.FnExactPhysicalBlock', WHERE WHAT IT READS IS OF BULK AT MOST 1048576: true; the input reads as it did. -/
def fnExactPhysicalBlockUptoRow : OpenClaim := { program := "ytgkanacaijlljac", sum := "6c369577b1711995406f989d4b8a320b3445bb0bccaad1dd4247d504eebdf89f", func := "loop.example/g00905/laws.FnExactPhysicalBlock", spec := "fnExactPhysicalBlock", apart := false, narrowed := true }
def FnExactPhysicalBlockUptoSaid : Prop := fnExactPhysicalBlockUptoRow.holds Try.pinned (OpenSpec.upto fnExactPhysicalBlockSpec)

/-- 'laws.FnExactLogicalBlock', WHERE WHAT IT READS IS OF BULK AT MOST 1048576: true; the input reads as it did. -/
def fnExactLogicalBlockUptoRow : OpenClaim := { program := "ytgkanacaijlljac", sum := "6c369577b1711995406f989d4b8a320b3445bb0bccaad1dd4247d504eebdf89f", func := "loop.example/g00905/laws.FnExactLogicalBlock", spec := "fnExactLogicalBlock", apart := false, narrowed := true }
def FnExactLogicalBlockUptoSaid : Prop := fnExactLogicalBlockUptoRow.holds Try.pinned (OpenSpec.upto fnExactLogicalBlockSpec)

/-- 'laws.FnExactAvailableSpares', WHERE WHAT IT READS IS OF BULK AT MOST 1048576: true; the input reads as it did. -/
def fnExactAvailableSparesUptoRow : OpenClaim := { program := "ytgkanacaijlljac", sum := "6c369577b1711995406f989d4b8a320b3445bb0bccaad1dd4247d504eebdf89f", func := "loop.example/g00905/laws.FnExactAvailableSpares", spec := "fnExactAvailableSpares", apart := false, narrowed := true }
def FnExactAvailableSparesUptoSaid : Prop := fnExactAvailableSparesUptoRow.holds Try.pinned (OpenSpec.upto fnExactAvailableSparesSpec)

/-- 'laws.FnExactRetireBlock', WHERE WHAT IT READS IS OF BULK AT MOST 1048576: true; the input reads as it did. -/
def fnExactRetireBlockUptoRow : OpenClaim := { program := "ytgkanacaijlljac", sum := "6c369577b1711995406f989d4b8a320b3445bb0bccaad1dd4247d504eebdf89f", func := "loop.example/g00905/laws.FnExactRetireBlock", spec := "fnExactRetireBlock", inPlace := ["slices.overlaps[int64]"], apart := false, narrowed := true }
def FnExactRetireBlockUptoSaid : Prop := fnExactRetireBlockUptoRow.holds Try.pinned (OpenSpec.upto fnExactRetireBlockSpec)

/-- 'laws.FnExactMarkBadBlocks', WHERE WHAT IT READS IS OF BULK AT MOST 1048576: true; the input reads as it did. -/
def fnExactMarkBadBlocksUptoRow : OpenClaim := { program := "ytgkanacaijlljac", sum := "6c369577b1711995406f989d4b8a320b3445bb0bccaad1dd4247d504eebdf89f", func := "loop.example/g00905/laws.FnExactMarkBadBlocks", spec := "fnExactMarkBadBlocks", apart := false, narrowed := true }
def FnExactMarkBadBlocksUptoSaid : Prop := fnExactMarkBadBlocksUptoRow.holds Try.pinned (OpenSpec.upto fnExactMarkBadBlocksSpec)

/-- 'laws.FnExactScanBadBlocks', WHERE WHAT IT READS IS OF BULK AT MOST 1048576: true; the input reads as it did. -/
def fnExactScanBadBlocksUptoRow : OpenClaim := { program := "ytgkanacaijlljac", sum := "6c369577b1711995406f989d4b8a320b3445bb0bccaad1dd4247d504eebdf89f", func := "loop.example/g00905/laws.FnExactScanBadBlocks", spec := "fnExactScanBadBlocks", apart := false, narrowed := true }
def FnExactScanBadBlocksUptoSaid : Prop := fnExactScanBadBlocksUptoRow.holds Try.pinned (OpenSpec.upto fnExactScanBadBlocksSpec)

/-- 'laws.FnExactDifferingBits', WHERE WHAT IT READS IS OF BULK AT MOST 1048576: true; the input reads as it did. -/
def fnExactDifferingBitsUptoRow : OpenClaim := { program := "ytgkanacaijlljac", sum := "6c369577b1711995406f989d4b8a320b3445bb0bccaad1dd4247d504eebdf89f", func := "loop.example/g00905/laws.FnExactDifferingBits", spec := "fnExactDifferingBits", inPlace := ["internal/abi.NoEscape", "internal/bytealg.MakeNoZero"], apart := false, narrowed := true }
def FnExactDifferingBitsUptoSaid : Prop := fnExactDifferingBitsUptoRow.holds Try.pinned (OpenSpec.upto fnExactDifferingBitsSpec)

/-- 'laws.FnExactFaultedBlocks', WHERE WHAT IT READS IS OF BULK AT MOST 1048576: true; the input reads as it did. -/
def fnExactFaultedBlocksUptoRow : OpenClaim := { program := "ytgkanacaijlljac", sum := "6c369577b1711995406f989d4b8a320b3445bb0bccaad1dd4247d504eebdf89f", func := "loop.example/g00905/laws.FnExactFaultedBlocks", spec := "fnExactFaultedBlocks", recurses := true, apart := false, narrowed := true }
def FnExactFaultedBlocksUptoSaid : Prop := fnExactFaultedBlocksUptoRow.holds Try.pinned (OpenSpec.upto fnExactFaultedBlocksSpec)

/-- 'laws.FnExactApplyFault', WHERE WHAT IT READS IS OF BULK AT MOST 1048576: true; the input reads as it did. -/
def fnExactApplyFaultUptoRow : OpenClaim := { program := "ytgkanacaijlljac", sum := "6c369577b1711995406f989d4b8a320b3445bb0bccaad1dd4247d504eebdf89f", func := "loop.example/g00905/laws.FnExactApplyFault", spec := "fnExactApplyFault", unfollowed := true, recurses := true, apart := false, narrowed := true }
def FnExactApplyFaultUptoSaid : Prop := fnExactApplyFaultUptoRow.holds Try.pinned (OpenSpec.upto fnExactApplyFaultSpec)

/-- 'laws.FnExactApplyFaults', WHERE WHAT IT READS IS OF BULK AT MOST 1048576: true; the input reads as it did. -/
def fnExactApplyFaultsUptoRow : OpenClaim := { program := "ytgkanacaijlljac", sum := "6c369577b1711995406f989d4b8a320b3445bb0bccaad1dd4247d504eebdf89f", func := "loop.example/g00905/laws.FnExactApplyFaults", spec := "fnExactApplyFaults", unfollowed := true, recurses := true, apart := false, narrowed := true }
def FnExactApplyFaultsUptoSaid : Prop := fnExactApplyFaultsUptoRow.holds Try.pinned (OpenSpec.upto fnExactApplyFaultsSpec)

end Rows
end Go.Proofs.Ytgkanacaijlljac
