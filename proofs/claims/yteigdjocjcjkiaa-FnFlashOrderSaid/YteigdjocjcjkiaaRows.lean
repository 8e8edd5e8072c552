/-
  No cell of these rows narrows 'for every input' (looked for: loops, veiled, ifaces, maps, wideKeys, modest, calm, conditions, laid).
  DERIVED. THE GIVEN ROWS OF THIS SEAT. 5 by the template 'for every input the law returns true; each argument reads behind the call as it read before'; 0 by the template 'total and deterministic' (their statements: YteigdjocjcjkiaaTotals.lean).
  GIVEN WITH THE SEED: the statements are not yours to turn. If you find one false, say at which input.
  Laid BY PROGRAM, IN A SANDBOX (cutbox-rows.mjs): the forced cells as the released guide's own fill.sh prints them over the translation 2c3d06b42652be6b… (all of the seat's roots in one cut). By AI agents, Wed Nov 11 2026. No macro, syntax, notation, axiom, sorry.
-/
import Derived.Test.YteigdjocjcjkiaaChecked
import GoSem.Claim
import GoSem.ClaimJoined
import GoSem.ClaimMapViews
import Derived.JoinedTies
import Derived.KernelRfl
namespace Go.Proofs.Yteigdjocjcjkiaa
/- THE CELL 'sum', in the pinned program and in every row, IS THE sha256 OF THE DUMP (.gsa) THAT YteigdjocjcjkiaaProg.lean LOADS. Nothing in Lean hashes anything: it is a label: what it is worth is what the hold of that sum in a sandbox is worth. -/
noncomputable def Try.pinned : Pinned := { name := "yteigdjocjcjkiaa", sum := "2c3d06b42652be6bae45c9154b092da9ea860fcb7d12060b3ee319874b214b0d", checked := Try.checked }
namespace Rows
def none {H : Type} : Left H := { results := [], args := [] }

/-- 'laws.FnExactProgramPage': WHATEVER THE INPUT: true; the input reads as it did. -/
def fnExactProgramPageSpec : ChangeSpec := { name := "fnExactProgramPage", fn := fun _ => fun
  | [d1, d2, d3, d4] => { results := [.lit (.bool true)], args := [d1, d2, d3, d4] }
  | _ => none }
def fnExactProgramPageRow : OpenClaim := { program := "yteigdjocjcjkiaa", sum := "2c3d06b42652be6bae45c9154b092da9ea860fcb7d12060b3ee319874b214b0d", func := "loop.example/g00905/laws.FnExactProgramPage", spec := "fnExactProgramPage", inPlace := ["internal/abi.NoEscape", "internal/bytealg.MakeNoZero"], apart := false }
def FnExactProgramPageSaid : Prop := fnExactProgramPageRow.holds Try.pinned (OpenSpec.ofChange fnExactProgramPageSpec)

/-- ITS FALSE NEIGHBOUR: 'it returns false'. Refute it at one input. -/
def fnExactProgramPageWrong : ChangeSpec := { name := "fnExactProgramPage", fn := fun _ => fun
  | [d1, d2, d3, d4] => { results := [.lit (.bool false)], args := [d1, d2, d3, d4] }
  | _ => none }
def FnExactProgramPageWrongFalsely : Prop := fnExactProgramPageRow.holds Try.pinned (OpenSpec.ofChange fnExactProgramPageWrong)

/-- 'laws.FnExactReadRaw': WHATEVER THE INPUT: true; the input reads as it did. -/
def fnExactReadRawSpec : ChangeSpec := { name := "fnExactReadRaw", fn := fun _ => fun
  | [d1, d2, d3] => { results := [.lit (.bool true)], args := [d1, d2, d3] }
  | _ => none }
def fnExactReadRawRow : OpenClaim := { program := "yteigdjocjcjkiaa", sum := "2c3d06b42652be6bae45c9154b092da9ea860fcb7d12060b3ee319874b214b0d", func := "loop.example/g00905/laws.FnExactReadRaw", spec := "fnExactReadRaw", inPlace := ["internal/abi.NoEscape", "internal/bytealg.MakeNoZero"], apart := false }
def FnExactReadRawSaid : Prop := fnExactReadRawRow.holds Try.pinned (OpenSpec.ofChange fnExactReadRawSpec)

/-- ITS FALSE NEIGHBOUR: 'it returns false'. Refute it at one input. -/
def fnExactReadRawWrong : ChangeSpec := { name := "fnExactReadRaw", fn := fun _ => fun
  | [d1, d2, d3] => { results := [.lit (.bool false)], args := [d1, d2, d3] }
  | _ => none }
def FnExactReadRawWrongFalsely : Prop := fnExactReadRawRow.holds Try.pinned (OpenSpec.ofChange fnExactReadRawWrong)

/-- 'laws.FnExactFlipPageBit': WHATEVER THE INPUT: true; the input reads as it did. -/
def fnExactFlipPageBitSpec : ChangeSpec := { name := "fnExactFlipPageBit", fn := fun _ => fun
  | [d1, d2] => { results := [.lit (.bool true)], args := [d1, d2] }
  | _ => none }
def fnExactFlipPageBitRow : OpenClaim := { program := "yteigdjocjcjkiaa", sum := "2c3d06b42652be6bae45c9154b092da9ea860fcb7d12060b3ee319874b214b0d", func := "loop.example/g00905/laws.FnExactFlipPageBit", spec := "fnExactFlipPageBit", apart := false }
def FnExactFlipPageBitSaid : Prop := fnExactFlipPageBitRow.holds Try.pinned (OpenSpec.ofChange fnExactFlipPageBitSpec)

/-- ITS FALSE NEIGHBOUR: 'it returns false'. Refute it at one input. -/
def fnExactFlipPageBitWrong : ChangeSpec := { name := "fnExactFlipPageBit", fn := fun _ => fun
  | [d1, d2] => { results := [.lit (.bool false)], args := [d1, d2] }
  | _ => none }
def FnExactFlipPageBitWrongFalsely : Prop := fnExactFlipPageBitRow.holds Try.pinned (OpenSpec.ofChange fnExactFlipPageBitWrong)

/-- 'laws.FnFlashOrder': WHATEVER THE INPUT: true; the input reads as it did. -/
def fnFlashOrderSpec : ChangeSpec := { name := "fnFlashOrder", fn := fun _ => fun
  | [d1, d2] => { results := [.lit (.bool true)], args := [d1, d2] }
  | _ => none }
def fnFlashOrderRow : OpenClaim := { program := "yteigdjocjcjkiaa", sum := "2c3d06b42652be6bae45c9154b092da9ea860fcb7d12060b3ee319874b214b0d", func := "loop.example/g00905/laws.FnFlashOrder", spec := "fnFlashOrder", inPlace := ["internal/abi.NoEscape", "internal/bytealg.MakeNoZero"], apart := false }
def FnFlashOrderSaid : Prop := fnFlashOrderRow.holds Try.pinned (OpenSpec.ofChange fnFlashOrderSpec)

/-- ITS FALSE NEIGHBOUR: 'it returns false'. Refute it at one input. -/
def fnFlashOrderWrong : ChangeSpec := { name := "fnFlashOrder", fn := fun _ => fun
  | [d1, d2] => { results := [.lit (.bool false)], args := [d1, d2] }
  | _ => none }
def FnFlashOrderWrongFalsely : Prop := fnFlashOrderRow.holds Try.pinned (OpenSpec.ofChange fnFlashOrderWrong)

/-- 'laws.FnTornErase': WHATEVER THE INPUT: true; the input reads as it did. -/
def fnTornEraseSpec : ChangeSpec := { name := "fnTornErase", fn := fun _ => fun
  | [d1, d2] => { results := [.lit (.bool true)], args := [d1, d2] }
  | _ => none }
def fnTornEraseRow : OpenClaim := { program := "yteigdjocjcjkiaa", sum := "2c3d06b42652be6bae45c9154b092da9ea860fcb7d12060b3ee319874b214b0d", func := "loop.example/g00905/laws.FnTornErase", spec := "fnTornErase", inPlace := ["internal/abi.NoEscape", "internal/bytealg.MakeNoZero"], apart := false }
def FnTornEraseSaid : Prop := fnTornEraseRow.holds Try.pinned (OpenSpec.ofChange fnTornEraseSpec)

/-- ITS FALSE NEIGHBOUR: 'it returns false'. Refute it at one input. -/
def fnTornEraseWrong : ChangeSpec := { name := "fnTornErase", fn := fun _ => fun
  | [d1, d2] => { results := [.lit (.bool false)], args := [d1, d2] }
  | _ => none }
def FnTornEraseWrongFalsely : Prop := fnTornEraseRow.holds Try.pinned (OpenSpec.ofChange fnTornEraseWrong)

/- THE SECOND FORM. 'bulk': how many values and letters a reading holds, each counted each time it is reached (what is shared counts as often as it is met; a slice's spare places count too). A statement '..UptoSaid' is the law's where the arguments, and the package variables that the reading takes, are together of bulk at most 1048576: NARROWER than '..Said'. Prove '..Said' where nothing that the law and all that it calls make is longer than what came in: it says more and counts as full. Else prove '..UptoSaid'. A law counts once. -/
mutual
def uptoBulk {H : Type} : DataW H → Nat
  | .lit (.string bytes) => bytes.length + 1
  | .lit _ => 1
  | .nil => 1
  | .ptr d => uptoBulk d + 1
  | .slice elems spare => uptoBulkAll elems + uptoBulkAll spare + 1
  | .agg parts => uptoBulkAll parts + 1
  | .iface _ d => uptoBulk d + 1
  | .map entries => uptoBulkEntries entries + 1
  | .held _ => 1
def uptoBulkAll {H : Type} : List (DataW H) → Nat
  | [] => 0
  | d :: r => uptoBulk d + uptoBulkAll r
def uptoBulkEntries {H : Type} : List (Lit × DataW H) → Nat
  | [] => 0
  | x :: r => uptoBulkEntry x + uptoBulkEntries r
def uptoBulkEntry {H : Type} : Lit × DataW H → Nat
  | (.string bytes, d) => bytes.length + uptoBulk d + 1
  | (_, d) => uptoBulk d + 1
 end
def uptoSmall : (H : Type) → List (DataW H) → Bool := fun _ ds => decide (uptoBulkAll ds ≤ 1048576)
def OpenSpec.upto (s : _root_.Go.ChangeSpec) : _root_.Go.OpenSpec := { _root_.Go.OpenSpec.ofChange s with cond := some uptoSmall }

/-- 'laws.FnExactProgramPage', WHERE WHAT IT READS IS OF BULK AT MOST 1048576: true; the input reads as it did. -/
def fnExactProgramPageUptoRow : OpenClaim := { program := "yteigdjocjcjkiaa", sum := "2c3d06b42652be6bae45c9154b092da9ea860fcb7d12060b3ee319874b214b0d", func := "loop.example/g00905/laws.FnExactProgramPage", spec := "fnExactProgramPage", inPlace := ["internal/abi.NoEscape", "internal/bytealg.MakeNoZero"], apart := false, narrowed := true }
def FnExactProgramPageUptoSaid : Prop := fnExactProgramPageUptoRow.holds Try.pinned (OpenSpec.upto fnExactProgramPageSpec)

/-- 'laws.FnExactReadRaw', WHERE WHAT IT READS IS OF BULK AT MOST 1048576: true; the input reads as it did. -/
def fnExactReadRawUptoRow : OpenClaim := { program := "yteigdjocjcjkiaa", sum := "2c3d06b42652be6bae45c9154b092da9ea860fcb7d12060b3ee319874b214b0d", func := "loop.example/g00905/laws.FnExactReadRaw", spec := "fnExactReadRaw", inPlace := ["internal/abi.NoEscape", "internal/bytealg.MakeNoZero"], apart := false, narrowed := true }
def FnExactReadRawUptoSaid : Prop := fnExactReadRawUptoRow.holds Try.pinned (OpenSpec.upto fnExactReadRawSpec)

/-- 'laws.FnExactFlipPageBit', WHERE WHAT IT READS IS OF BULK AT MOST 1048576: true; the input reads as it did. -/
def fnExactFlipPageBitUptoRow : OpenClaim := { program := "yteigdjocjcjkiaa", sum := "2c3d06b42652be6bae45c9154b092da9ea860fcb7d12060b3ee319874b214b0d", func := "loop.example/g00905/laws.FnExactFlipPageBit", spec := "fnExactFlipPageBit", apart := false, narrowed := true }
def FnExactFlipPageBitUptoSaid : Prop := fnExactFlipPageBitUptoRow.holds Try.pinned (OpenSpec.upto fnExactFlipPageBitSpec)

/-- 'laws.FnFlashOrder', WHERE WHAT IT READS IS OF BULK AT MOST 1048576: true; the input reads as it did. -/
def fnFlashOrderUptoRow : OpenClaim := { program := "yteigdjocjcjkiaa", sum := "2c3d06b42652be6bae45c9154b092da9ea860fcb7d12060b3ee319874b214b0d", func := "loop.example/g00905/laws.FnFlashOrder", spec := "fnFlashOrder", inPlace := ["internal/abi.NoEscape", "internal/bytealg.MakeNoZero"], apart := false, narrowed := true }
def FnFlashOrderUptoSaid : Prop := fnFlashOrderUptoRow.holds Try.pinned (OpenSpec.upto fnFlashOrderSpec)

/-- 'laws.FnTornErase', WHERE WHAT IT READS IS OF BULK AT MOST 1048576: true; the input reads as it did. -/
def fnTornEraseUptoRow : OpenClaim := { program := "yteigdjocjcjkiaa", sum := "2c3d06b42652be6bae45c9154b092da9ea860fcb7d12060b3ee319874b214b0d", func := "loop.example/g00905/laws.FnTornErase", spec := "fnTornErase", inPlace := ["internal/abi.NoEscape", "internal/bytealg.MakeNoZero"], apart := false, narrowed := true }
def FnTornEraseUptoSaid : Prop := fnTornEraseUptoRow.holds Try.pinned (OpenSpec.upto fnTornEraseSpec)

end Rows
end Go.Proofs.Yteigdjocjcjkiaa
