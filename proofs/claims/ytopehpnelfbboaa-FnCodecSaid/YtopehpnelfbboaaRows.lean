/-
  No cell of these rows narrows 'for every input' (looked for: loops, veiled, ifaces, maps, wideKeys, modest, calm, conditions, laid).
  DERIVED. THE GIVEN ROWS OF THIS SEAT. 5 by the template 'for every input the law returns true; each argument reads behind the call as it read before'; 0 by the template 'total and deterministic' (their statements: YtopehpnelfbboaaTotals.lean).
  GIVEN WITH THE SEED: the statements are not yours to turn. If you find one false, say at which input.
  Laid BY PROGRAM, IN A SANDBOX (cutbox-rows.mjs): the forced cells as the released guide's own fill.sh prints them over the translation e5c6b2f856a77115… (all of the seat's roots in one cut). By AI agents, Wed Nov 11 2026. No macro, syntax, notation, axiom, sorry.
-/
import Derived.Test.YtopehpnelfbboaaChecked
import GoSem.Claim
import GoSem.ClaimJoined
import GoSem.ClaimMapViews
import Derived.JoinedTies
import Derived.KernelRfl
namespace Go.Proofs.Ytopehpnelfbboaa
/- THE CELL 'sum', in the pinned program and in every row, IS THE sha256 OF THE DUMP (.gsa) THAT YtopehpnelfbboaaProg.lean LOADS. Nothing in Lean hashes anything: it is a label: what it is worth is what the hold of that sum in a sandbox is worth. -/
noncomputable def Try.pinned : Pinned := { name := "ytopehpnelfbboaa", sum := "e5c6b2f856a771157d5e56b9897c6b210bf57434f327de978cd05a8fc07ec7e0", checked := Try.checked }
namespace Rows
def none {H : Type} : Left H := { results := [], args := [] }

/-- 'laws.FnCodec': WHATEVER THE INPUT: true; the input reads as it did. -/
def fnCodecSpec : ChangeSpec := { name := "fnCodec", fn := fun _ => fun
  | [d1, d2] => { results := [.lit (.bool true)], args := [d1, d2] }
  | _ => none }
def fnCodecRow : OpenClaim := { program := "ytopehpnelfbboaa", sum := "e5c6b2f856a771157d5e56b9897c6b210bf57434f327de978cd05a8fc07ec7e0", func := "loop.example/g00905/laws.FnCodec", spec := "fnCodec", apart := false }
def FnCodecSaid : Prop := fnCodecRow.holds Try.pinned (OpenSpec.ofChange fnCodecSpec)

/-- ITS FALSE NEIGHBOUR: 'it returns false'. Refute it at one input. -/
def fnCodecWrong : ChangeSpec := { name := "fnCodec", fn := fun _ => fun
  | [d1, d2] => { results := [.lit (.bool false)], args := [d1, d2] }
  | _ => none }
def FnCodecWrongFalsely : Prop := fnCodecRow.holds Try.pinned (OpenSpec.ofChange fnCodecWrong)

/-- 'laws.FnLfsr': WHATEVER THE INPUT: true; the input reads as it did. -/
def fnLfsrSpec : ChangeSpec := { name := "fnLfsr", fn := fun _ => fun
  | [d1, d2] => { results := [.lit (.bool true)], args := [d1, d2] }
  | _ => none }
def fnLfsrRow : OpenClaim := { program := "ytopehpnelfbboaa", sum := "e5c6b2f856a771157d5e56b9897c6b210bf57434f327de978cd05a8fc07ec7e0", func := "loop.example/g00905/laws.FnLfsr", spec := "fnLfsr", unfollowed := true, recurses := true, apart := false }
def FnLfsrSaid : Prop := fnLfsrRow.holds Try.pinned (OpenSpec.ofChange fnLfsrSpec)

/-- ITS FALSE NEIGHBOUR: 'it returns false'. Refute it at one input. -/
def fnLfsrWrong : ChangeSpec := { name := "fnLfsr", fn := fun _ => fun
  | [d1, d2] => { results := [.lit (.bool false)], args := [d1, d2] }
  | _ => none }
def FnLfsrWrongFalsely : Prop := fnLfsrRow.holds Try.pinned (OpenSpec.ofChange fnLfsrWrong)

/-- 'laws.FnScramble': WHATEVER THE INPUT: true; the input reads as it did. -/
def fnScrambleSpec : ChangeSpec := { name := "fnScramble", fn := fun _ => fun
  | [d1, d2] => { results := [.lit (.bool true)], args := [d1, d2] }
  | _ => none }
def fnScrambleRow : OpenClaim := { program := "ytopehpnelfbboaa", sum := "e5c6b2f856a771157d5e56b9897c6b210bf57434f327de978cd05a8fc07ec7e0", func := "loop.example/g00905/laws.FnScramble", spec := "fnScramble", apart := false }
def FnScrambleSaid : Prop := fnScrambleRow.holds Try.pinned (OpenSpec.ofChange fnScrambleSpec)

/-- ITS FALSE NEIGHBOUR: 'it returns false'. Refute it at one input. -/
def fnScrambleWrong : ChangeSpec := { name := "fnScramble", fn := fun _ => fun
  | [d1, d2] => { results := [.lit (.bool false)], args := [d1, d2] }
  | _ => none }
def FnScrambleWrongFalsely : Prop := fnScrambleRow.holds Try.pinned (OpenSpec.ofChange fnScrambleWrong)

/-- 'laws.FnExactCodeName': WHATEVER THE INPUT: true; the input reads as it did. -/
def fnExactCodeNameSpec : ChangeSpec := { name := "fnExactCodeName", fn := fun _ => fun
  | [d] => { results := [.lit (.bool true)], args := [d] }
  | _ => none }
def fnExactCodeNameRow : OpenClaim := { program := "ytopehpnelfbboaa", sum := "e5c6b2f856a771157d5e56b9897c6b210bf57434f327de978cd05a8fc07ec7e0", func := "loop.example/g00905/laws.FnExactCodeName", spec := "fnExactCodeName", apart := false }
def FnExactCodeNameSaid : Prop := fnExactCodeNameRow.holds Try.pinned (OpenSpec.ofChange fnExactCodeNameSpec)

/-- ITS FALSE NEIGHBOUR: 'it returns false'. Refute it at one input. -/
def fnExactCodeNameWrong : ChangeSpec := { name := "fnExactCodeName", fn := fun _ => fun
  | [d] => { results := [.lit (.bool false)], args := [d] }
  | _ => none }
def FnExactCodeNameWrongFalsely : Prop := fnExactCodeNameRow.holds Try.pinned (OpenSpec.ofChange fnExactCodeNameWrong)

/-- 'laws.FnExactEncodeUvarint': WHATEVER THE INPUT: true; the input reads as it did. -/
def fnExactEncodeUvarintSpec : ChangeSpec := { name := "fnExactEncodeUvarint", fn := fun _ => fun
  | [d] => { results := [.lit (.bool true)], args := [d] }
  | _ => none }
def fnExactEncodeUvarintRow : OpenClaim := { program := "ytopehpnelfbboaa", sum := "e5c6b2f856a771157d5e56b9897c6b210bf57434f327de978cd05a8fc07ec7e0", func := "loop.example/g00905/laws.FnExactEncodeUvarint", spec := "fnExactEncodeUvarint", apart := false }
def FnExactEncodeUvarintSaid : Prop := fnExactEncodeUvarintRow.holds Try.pinned (OpenSpec.ofChange fnExactEncodeUvarintSpec)

/-- ITS FALSE NEIGHBOUR: 'it returns false'. Refute it at one input. -/
def fnExactEncodeUvarintWrong : ChangeSpec := { name := "fnExactEncodeUvarint", fn := fun _ => fun
  | [d] => { results := [.lit (.bool false)], args := [d] }
  | _ => none }
def FnExactEncodeUvarintWrongFalsely : Prop := fnExactEncodeUvarintRow.holds Try.pinned (OpenSpec.ofChange fnExactEncodeUvarintWrong)

/- THE SECOND FORM. 'bulk': how many values and letters a reading holds, each counted each time it is reached (what is shared counts as often as it is met; a slice's spare places count too). A statement '..UptoSaid' is the law's where the arguments, and the package variables that the reading takes, are together of bulk at most 1048576: NARROWER than '..Said'. Prove '..Said' where nothing that the law and all that it calls make is longer than what came in: it says more and counts as full. Else prove '..UptoSaid'. A law counts once. -/
mutual
def uptoBulk {H : Type} : DataW H → Nat
  | .lit (.string bytes) => bytes.length + 1
  | .lit _ => 1
  | .nil => 1
  | .ptr d => uptoBulk d + 1
  | .slice elems spare => uptoBulkAll elems + uptoBulkAll spare + 1
  | .agg parts => uptoBulkAll parts + 1
  | .iface _ d => uptoBulk d + 1
  | .map entries => uptoBulkEntries entries + 1
  | .held _ => 1
def uptoBulkAll {H : Type} : List (DataW H) → Nat
  | [] => 0
  | d :: r => uptoBulk d + uptoBulkAll r
def uptoBulkEntries {H : Type} : List (Lit × DataW H) → Nat
  | [] => 0
  | x :: r => uptoBulkEntry x + uptoBulkEntries r
def uptoBulkEntry {H : Type} : Lit × DataW H → Nat
  | (.string bytes, d) => bytes.length + uptoBulk d + 1
  | (_, d) => uptoBulk d + 1
 end
def uptoSmall : (H : Type) → List (DataW H) → Bool := fun _ ds => decide (uptoBulkAll ds ≤ 1048576)
def OpenSpec.upto (s : _root_.Go.ChangeSpec) : _root_.Go.OpenSpec := { _root_.Go.OpenSpec.ofChange s with cond := some uptoSmall }

/-- 'laws.FnCodec', WHERE WHAT IT READS IS OF BULK AT MOST 1048576: true; the input reads as it did. -/
def fnCodecUptoRow : OpenClaim := { program := "ytopehpnelfbboaa", sum := "e5c6b2f856a771157d5e56b9897c6b210bf57434f327de978cd05a8fc07ec7e0", func := "loop.example/g00905/laws.FnCodec", spec := "fnCodec", apart := false, narrowed := true }
def FnCodecUptoSaid : Prop := fnCodecUptoRow.holds Try.pinned (OpenSpec.upto fnCodecSpec)

/-- 'laws.FnLfsr', WHERE WHAT IT READS IS OF BULK AT MOST 1048576: true; the input reads as it did. -/
def fnLfsrUptoRow : OpenClaim := { program := "ytopehpnelfbboaa", sum := "e5c6b2f856a771157d5e56b9897c6b210bf57434f327de978cd05a8fc07ec7e0", func := "loop.example/g00905/laws.FnLfsr", spec := "fnLfsr", unfollowed := true, recurses := true, apart := false, narrowed := true }
def FnLfsrUptoSaid : Prop := fnLfsrUptoRow.holds Try.pinned (OpenSpec.upto fnLfsrSpec)

/-- 'laws.FnScramble', WHERE WHAT IT READS IS OF BULK AT MOST 1048576: true; the input reads as it did. -/
def fnScrambleUptoRow : OpenClaim := { program := "ytopehpnelfbboaa", sum := "e5c6b2f856a771157d5e56b9897c6b210bf57434f327de978cd05a8fc07ec7e0", func := "loop.example/g00905/laws.FnScramble", spec := "fnScramble", apart := false, narrowed := true }
def FnScrambleUptoSaid : Prop := fnScrambleUptoRow.holds Try.pinned (OpenSpec.upto fnScrambleSpec)

/-- 'laws.FnExactCodeName', WHERE WHAT IT READS IS OF BULK AT MOST 1048576: true; the input reads as it did. -/
def fnExactCodeNameUptoRow : OpenClaim := { program := "ytopehpnelfbboaa", sum := "e5c6b2f856a771157d5e56b9897c6b210bf57434f327de978cd05a8fc07ec7e0", func := "loop.example/g00905/laws.FnExactCodeName", spec := "fnExactCodeName", apart := false, narrowed := true }
def FnExactCodeNameUptoSaid : Prop := fnExactCodeNameUptoRow.holds Try.pinned (OpenSpec.upto fnExactCodeNameSpec)

/-- 'laws.FnExactEncodeUvarint', WHERE WHAT IT READS IS OF BULK AT MOST 1048576: true; the input reads as it did. -/
def fnExactEncodeUvarintUptoRow : OpenClaim := { program := "ytopehpnelfbboaa", sum := "e5c6b2f856a771157d5e56b9897c6b210bf57434f327de978cd05a8fc07ec7e0", func := "loop.example/g00905/laws.FnExactEncodeUvarint", spec := "fnExactEncodeUvarint", apart := false, narrowed := true }
def FnExactEncodeUvarintUptoSaid : Prop := fnExactEncodeUvarintUptoRow.holds Try.pinned (OpenSpec.upto fnExactEncodeUvarintSpec)

end Rows
end Go.Proofs.Ytopehpnelfbboaa
