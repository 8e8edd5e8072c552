/-
  No cell of these rows narrows 'for every input' (looked for: loops, veiled, ifaces, maps, wideKeys, modest, calm, conditions, laid).
  DERIVED. THE GIVEN ROWS OF THIS SEAT. 12 by the template 'for every input the law returns true; each argument reads behind the call as it read before'; 0 by the template 'total and deterministic' (their statements: YtgkanacaijlljaaTotals.lean).
  GIVEN WITH THE SEED: the statements are not yours to turn. If you find one false, say at which input.
  Laid BY PROGRAM, IN A SANDBOX (cutbox-rows.mjs): the forced cells as the released guide's own fill.sh prints them over the translation 1bf058940201bcb0… (all of the seat's roots in one cut). By AI agents, Wed Nov 11 2026. No macro, syntax, notation, axiom, sorry.
-/
import Derived.Test.YtgkanacaijlljaaChecked
import GoSem.Claim
import GoSem.ClaimJoined
import GoSem.ClaimMapViews
import Derived.JoinedTies
import Derived.KernelRfl
namespace Go.Proofs.Ytgkanacaijlljaa
/- THE CELL 'sum', in the pinned program and in every row, IS THE sha256 OF THE DUMP (.gsa) THAT YtgkanacaijlljaaProg.lean LOADS. Nothing in Lean hashes anything: it is a label: what it is worth is what the hold of that sum in a sandbox is worth. -/
noncomputable def Try.pinned : Pinned := { name := "ytgkanacaijlljaa", sum := "1bf058940201bcb0c748c4be34d89edaa6711c99721207f984ae20bed2905cb9", checked := Try.checked }
namespace Rows
def none {H : Type} : Left H := { results := [], args := [] }

/-- 'laws.FnExactValidHeat': WHATEVER THE INPUT: true; the input reads as it did. -/
def fnExactValidHeatSpec : ChangeSpec := { name := "fnExactValidHeat", fn := fun _ => fun
  | [d] => { results := [.lit (.bool true)], args := [d] }
  | _ => none }
def fnExactValidHeatRow : OpenClaim := { program := "ytgkanacaijlljaa", sum := "1bf058940201bcb0c748c4be34d89edaa6711c99721207f984ae20bed2905cb9", func := "loop.example/g00905/laws.FnExactValidHeat", spec := "fnExactValidHeat", unfollowed := true, recurses := true, apart := false }
def FnExactValidHeatSaid : Prop := fnExactValidHeatRow.holds Try.pinned (OpenSpec.ofChange fnExactValidHeatSpec)

/-- ITS FALSE NEIGHBOUR: 'it returns false'. Refute it at one input. -/
def fnExactValidHeatWrong : ChangeSpec := { name := "fnExactValidHeat", fn := fun _ => fun
  | [d] => { results := [.lit (.bool false)], args := [d] }
  | _ => none }
def FnExactValidHeatWrongFalsely : Prop := fnExactValidHeatRow.holds Try.pinned (OpenSpec.ofChange fnExactValidHeatWrong)

/-- 'laws.FnExactSameHeat': WHATEVER THE INPUT: true; the input reads as it did. -/
def fnExactSameHeatSpec : ChangeSpec := { name := "fnExactSameHeat", fn := fun _ => fun
  | [d1, d2] => { results := [.lit (.bool true)], args := [d1, d2] }
  | _ => none }
def fnExactSameHeatRow : OpenClaim := { program := "ytgkanacaijlljaa", sum := "1bf058940201bcb0c748c4be34d89edaa6711c99721207f984ae20bed2905cb9", func := "loop.example/g00905/laws.FnExactSameHeat", spec := "fnExactSameHeat", apart := false }
def FnExactSameHeatSaid : Prop := fnExactSameHeatRow.holds Try.pinned (OpenSpec.ofChange fnExactSameHeatSpec)

/-- ITS FALSE NEIGHBOUR: 'it returns false'. Refute it at one input. -/
def fnExactSameHeatWrong : ChangeSpec := { name := "fnExactSameHeat", fn := fun _ => fun
  | [d1, d2] => { results := [.lit (.bool false)], args := [d1, d2] }
  | _ => none }
def FnExactSameHeatWrongFalsely : Prop := fnExactSameHeatRow.holds Try.pinned (OpenSpec.ofChange fnExactSameHeatWrong)

/-- 'laws.FnExactNewHeat': WHATEVER THE INPUT: true; the input reads as it did. -/
def fnExactNewHeatSpec : ChangeSpec := { name := "fnExactNewHeat", fn := fun _ => fun
  | [d] => { results := [.lit (.bool true)], args := [d] }
  | _ => none }
def fnExactNewHeatRow : OpenClaim := { program := "ytgkanacaijlljaa", sum := "1bf058940201bcb0c748c4be34d89edaa6711c99721207f984ae20bed2905cb9", func := "loop.example/g00905/laws.FnExactNewHeat", spec := "fnExactNewHeat", apart := false }
def FnExactNewHeatSaid : Prop := fnExactNewHeatRow.holds Try.pinned (OpenSpec.ofChange fnExactNewHeatSpec)

/-- ITS FALSE NEIGHBOUR: 'it returns false'. Refute it at one input. -/
def fnExactNewHeatWrong : ChangeSpec := { name := "fnExactNewHeat", fn := fun _ => fun
  | [d] => { results := [.lit (.bool false)], args := [d] }
  | _ => none }
def FnExactNewHeatWrongFalsely : Prop := fnExactNewHeatRow.holds Try.pinned (OpenSpec.ofChange fnExactNewHeatWrong)

/-- 'laws.FnExactNoteWrite': WHATEVER THE INPUT: true; the input reads as it did. -/
def fnExactNoteWriteSpec : ChangeSpec := { name := "fnExactNoteWrite", fn := fun _ => fun
  | [d1, d2] => { results := [.lit (.bool true)], args := [d1, d2] }
  | _ => none }
def fnExactNoteWriteRow : OpenClaim := { program := "ytgkanacaijlljaa", sum := "1bf058940201bcb0c748c4be34d89edaa6711c99721207f984ae20bed2905cb9", func := "loop.example/g00905/laws.FnExactNoteWrite", spec := "fnExactNoteWrite", unfollowed := true, recurses := true, apart := false }
def FnExactNoteWriteSaid : Prop := fnExactNoteWriteRow.holds Try.pinned (OpenSpec.ofChange fnExactNoteWriteSpec)

/-- ITS FALSE NEIGHBOUR: 'it returns false'. Refute it at one input. -/
def fnExactNoteWriteWrong : ChangeSpec := { name := "fnExactNoteWrite", fn := fun _ => fun
  | [d1, d2] => { results := [.lit (.bool false)], args := [d1, d2] }
  | _ => none }
def FnExactNoteWriteWrongFalsely : Prop := fnExactNoteWriteRow.holds Try.pinned (OpenSpec.ofChange fnExactNoteWriteWrong)

/-- 'laws.FnExactDecayHeat': WHATEVER THE INPUT: true; the input reads as it did. -/
def fnExactDecayHeatSpec : ChangeSpec := { name := "fnExactDecayHeat", fn := fun _ => fun
  | [d] => { results := [.lit (.bool true)], args := [d] }
  | _ => none }
def fnExactDecayHeatRow : OpenClaim := { program := "ytgkanacaijlljaa", sum := "1bf058940201bcb0c748c4be34d89edaa6711c99721207f984ae20bed2905cb9", func := "loop.example/g00905/laws.FnExactDecayHeat", spec := "fnExactDecayHeat", unfollowed := true, recurses := true, apart := false }
def FnExactDecayHeatSaid : Prop := fnExactDecayHeatRow.holds Try.pinned (OpenSpec.ofChange fnExactDecayHeatSpec)

/-- ITS FALSE NEIGHBOUR: 'it returns false'. Refute it at one input. -/
def fnExactDecayHeatWrong : ChangeSpec := { name := "fnExactDecayHeat", fn := fun _ => fun
  | [d] => { results := [.lit (.bool false)], args := [d] }
  | _ => none }
def FnExactDecayHeatWrongFalsely : Prop := fnExactDecayHeatRow.holds Try.pinned (OpenSpec.ofChange fnExactDecayHeatWrong)

/-- 'laws.FnExactIsHot': WHATEVER THE INPUT: true; the input reads as it did. -/
def fnExactIsHotSpec : ChangeSpec := { name := "fnExactIsHot", fn := fun _ => fun
  | [d1, d2] => { results := [.lit (.bool true)], args := [d1, d2] }
  | _ => none }
def fnExactIsHotRow : OpenClaim := { program := "ytgkanacaijlljaa", sum := "1bf058940201bcb0c748c4be34d89edaa6711c99721207f984ae20bed2905cb9", func := "loop.example/g00905/laws.FnExactIsHot", spec := "fnExactIsHot", unfollowed := true, recurses := true, apart := false }
def FnExactIsHotSaid : Prop := fnExactIsHotRow.holds Try.pinned (OpenSpec.ofChange fnExactIsHotSpec)

/-- ITS FALSE NEIGHBOUR: 'it returns false'. Refute it at one input. -/
def fnExactIsHotWrong : ChangeSpec := { name := "fnExactIsHot", fn := fun _ => fun
  | [d1, d2] => { results := [.lit (.bool false)], args := [d1, d2] }
  | _ => none }
def FnExactIsHotWrongFalsely : Prop := fnExactIsHotRow.holds Try.pinned (OpenSpec.ofChange fnExactIsHotWrong)

/-- 'laws.FnExactStreamOf': WHATEVER THE INPUT: true; the input reads as it did. -/
def fnExactStreamOfSpec : ChangeSpec := { name := "fnExactStreamOf", fn := fun _ => fun
  | [d1, d2] => { results := [.lit (.bool true)], args := [d1, d2] }
  | _ => none }
def fnExactStreamOfRow : OpenClaim := { program := "ytgkanacaijlljaa", sum := "1bf058940201bcb0c748c4be34d89edaa6711c99721207f984ae20bed2905cb9", func := "loop.example/g00905/laws.FnExactStreamOf", spec := "fnExactStreamOf", unfollowed := true, recurses := true, apart := false }
def FnExactStreamOfSaid : Prop := fnExactStreamOfRow.holds Try.pinned (OpenSpec.ofChange fnExactStreamOfSpec)

/-- ITS FALSE NEIGHBOUR: 'it returns false'. Refute it at one input. -/
def fnExactStreamOfWrong : ChangeSpec := { name := "fnExactStreamOf", fn := fun _ => fun
  | [d1, d2] => { results := [.lit (.bool false)], args := [d1, d2] }
  | _ => none }
def FnExactStreamOfWrongFalsely : Prop := fnExactStreamOfRow.holds Try.pinned (OpenSpec.ofChange fnExactStreamOfWrong)

/-- 'laws.FnExactHotPages': WHATEVER THE INPUT: true; the input reads as it did. -/
def fnExactHotPagesSpec : ChangeSpec := { name := "fnExactHotPages", fn := fun _ => fun
  | [d] => { results := [.lit (.bool true)], args := [d] }
  | _ => none }
def fnExactHotPagesRow : OpenClaim := { program := "ytgkanacaijlljaa", sum := "1bf058940201bcb0c748c4be34d89edaa6711c99721207f984ae20bed2905cb9", func := "loop.example/g00905/laws.FnExactHotPages", spec := "fnExactHotPages", unfollowed := true, recurses := true, apart := false }
def FnExactHotPagesSaid : Prop := fnExactHotPagesRow.holds Try.pinned (OpenSpec.ofChange fnExactHotPagesSpec)

/-- ITS FALSE NEIGHBOUR: 'it returns false'. Refute it at one input. -/
def fnExactHotPagesWrong : ChangeSpec := { name := "fnExactHotPages", fn := fun _ => fun
  | [d] => { results := [.lit (.bool false)], args := [d] }
  | _ => none }
def FnExactHotPagesWrongFalsely : Prop := fnExactHotPagesRow.holds Try.pinned (OpenSpec.ofChange fnExactHotPagesWrong)

/-- 'laws.FnExactValidStats': WHATEVER THE INPUT: true; the input reads as it did. -/
def fnExactValidStatsSpec : ChangeSpec := { name := "fnExactValidStats", fn := fun _ => fun
  | [d1, d2] => { results := [.lit (.bool true)], args := [d1, d2] }
  | _ => none }
def fnExactValidStatsRow : OpenClaim := { program := "ytgkanacaijlljaa", sum := "1bf058940201bcb0c748c4be34d89edaa6711c99721207f984ae20bed2905cb9", func := "loop.example/g00905/laws.FnExactValidStats", spec := "fnExactValidStats", apart := false }
def FnExactValidStatsSaid : Prop := fnExactValidStatsRow.holds Try.pinned (OpenSpec.ofChange fnExactValidStatsSpec)

/-- ITS FALSE NEIGHBOUR: 'it returns false'. Refute it at one input. -/
def fnExactValidStatsWrong : ChangeSpec := { name := "fnExactValidStats", fn := fun _ => fun
  | [d1, d2] => { results := [.lit (.bool false)], args := [d1, d2] }
  | _ => none }
def FnExactValidStatsWrongFalsely : Prop := fnExactValidStatsRow.holds Try.pinned (OpenSpec.ofChange fnExactValidStatsWrong)

/-- 'laws.FnExactGainOf': WHATEVER THE INPUT: true; the input reads as it did. -/
def fnExactGainOfSpec : ChangeSpec := { name := "fnExactGainOf", fn := fun _ => fun
  | [d1, d2, d3] => { results := [.lit (.bool true)], args := [d1, d2, d3] }
  | _ => none }
def fnExactGainOfRow : OpenClaim := { program := "ytgkanacaijlljaa", sum := "1bf058940201bcb0c748c4be34d89edaa6711c99721207f984ae20bed2905cb9", func := "loop.example/g00905/laws.FnExactGainOf", spec := "fnExactGainOf", apart := false }
def FnExactGainOfSaid : Prop := fnExactGainOfRow.holds Try.pinned (OpenSpec.ofChange fnExactGainOfSpec)

/-- ITS FALSE NEIGHBOUR: 'it returns false'. Refute it at one input. -/
def fnExactGainOfWrong : ChangeSpec := { name := "fnExactGainOf", fn := fun _ => fun
  | [d1, d2, d3] => { results := [.lit (.bool false)], args := [d1, d2, d3] }
  | _ => none }
def FnExactGainOfWrongFalsely : Prop := fnExactGainOfRow.holds Try.pinned (OpenSpec.ofChange fnExactGainOfWrong)

/-- 'laws.FnExactAverageLive': WHATEVER THE INPUT: true; the input reads as it did. -/
def fnExactAverageLiveSpec : ChangeSpec := { name := "fnExactAverageLive", fn := fun _ => fun
  | [d1, d2] => { results := [.lit (.bool true)], args := [d1, d2] }
  | _ => none }
def fnExactAverageLiveRow : OpenClaim := { program := "ytgkanacaijlljaa", sum := "1bf058940201bcb0c748c4be34d89edaa6711c99721207f984ae20bed2905cb9", func := "loop.example/g00905/laws.FnExactAverageLive", spec := "fnExactAverageLive", apart := false }
def FnExactAverageLiveSaid : Prop := fnExactAverageLiveRow.holds Try.pinned (OpenSpec.ofChange fnExactAverageLiveSpec)

/-- ITS FALSE NEIGHBOUR: 'it returns false'. Refute it at one input. -/
def fnExactAverageLiveWrong : ChangeSpec := { name := "fnExactAverageLive", fn := fun _ => fun
  | [d1, d2] => { results := [.lit (.bool false)], args := [d1, d2] }
  | _ => none }
def FnExactAverageLiveWrongFalsely : Prop := fnExactAverageLiveRow.holds Try.pinned (OpenSpec.ofChange fnExactAverageLiveWrong)

/-- 'laws.FnExactSetPage': WHATEVER THE INPUT: true; the input reads as it did. -/
def fnExactSetPageSpec : ChangeSpec := { name := "fnExactSetPage", fn := fun _ => fun
  | [d1, d2, d3, d4] => { results := [.lit (.bool true)], args := [d1, d2, d3, d4] }
  | _ => none }
def fnExactSetPageRow : OpenClaim := { program := "ytgkanacaijlljaa", sum := "1bf058940201bcb0c748c4be34d89edaa6711c99721207f984ae20bed2905cb9", func := "loop.example/g00905/laws.FnExactSetPage", spec := "fnExactSetPage", apart := false }
def FnExactSetPageSaid : Prop := fnExactSetPageRow.holds Try.pinned (OpenSpec.ofChange fnExactSetPageSpec)

/-- ITS FALSE NEIGHBOUR: 'it returns false'. Refute it at one input. -/
def fnExactSetPageWrong : ChangeSpec := { name := "fnExactSetPage", fn := fun _ => fun
  | [d1, d2, d3, d4] => { results := [.lit (.bool false)], args := [d1, d2, d3, d4] }
  | _ => none }
def FnExactSetPageWrongFalsely : Prop := fnExactSetPageRow.holds Try.pinned (OpenSpec.ofChange fnExactSetPageWrong)

/- THE SECOND FORM. 'bulk': how many values and letters a reading holds, each counted each time it is reached (what is shared counts as often as it is met; a slice's spare places count too). A statement '..UptoSaid' is the law's where the arguments, and the package variables that the reading takes, are together of bulk at most 1048576: NARROWER than '..Said'. Prove '..Said' where nothing that the law and all that it calls make is longer than what came in: it says more and counts as full. Else prove '..UptoSaid'. A law counts once. -/
mutual
def uptoBulk {H : Type} : DataW H → Nat
  | .lit (.string bytes) => bytes.length + 1
  | .lit _ => 1
  | .nil => 1
  | .ptr d => uptoBulk d + 1
  | .slice elems spare => uptoBulkAll elems + uptoBulkAll spare + 1
  | .agg parts => uptoBulkAll parts + 1
  | .iface _ d => uptoBulk d + 1
  | .map entries => uptoBulkEntries entries + 1
  | .held _ => 1
def uptoBulkAll {H : Type} : List (DataW H) → Nat
  | [] => 0
  | d :: r => uptoBulk d + uptoBulkAll r
def uptoBulkEntries {H : Type} : List (Lit × DataW H) → Nat
  | [] => 0
  | x :: r => uptoBulkEntry x + uptoBulkEntries r
def uptoBulkEntry {H : Type} : Lit × DataW H → Nat
  | (.string bytes, d) => bytes.length + uptoBulk d + 1
  | (_, d) => uptoBulk d + 1
 end
def uptoSmall : (H : Type) → List (DataW H) → Bool := fun _ ds => decide (uptoBulkAll ds ≤ 1048576)
def OpenSpec.upto (s : _root_.Go.ChangeSpec) : _root_.Go.OpenSpec := { _root_.Go.OpenSpec.ofChange s with cond := some uptoSmall }

/-- 'laws.FnExactValidHeat', WHERE WHAT IT READS IS OF BULK AT MOST 1048576: true; the input reads as it did. -/
def fnExactValidHeatUptoRow : OpenClaim := { program := "ytgkanacaijlljaa", sum := "1bf058940201bcb0c748c4be34d89edaa6711c99721207f984ae20bed2905cb9", func := "loop.example/g00905/laws.FnExactValidHeat", spec := "fnExactValidHeat", unfollowed := true, recurses := true, apart := false, narrowed := true }
def FnExactValidHeatUptoSaid : Prop := fnExactValidHeatUptoRow.holds Try.pinned (OpenSpec.upto fnExactValidHeatSpec)

/-- 'laws.FnExactSameHeat', WHERE WHAT IT READS IS OF BULK AT MOST 1048576: true; the input reads as it did. -/
def fnExactSameHeatUptoRow : OpenClaim := { program := "ytgkanacaijlljaa", sum := "1bf058940201bcb0c748c4be34d89edaa6711c99721207f984ae20bed2905cb9", func := "loop.example/g00905/laws.FnExactSameHeat", spec := "fnExactSameHeat", apart := false, narrowed := true }
def FnExactSameHeatUptoSaid : Prop := fnExactSameHeatUptoRow.holds Try.pinned (OpenSpec.upto fnExactSameHeatSpec)

/-- 'laws.FnExactNewHeat', WHERE WHAT IT READS IS OF BULK AT MOST 1048576: true; the input reads as it did. -/
def fnExactNewHeatUptoRow : OpenClaim := { program := "ytgkanacaijlljaa", sum := "1bf058940201bcb0c748c4be34d89edaa6711c99721207f984ae20bed2905cb9", func := "loop.example/g00905/laws.FnExactNewHeat", spec := "fnExactNewHeat", apart := false, narrowed := true }
def FnExactNewHeatUptoSaid : Prop := fnExactNewHeatUptoRow.holds Try.pinned (OpenSpec.upto fnExactNewHeatSpec)

/-- 'laws.FnExactNoteWrite', WHERE WHAT IT READS IS OF BULK AT MOST 1048576: true; the input reads as it did. -/
def fnExactNoteWriteUptoRow : OpenClaim := { program := "ytgkanacaijlljaa", sum := "1bf058940201bcb0c748c4be34d89edaa6711c99721207f984ae20bed2905cb9", func := "loop.example/g00905/laws.FnExactNoteWrite", spec := "fnExactNoteWrite", unfollowed := true, recurses := true, apart := false, narrowed := true }
def FnExactNoteWriteUptoSaid : Prop := fnExactNoteWriteUptoRow.holds Try.pinned (OpenSpec.upto fnExactNoteWriteSpec)

/-- 'laws.FnExactDecayHeat', WHERE WHAT IT READS IS OF BULK AT MOST 1048576: true; the input reads as it did. -/
def fnExactDecayHeatUptoRow : OpenClaim := { program := "ytgkanacaijlljaa", sum := "1bf058940201bcb0c748c4be34d89edaa6711c99721207f984ae20bed2905cb9", func := "loop.example/g00905/laws.FnExactDecayHeat", spec := "fnExactDecayHeat", unfollowed := true, recurses := true, apart := false, narrowed := true }
def FnExactDecayHeatUptoSaid : Prop := fnExactDecayHeatUptoRow.holds Try.pinned (OpenSpec.upto fnExactDecayHeatSpec)

/-- 'laws.FnExactIsHot', WHERE WHAT IT READS IS OF BULK AT MOST 1048576: true; the input reads as it did. -/
def fnExactIsHotUptoRow : OpenClaim := { program := "ytgkanacaijlljaa", sum := "1bf058940201bcb0c748c4be34d89edaa6711c99721207f984ae20bed2905cb9", func := "loop.example/g00905/laws.FnExactIsHot", spec := "fnExactIsHot", unfollowed := true, recurses := true, apart := false, narrowed := true }
def FnExactIsHotUptoSaid : Prop := fnExactIsHotUptoRow.holds Try.pinned (OpenSpec.upto fnExactIsHotSpec)

/-- 'laws.FnExactStreamOf', WHERE WHAT IT READS IS OF BULK AT MOST 1048576: true; the input reads as it did. -/
def fnExactStreamOfUptoRow : OpenClaim := { program := "ytgkanacaijlljaa", sum := "1bf058940201bcb0c748c4be34d89edaa6711c99721207f984ae20bed2905cb9", func := "loop.example/g00905/laws.FnExactStreamOf", spec := "fnExactStreamOf", unfollowed := true, recurses := true, apart := false, narrowed := true }
def FnExactStreamOfUptoSaid : Prop := fnExactStreamOfUptoRow.holds Try.pinned (OpenSpec.upto fnExactStreamOfSpec)

/-- 'laws.FnExactHotPages', WHERE WHAT IT READS IS OF BULK AT MOST 1048576: true; the input reads as it did. -/
def fnExactHotPagesUptoRow : OpenClaim := { program := "ytgkanacaijlljaa", sum := "1bf058940201bcb0c748c4be34d89edaa6711c99721207f984ae20bed2905cb9", func := "loop.example/g00905/laws.FnExactHotPages", spec := "fnExactHotPages", unfollowed := true, recurses := true, apart := false, narrowed := true }
def FnExactHotPagesUptoSaid : Prop := fnExactHotPagesUptoRow.holds Try.pinned (OpenSpec.upto fnExactHotPagesSpec)

/-- 'laws.FnExactValidStats', WHERE WHAT IT READS IS OF BULK AT MOST 1048576: true; the input reads as it did. -/
def fnExactValidStatsUptoRow : OpenClaim := { program := "ytgkanacaijlljaa", sum := "1bf058940201bcb0c748c4be34d89edaa6711c99721207f984ae20bed2905cb9", func := "loop.example/g00905/laws.FnExactValidStats", spec := "fnExactValidStats", apart := false, narrowed := true }
def FnExactValidStatsUptoSaid : Prop := fnExactValidStatsUptoRow.holds Try.pinned (OpenSpec.upto fnExactValidStatsSpec)

/-- 'laws.FnExactGainOf', WHERE WHAT IT READS IS OF BULK AT MOST 1048576: true; the input reads as it did. -/
def fnExactGainOfUptoRow : OpenClaim := { program := "ytgkanacaijlljaa", sum := "1bf058940201bcb0c748c4be34d89edaa6711c99721207f984ae20bed2905cb9", func := "loop.example/g00905/laws.FnExactGainOf", spec := "fnExactGainOf", apart := false, narrowed := true }
def FnExactGainOfUptoSaid : Prop := fnExactGainOfUptoRow.holds Try.pinned (OpenSpec.upto fnExactGainOfSpec)

/-- 'laws.FnExactAverageLive', WHERE WHAT IT READS IS OF BULK AT MOST 1048576: true; the input reads as it did. -/
def fnExactAverageLiveUptoRow : OpenClaim := { program := "ytgkanacaijlljaa", sum := "1bf058940201bcb0c748c4be34d89edaa6711c99721207f984ae20bed2905cb9", func := "loop.example/g00905/laws.FnExactAverageLive", spec := "fnExactAverageLive", apart := false, narrowed := true }
def FnExactAverageLiveUptoSaid : Prop := fnExactAverageLiveUptoRow.holds Try.pinned (OpenSpec.upto fnExactAverageLiveSpec)

/-- 'laws.FnExactSetPage', WHERE WHAT IT READS IS OF BULK AT MOST 1048576: true; the input reads as it did. -/
def fnExactSetPageUptoRow : OpenClaim := { program := "ytgkanacaijlljaa", sum := "1bf058940201bcb0c748c4be34d89edaa6711c99721207f984ae20bed2905cb9", func := "loop.example/g00905/laws.FnExactSetPage", spec := "fnExactSetPage", apart := false, narrowed := true }
def FnExactSetPageUptoSaid : Prop := fnExactSetPageUptoRow.holds Try.pinned (OpenSpec.upto fnExactSetPageSpec)

end Rows
end Go.Proofs.Ytgkanacaijlljaa
