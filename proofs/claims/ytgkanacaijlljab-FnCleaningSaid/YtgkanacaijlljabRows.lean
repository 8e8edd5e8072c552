/-
  No cell of these rows narrows 'for every input' (looked for: loops, veiled, ifaces, maps, wideKeys, modest, calm, conditions, laid).
  DERIVED. THE GIVEN ROWS OF THIS SEAT. 12 by the template 'for every input the law returns true; each argument reads behind the call as it read before'; 0 by the template 'total and deterministic' (their statements: YtgkanacaijlljabTotals.lean).
  GIVEN WITH THE SEED: the statements are not yours to turn. If you find one false, say at which input.
  Laid BY PROGRAM, IN A SANDBOX (cutbox-rows.mjs): the forced cells as the released guide's own fill.sh prints them over the translation 38f7be0304e5f148… (all of the seat's roots in one cut). By AI agents, Wed Nov 11 2026. No macro, syntax, notation, axiom, sorry.
-/
import Derived.Test.YtgkanacaijlljabChecked
import GoSem.Claim
import GoSem.ClaimJoined
import GoSem.ClaimMapViews
import Derived.JoinedTies
import Derived.KernelRfl
namespace Go.Proofs.Ytgkanacaijlljab
/- THE CELL 'sum', in the pinned program and in every row, IS THE sha256 OF THE DUMP (.gsa) THAT YtgkanacaijlljabProg.lean LOADS. Nothing in Lean hashes anything: it is a label: what it is worth is what the hold of that sum in a sandbox is worth. -/
noncomputable def Try.pinned : Pinned := { name := "ytgkanacaijlljab", sum := "38f7be0304e5f148098e54d73de6dfed3e220515fc36ee6b9f58ab1af43e096c", checked := Try.checked }
namespace Rows
def none {H : Type} : Left H := { results := [], args := [] }

/-- 'laws.FnExactGreedyVictim': WHATEVER THE INPUT: true; the input reads as it did. -/
def fnExactGreedyVictimSpec : ChangeSpec := { name := "fnExactGreedyVictim", fn := fun _ => fun
  | [d1, d2] => { results := [.lit (.bool true)], args := [d1, d2] }
  | _ => none }
def fnExactGreedyVictimRow : OpenClaim := { program := "ytgkanacaijlljab", sum := "38f7be0304e5f148098e54d73de6dfed3e220515fc36ee6b9f58ab1af43e096c", func := "loop.example/g00905/laws.FnExactGreedyVictim", spec := "fnExactGreedyVictim", unfollowed := true, recurses := true, plainKeys := false, apart := false }
def FnExactGreedyVictimSaid : Prop := fnExactGreedyVictimRow.holds Try.pinned (OpenSpec.ofChange fnExactGreedyVictimSpec)

/-- ITS FALSE NEIGHBOUR: 'it returns false'. Refute it at one input. -/
def fnExactGreedyVictimWrong : ChangeSpec := { name := "fnExactGreedyVictim", fn := fun _ => fun
  | [d1, d2] => { results := [.lit (.bool false)], args := [d1, d2] }
  | _ => none }
def FnExactGreedyVictimWrongFalsely : Prop := fnExactGreedyVictimRow.holds Try.pinned (OpenSpec.ofChange fnExactGreedyVictimWrong)

/-- 'laws.FnExactCostBenefitVictim': WHATEVER THE INPUT: true; the input reads as it did. -/
def fnExactCostBenefitVictimSpec : ChangeSpec := { name := "fnExactCostBenefitVictim", fn := fun _ => fun
  | [d1, d2] => { results := [.lit (.bool true)], args := [d1, d2] }
  | _ => none }
def fnExactCostBenefitVictimRow : OpenClaim := { program := "ytgkanacaijlljab", sum := "38f7be0304e5f148098e54d73de6dfed3e220515fc36ee6b9f58ab1af43e096c", func := "loop.example/g00905/laws.FnExactCostBenefitVictim", spec := "fnExactCostBenefitVictim", unfollowed := true, recurses := true, plainKeys := false, apart := false }
def FnExactCostBenefitVictimSaid : Prop := fnExactCostBenefitVictimRow.holds Try.pinned (OpenSpec.ofChange fnExactCostBenefitVictimSpec)

/-- ITS FALSE NEIGHBOUR: 'it returns false'. Refute it at one input. -/
def fnExactCostBenefitVictimWrong : ChangeSpec := { name := "fnExactCostBenefitVictim", fn := fun _ => fun
  | [d1, d2] => { results := [.lit (.bool false)], args := [d1, d2] }
  | _ => none }
def FnExactCostBenefitVictimWrongFalsely : Prop := fnExactCostBenefitVictimRow.holds Try.pinned (OpenSpec.ofChange fnExactCostBenefitVictimWrong)

/-- 'laws.FnExactPickVictim': WHATEVER THE INPUT: true; the input reads as it did. -/
def fnExactPickVictimSpec : ChangeSpec := { name := "fnExactPickVictim", fn := fun _ => fun
  | [d1, d2, d3] => { results := [.lit (.bool true)], args := [d1, d2, d3] }
  | _ => none }
def fnExactPickVictimRow : OpenClaim := { program := "ytgkanacaijlljab", sum := "38f7be0304e5f148098e54d73de6dfed3e220515fc36ee6b9f58ab1af43e096c", func := "loop.example/g00905/laws.FnExactPickVictim", spec := "fnExactPickVictim", unfollowed := true, recurses := true, plainKeys := false, apart := false }
def FnExactPickVictimSaid : Prop := fnExactPickVictimRow.holds Try.pinned (OpenSpec.ofChange fnExactPickVictimSpec)

/-- ITS FALSE NEIGHBOUR: 'it returns false'. Refute it at one input. -/
def fnExactPickVictimWrong : ChangeSpec := { name := "fnExactPickVictim", fn := fun _ => fun
  | [d1, d2, d3] => { results := [.lit (.bool false)], args := [d1, d2, d3] }
  | _ => none }
def FnExactPickVictimWrongFalsely : Prop := fnExactPickVictimRow.holds Try.pinned (OpenSpec.ofChange fnExactPickVictimWrong)

/-- 'laws.FnExactStatsOf': WHATEVER THE INPUT: true; the input reads as it did. -/
def fnExactStatsOfSpec : ChangeSpec := { name := "fnExactStatsOf", fn := fun _ => fun
  | [d1, d2, d3] => { results := [.lit (.bool true)], args := [d1, d2, d3] }
  | _ => none }
def fnExactStatsOfRow : OpenClaim := { program := "ytgkanacaijlljab", sum := "38f7be0304e5f148098e54d73de6dfed3e220515fc36ee6b9f58ab1af43e096c", func := "loop.example/g00905/laws.FnExactStatsOf", spec := "fnExactStatsOf", plainKeys := false, apart := false }
def FnExactStatsOfSaid : Prop := fnExactStatsOfRow.holds Try.pinned (OpenSpec.ofChange fnExactStatsOfSpec)

/-- ITS FALSE NEIGHBOUR: 'it returns false'. Refute it at one input. -/
def fnExactStatsOfWrong : ChangeSpec := { name := "fnExactStatsOf", fn := fun _ => fun
  | [d1, d2, d3] => { results := [.lit (.bool false)], args := [d1, d2, d3] }
  | _ => none }
def FnExactStatsOfWrongFalsely : Prop := fnExactStatsOfRow.holds Try.pinned (OpenSpec.ofChange fnExactStatsOfWrong)

/-- 'laws.FnCleaning': WHATEVER THE INPUT: true; the input reads as it did. -/
def fnCleaningSpec : ChangeSpec := { name := "fnCleaning", fn := fun _ => fun
  | [d] => { results := [.lit (.bool true)], args := [d] }
  | _ => none }
def fnCleaningRow : OpenClaim := { program := "ytgkanacaijlljab", sum := "38f7be0304e5f148098e54d73de6dfed3e220515fc36ee6b9f58ab1af43e096c", func := "loop.example/g00905/laws.FnCleaning", spec := "fnCleaning", unfollowed := true, recurses := true, plainKeys := false, apart := false }
def FnCleaningSaid : Prop := fnCleaningRow.holds Try.pinned (OpenSpec.ofChange fnCleaningSpec)

/-- ITS FALSE NEIGHBOUR: 'it returns false'. Refute it at one input. -/
def fnCleaningWrong : ChangeSpec := { name := "fnCleaning", fn := fun _ => fun
  | [d] => { results := [.lit (.bool false)], args := [d] }
  | _ => none }
def FnCleaningWrongFalsely : Prop := fnCleaningRow.holds Try.pinned (OpenSpec.ofChange fnCleaningWrong)

/-- 'laws.FnFtlMap': WHATEVER THE INPUT: true; the input reads as it did. -/
def fnFtlMapSpec : ChangeSpec := { name := "fnFtlMap", fn := fun _ => fun
  | [d] => { results := [.lit (.bool true)], args := [d] }
  | _ => none }
def fnFtlMapRow : OpenClaim := { program := "ytgkanacaijlljab", sum := "38f7be0304e5f148098e54d73de6dfed3e220515fc36ee6b9f58ab1af43e096c", func := "loop.example/g00905/laws.FnFtlMap", spec := "fnFtlMap", plainKeys := false, apart := false }
def FnFtlMapSaid : Prop := fnFtlMapRow.holds Try.pinned (OpenSpec.ofChange fnFtlMapSpec)

/-- ITS FALSE NEIGHBOUR: 'it returns false'. Refute it at one input. -/
def fnFtlMapWrong : ChangeSpec := { name := "fnFtlMap", fn := fun _ => fun
  | [d] => { results := [.lit (.bool false)], args := [d] }
  | _ => none }
def FnFtlMapWrongFalsely : Prop := fnFtlMapRow.holds Try.pinned (OpenSpec.ofChange fnFtlMapWrong)

/-- 'laws.FnExactGroupComplete': WHATEVER THE INPUT: true; the input reads as it did. -/
def fnExactGroupCompleteSpec : ChangeSpec := { name := "fnExactGroupComplete", fn := fun _ => fun
  | [d1, d2, d3] => { results := [.lit (.bool true)], args := [d1, d2, d3] }
  | _ => none }
def fnExactGroupCompleteRow : OpenClaim := { program := "ytgkanacaijlljab", sum := "38f7be0304e5f148098e54d73de6dfed3e220515fc36ee6b9f58ab1af43e096c", func := "loop.example/g00905/laws.FnExactGroupComplete", spec := "fnExactGroupComplete", plainKeys := false, apart := false }
def FnExactGroupCompleteSaid : Prop := fnExactGroupCompleteRow.holds Try.pinned (OpenSpec.ofChange fnExactGroupCompleteSpec)

/-- ITS FALSE NEIGHBOUR: 'it returns false'. Refute it at one input. -/
def fnExactGroupCompleteWrong : ChangeSpec := { name := "fnExactGroupComplete", fn := fun _ => fun
  | [d1, d2, d3] => { results := [.lit (.bool false)], args := [d1, d2, d3] }
  | _ => none }
def FnExactGroupCompleteWrongFalsely : Prop := fnExactGroupCompleteRow.holds Try.pinned (OpenSpec.ofChange fnExactGroupCompleteWrong)

/-- 'laws.FnExactNewestOf': WHATEVER THE INPUT: true; the input reads as it did. -/
def fnExactNewestOfSpec : ChangeSpec := { name := "fnExactNewestOf", fn := fun _ => fun
  | [d1, d2] => { results := [.lit (.bool true)], args := [d1, d2] }
  | _ => none }
def fnExactNewestOfRow : OpenClaim := { program := "ytgkanacaijlljab", sum := "38f7be0304e5f148098e54d73de6dfed3e220515fc36ee6b9f58ab1af43e096c", func := "loop.example/g00905/laws.FnExactNewestOf", spec := "fnExactNewestOf", plainKeys := false, apart := false }
def FnExactNewestOfSaid : Prop := fnExactNewestOfRow.holds Try.pinned (OpenSpec.ofChange fnExactNewestOfSpec)

/-- ITS FALSE NEIGHBOUR: 'it returns false'. Refute it at one input. -/
def fnExactNewestOfWrong : ChangeSpec := { name := "fnExactNewestOf", fn := fun _ => fun
  | [d1, d2] => { results := [.lit (.bool false)], args := [d1, d2] }
  | _ => none }
def FnExactNewestOfWrongFalsely : Prop := fnExactNewestOfRow.holds Try.pinned (OpenSpec.ofChange fnExactNewestOfWrong)

/-- 'laws.FnExactRecoverMap': WHATEVER THE INPUT: true; the input reads as it did. -/
def fnExactRecoverMapSpec : ChangeSpec := { name := "fnExactRecoverMap", fn := fun _ => fun
  | [d1, d2, d3, d4] => { results := [.lit (.bool true)], args := [d1, d2, d3, d4] }
  | _ => none }
def fnExactRecoverMapRow : OpenClaim := { program := "ytgkanacaijlljab", sum := "38f7be0304e5f148098e54d73de6dfed3e220515fc36ee6b9f58ab1af43e096c", func := "loop.example/g00905/laws.FnExactRecoverMap", spec := "fnExactRecoverMap", plainKeys := false, apart := false }
def FnExactRecoverMapSaid : Prop := fnExactRecoverMapRow.holds Try.pinned (OpenSpec.ofChange fnExactRecoverMapSpec)

/-- ITS FALSE NEIGHBOUR: 'it returns false'. Refute it at one input. -/
def fnExactRecoverMapWrong : ChangeSpec := { name := "fnExactRecoverMap", fn := fun _ => fun
  | [d1, d2, d3, d4] => { results := [.lit (.bool false)], args := [d1, d2, d3, d4] }
  | _ => none }
def FnExactRecoverMapWrongFalsely : Prop := fnExactRecoverMapRow.holds Try.pinned (OpenSpec.ofChange fnExactRecoverMapWrong)

/-- 'laws.FnExactRecoverFrom': WHATEVER THE INPUT: true; the input reads as it did. -/
def fnExactRecoverFromSpec : ChangeSpec := { name := "fnExactRecoverFrom", fn := fun _ => fun
  | [d1, d2] => { results := [.lit (.bool true)], args := [d1, d2] }
  | _ => none }
def fnExactRecoverFromRow : OpenClaim := { program := "ytgkanacaijlljab", sum := "38f7be0304e5f148098e54d73de6dfed3e220515fc36ee6b9f58ab1af43e096c", func := "loop.example/g00905/laws.FnExactRecoverFrom", spec := "fnExactRecoverFrom", plainKeys := false, apart := false }
def FnExactRecoverFromSaid : Prop := fnExactRecoverFromRow.holds Try.pinned (OpenSpec.ofChange fnExactRecoverFromSpec)

/-- ITS FALSE NEIGHBOUR: 'it returns false'. Refute it at one input. -/
def fnExactRecoverFromWrong : ChangeSpec := { name := "fnExactRecoverFrom", fn := fun _ => fun
  | [d1, d2] => { results := [.lit (.bool false)], args := [d1, d2] }
  | _ => none }
def FnExactRecoverFromWrongFalsely : Prop := fnExactRecoverFromRow.holds Try.pinned (OpenSpec.ofChange fnExactRecoverFromWrong)

/-- 'laws.FnFtlRecover': WHATEVER THE INPUT: true; the input reads as it did. -/
def fnFtlRecoverSpec : ChangeSpec := { name := "fnFtlRecover", fn := fun _ => fun
  | [d] => { results := [.lit (.bool true)], args := [d] }
  | _ => none }
def fnFtlRecoverRow : OpenClaim := { program := "ytgkanacaijlljab", sum := "38f7be0304e5f148098e54d73de6dfed3e220515fc36ee6b9f58ab1af43e096c", func := "loop.example/g00905/laws.FnFtlRecover", spec := "fnFtlRecover", plainKeys := false, apart := false }
def FnFtlRecoverSaid : Prop := fnFtlRecoverRow.holds Try.pinned (OpenSpec.ofChange fnFtlRecoverSpec)

/-- ITS FALSE NEIGHBOUR: 'it returns false'. Refute it at one input. -/
def fnFtlRecoverWrong : ChangeSpec := { name := "fnFtlRecover", fn := fun _ => fun
  | [d] => { results := [.lit (.bool false)], args := [d] }
  | _ => none }
def FnFtlRecoverWrongFalsely : Prop := fnFtlRecoverRow.holds Try.pinned (OpenSpec.ofChange fnFtlRecoverWrong)

/-- 'laws.FnExactValidBadTable': WHATEVER THE INPUT: true; the input reads as it did. -/
def fnExactValidBadTableSpec : ChangeSpec := { name := "fnExactValidBadTable", fn := fun _ => fun
  | [d] => { results := [.lit (.bool true)], args := [d] }
  | _ => none }
def fnExactValidBadTableRow : OpenClaim := { program := "ytgkanacaijlljab", sum := "38f7be0304e5f148098e54d73de6dfed3e220515fc36ee6b9f58ab1af43e096c", func := "loop.example/g00905/laws.FnExactValidBadTable", spec := "fnExactValidBadTable", plainKeys := false, apart := false }
def FnExactValidBadTableSaid : Prop := fnExactValidBadTableRow.holds Try.pinned (OpenSpec.ofChange fnExactValidBadTableSpec)

/-- ITS FALSE NEIGHBOUR: 'it returns false'. Refute it at one input. -/
def fnExactValidBadTableWrong : ChangeSpec := { name := "fnExactValidBadTable", fn := fun _ => fun
  | [d] => { results := [.lit (.bool false)], args := [d] }
  | _ => none }
def FnExactValidBadTableWrongFalsely : Prop := fnExactValidBadTableRow.holds Try.pinned (OpenSpec.ofChange fnExactValidBadTableWrong)

/- THE SECOND FORM. 'bulk': how many values and letters a reading holds, each counted each time it is reached (what is shared counts as often as it is met; a slice's spare places count too). A statement '..UptoSaid' is the law's where the arguments, and the package variables that the reading takes, are together of bulk at most 1048576: NARROWER than '..Said'. Prove '..Said' where nothing that the law and all that it calls make is longer than what came in: it says more and counts as full. Else prove '..UptoSaid'. A law counts once. -/
mutual
def uptoBulk {H : Type} : DataW H → Nat
  | .lit (.string bytes) => bytes.length + 1
  | .lit _ => 1
  | .nil => 1
  | .ptr d => uptoBulk d + 1
  | .slice elems spare => uptoBulkAll elems + uptoBulkAll spare + 1
  | .agg parts => uptoBulkAll parts + 1
  | .iface _ d => uptoBulk d + 1
  | .map entries => uptoBulkEntries entries + 1
  | .held _ => 1
def uptoBulkAll {H : Type} : List (DataW H) → Nat
  | [] => 0
  | d :: r => uptoBulk d + uptoBulkAll r
def uptoBulkEntries {H : Type} : List (Lit × DataW H) → Nat
  | [] => 0
  | x :: r => uptoBulkEntry x + uptoBulkEntries r
def uptoBulkEntry {H : Type} : Lit × DataW H → Nat
  | (.string bytes, d) => bytes.length + uptoBulk d + 1
  | (_, d) => uptoBulk d + 1
 end
def uptoSmall : (H : Type) → List (DataW H) → Bool := fun _ ds => decide (uptoBulkAll ds ≤ 1048576)
def OpenSpec.upto (s : _root_.Go.ChangeSpec) : _root_.Go.OpenSpec := { _root_.Go.OpenSpec.ofChange s with cond := some uptoSmall }

/-- 'laws.FnExactGreedyVictim', WHERE WHAT IT READS IS OF BULK AT MOST 1048576: true; the input reads as it did. -/
def fnExactGreedyVictimUptoRow : OpenClaim := { program := "ytgkanacaijlljab", sum := "38f7be0304e5f148098e54d73de6dfed3e220515fc36ee6b9f58ab1af43e096c", func := "loop.example/g00905/laws.FnExactGreedyVictim", spec := "fnExactGreedyVictim", unfollowed := true, recurses := true, plainKeys := false, apart := false, narrowed := true }
def FnExactGreedyVictimUptoSaid : Prop := fnExactGreedyVictimUptoRow.holds Try.pinned (OpenSpec.upto fnExactGreedyVictimSpec)

/-- 'laws.FnExactCostBenefitVictim', WHERE WHAT IT READS IS OF BULK AT MOST 1048576: true; the input reads as it did. -/
def fnExactCostBenefitVictimUptoRow : OpenClaim := { program := "ytgkanacaijlljab", sum := "38f7be0304e5f148098e54d73de6dfed3e220515fc36ee6b9f58ab1af43e096c", func := "loop.example/g00905/laws.FnExactCostBenefitVictim", spec := "fnExactCostBenefitVictim", unfollowed := true, recurses := true, plainKeys := false, apart := false, narrowed := true }
def FnExactCostBenefitVictimUptoSaid : Prop := fnExactCostBenefitVictimUptoRow.holds Try.pinned (OpenSpec.upto fnExactCostBenefitVictimSpec)

/-- 'laws.FnExactPickVictim', WHERE WHAT IT READS IS OF BULK AT MOST 1048576: true; the input reads as it did. -/
def fnExactPickVictimUptoRow : OpenClaim := { program := "ytgkanacaijlljab", sum := "38f7be0304e5f148098e54d73de6dfed3e220515fc36ee6b9f58ab1af43e096c", func := "loop.example/g00905/laws.FnExactPickVictim", spec := "fnExactPickVictim", unfollowed := true, recurses := true, plainKeys := false, apart := false, narrowed := true }
def FnExactPickVictimUptoSaid : Prop := fnExactPickVictimUptoRow.holds Try.pinned (OpenSpec.upto fnExactPickVictimSpec)

/-- 'laws.FnExactStatsOf', WHERE WHAT IT READS IS OF BULK AT MOST 1048576: true; the input reads as it did. -/
def fnExactStatsOfUptoRow : OpenClaim := { program := "ytgkanacaijlljab", sum := "38f7be0304e5f148098e54d73de6dfed3e220515fc36ee6b9f58ab1af43e096c", func := "loop.example/g00905/laws.FnExactStatsOf", spec := "fnExactStatsOf", plainKeys := false, apart := false, narrowed := true }
def FnExactStatsOfUptoSaid : Prop := fnExactStatsOfUptoRow.holds Try.pinned (OpenSpec.upto fnExactStatsOfSpec)

/-- 'laws.FnCleaning', WHERE WHAT IT READS IS OF BULK AT MOST 1048576: true; the input reads as it did. -/
def fnCleaningUptoRow : OpenClaim := { program := "ytgkanacaijlljab", sum := "38f7be0304e5f148098e54d73de6dfed3e220515fc36ee6b9f58ab1af43e096c", func := "loop.example/g00905/laws.FnCleaning", spec := "fnCleaning", unfollowed := true, recurses := true, plainKeys := false, apart := false, narrowed := true }
def FnCleaningUptoSaid : Prop := fnCleaningUptoRow.holds Try.pinned (OpenSpec.upto fnCleaningSpec)

/-- 'laws.FnFtlMap', WHERE WHAT IT READS IS OF BULK AT MOST 1048576: true; the input reads as it did. -/
def fnFtlMapUptoRow : OpenClaim := { program := "ytgkanacaijlljab", sum := "38f7be0304e5f148098e54d73de6dfed3e220515fc36ee6b9f58ab1af43e096c", func := "loop.example/g00905/laws.FnFtlMap", spec := "fnFtlMap", plainKeys := false, apart := false, narrowed := true }
def FnFtlMapUptoSaid : Prop := fnFtlMapUptoRow.holds Try.pinned (OpenSpec.upto fnFtlMapSpec)

/-- 'laws.FnExactGroupComplete', WHERE WHAT IT READS IS OF BULK AT MOST 1048576: true; the input reads as it did. -/
def fnExactGroupCompleteUptoRow : OpenClaim := { program := "ytgkanacaijlljab", sum := "38f7be0304e5f148098e54d73de6dfed3e220515fc36ee6b9f58ab1af43e096c", func := "loop.example/g00905/laws.FnExactGroupComplete", spec := "fnExactGroupComplete", plainKeys := false, apart := false, narrowed := true }
def FnExactGroupCompleteUptoSaid : Prop := fnExactGroupCompleteUptoRow.holds Try.pinned (OpenSpec.upto fnExactGroupCompleteSpec)

/-- 'laws.FnExactNewestOf', WHERE WHAT IT READS IS OF BULK AT MOST 1048576: true; the input reads as it did. -/
def fnExactNewestOfUptoRow : OpenClaim := { program := "ytgkanacaijlljab", sum := "38f7be0304e5f148098e54d73de6dfed3e220515fc36ee6b9f58ab1af43e096c", func := "loop.example/g00905/laws.FnExactNewestOf", spec := "fnExactNewestOf", plainKeys := false, apart := false, narrowed := true }
def FnExactNewestOfUptoSaid : Prop := fnExactNewestOfUptoRow.holds Try.pinned (OpenSpec.upto fnExactNewestOfSpec)

/-- 'laws.FnExactRecoverMap', WHERE WHAT IT READS IS OF BULK AT MOST 1048576: true; the input reads as it did. -/
def fnExactRecoverMapUptoRow : OpenClaim := { program := "ytgkanacaijlljab", sum := "38f7be0304e5f148098e54d73de6dfed3e220515fc36ee6b9f58ab1af43e096c", func := "loop.example/g00905/laws.FnExactRecoverMap", spec := "fnExactRecoverMap", plainKeys := false, apart := false, narrowed := true }
def FnExactRecoverMapUptoSaid : Prop := fnExactRecoverMapUptoRow.holds Try.pinned (OpenSpec.upto fnExactRecoverMapSpec)

/-- 'laws.FnExactRecoverFrom', WHERE WHAT IT READS IS OF BULK AT MOST 1048576: true; the input reads as it did. -/
def fnExactRecoverFromUptoRow : OpenClaim := { program := "ytgkanacaijlljab", sum := "38f7be0304e5f148098e54d73de6dfed3e220515fc36ee6b9f58ab1af43e096c", func := "loop.example/g00905/laws.FnExactRecoverFrom", spec := "fnExactRecoverFrom", plainKeys := false, apart := false, narrowed := true }
def FnExactRecoverFromUptoSaid : Prop := fnExactRecoverFromUptoRow.holds Try.pinned (OpenSpec.upto fnExactRecoverFromSpec)

/-- 'laws.FnFtlRecover', WHERE WHAT IT READS IS OF BULK AT MOST 1048576: true; the input reads as it did. -/
def fnFtlRecoverUptoRow : OpenClaim := { program := "ytgkanacaijlljab", sum := "38f7be0304e5f148098e54d73de6dfed3e220515fc36ee6b9f58ab1af43e096c", func := "loop.example/g00905/laws.FnFtlRecover", spec := "fnFtlRecover", plainKeys := false, apart := false, narrowed := true }
def FnFtlRecoverUptoSaid : Prop := fnFtlRecoverUptoRow.holds Try.pinned (OpenSpec.upto fnFtlRecoverSpec)

/-- 'laws.FnExactValidBadTable', WHERE WHAT IT READS IS OF BULK AT MOST 1048576: true; the input reads as it did. -/
def fnExactValidBadTableUptoRow : OpenClaim := { program := "ytgkanacaijlljab", sum := "38f7be0304e5f148098e54d73de6dfed3e220515fc36ee6b9f58ab1af43e096c", func := "loop.example/g00905/laws.FnExactValidBadTable", spec := "fnExactValidBadTable", plainKeys := false, apart := false, narrowed := true }
def FnExactValidBadTableUptoSaid : Prop := fnExactValidBadTableUptoRow.holds Try.pinned (OpenSpec.upto fnExactValidBadTableSpec)

end Rows
end Go.Proofs.Ytgkanacaijlljab
