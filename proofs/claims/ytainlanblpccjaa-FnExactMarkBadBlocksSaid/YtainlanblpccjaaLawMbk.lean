/- The law FnExactMarkBadBlocks: for every argument (an array, a table of bad blocks) the call returns true, and each argument reads afterwards as it read before. No further condition. -/
import Derived.Test.YtainlanblpccjaaRows
import Derived.Test.YtainlanblpccjaaMg0
import Derived.Test.YtainlanblpccjaaMg2
import Derived.Test.YtainlanblpccjaaMg7
import Derived.Test.YtainlanblpccjaaMg66
import Derived.WalkKit
import Derived.ProofKit
import Derived.OpenShut
import Derived.ShutString
import Derived.ChangeOld
import Derived.Below
namespace Go.Proofs.Ytainlanblpccjaa.fnExactMarkBadBlocks
open Go.ChangeShapes Go.WideShapes Go.ChangeAt Go.RowKit
open Go.ChangeMaps (open_string shut_string)
set_option linter.unusedVariables false

theorem walk (v0 : Value) (L0 : Fl) (v1 : Value) (L1 : Tb) (w : World) (w0 : FlIn w 0 w.heap.size v0 L0) (w1 : TbIn w w.heap.size v1 L1) (ww1 : TbW L1) : Calls Try.prog 12 #[v0, v1] w fun e w' => e = .returned (.bool true) ∧ Below w.heap.size w w' := wkMbk v0 L0 v1 L1 w w0 trivial w1 ww1
theorem own : ownKnob Try.prog.godebug = none := by kernel_rfl
theorem laidOut : laidOutB Try.prog = true := by kernel_rfl
set_option maxRecDepth 100000 in
theorem lifted (os : Os) (started : os.Started) (H : Type) (enc : TypeId × Value → H) :
    ReturnsInHanded {} Try.checked os 12 .any (Rows.fnExactMarkBadBlocksSpec.pre6 enc Try.prog Try.f12 Rows.fnExactMarkBadBlocksRow.domain false) (Rows.fnExactMarkBadBlocksSpec.post enc Try.prog Try.f12 false true false false) := by
  refine returnsInHanded_of_change (C := Try.checked) own started (by kernel_rfl) Try.func12
    (ChangeSpec.witness6 (enc := enc) (C := Try.checked) false ⟨#[], #[.agg #[.int .i64 0, .int .i64 0, .int .i64 0, .slice none 0 0, .int .i64 0, .int .i64 0, .bool false, .int .i64 0], .agg #[.int .i64 0, .int .i64 0, .int .i64 0, .int .i64 0, .slice none 0 0, .slice none 0 0]], []⟩ 8 (by kernel_rfl) (by kernel_rfl) (by kernel_rfl) (by kernel_rfl)) ?_
  intro W base args ds gs before hval0 hW hcnd _
  have hval : ∀ (j : Nat) t v, Try.f12.params[j]? = some t → args[j]? = some v → Value.okWide Try.prog W .any base t v := hval0
  have hW' := hW
  obtain ⟨p, q, hA0, hV, rfl, hfz, hnd⟩ := hW
  have hA : DataW.TrodAll enc Try.prog W 0 (fun _ => true) true Try.f12.params.toList args.toList ds p := hA0
  rw [Try.params12] at hA hval
  obtain ⟨v0, vs0, d0, ds0, p0, q0, hargs, rfl, rfl, h0, r0⟩ := trodAll_cons hA
  obtain ⟨v1, vs1, d1, ds1, p1, q1, rfl, rfl, rfl, h1, r1⟩ := trodAll_cons r0
  obtain ⟨rfl, rfl, rfl⟩ := trodAll_nil r1
  obtain rfl : args = #[v0, v1] := by cases args; simp_all
  obtain ⟨rfl, rfl⟩ := trodVars_none hV
  obtain ⟨c0, rfl, _⟩ := okWide_struct Try.underlying62 (hval 0 62 v0 rfl rfl)
  have k0 := h0
  have lt0 : ∀ x ∈ p0, x.block < W.heap.size := by obtain ⟨m, hm⟩ := k0; exact DataW.trod_lt m _ _ _ hm
  obtain ⟨F0, w0⟩ : ∃ F : Fl, FlIn W 0 W.heap.size (.agg c0) F := by
    obtain ⟨fuel, hf⟩ := h0
    obtain ⟨F, hF⟩ := open_flash (cs := c0.toList) hf
    exact ⟨F, by simpa using hF⟩
  obtain ⟨c1, rfl, _⟩ := okWide_struct Try.underlying85 (hval 1 85 v1 rfl rfl)
  have k1 := h1
  have lt1 : ∀ x ∈ p1, x.block < W.heap.size := by obtain ⟨m, hm⟩ := k1; exact DataW.trod_lt m _ _ _ hm
  obtain ⟨F1, w1⟩ : ∃ F : Tb, TbIn W W.heap.size (.agg c1) F ∧ TbW F := by
    obtain ⟨fuel, hf⟩ := h1
    obtain ⟨F, hF⟩ := open_table (cs := c1.toList) hf
    exact ⟨F, by simpa using hF⟩
  clear hA0 hval0
  refine (walk (.agg c0) F0 (.agg c1) F1 W w0 w1.1 w1.2).mono fun e W' ⟨he, bel⟩ => ?_
  subst he
  exact ⟨_, rfl, _, _, _, [], _, [], hW', trodAll_mk1 (shut_bool Try.underlying4 _), (trodAll_cons_mk (Below.trod laidOut (by kernel_rfl) (of_decide_eq_true (by kernel_rfl)) k0 bel lt0) (trodAll_cons_mk (Below.trod laidOut (by kernel_rfl) (of_decide_eq_true (by kernel_rfl)) k1 bel lt1) trodAll_mk0)), rfl, bel.frame _, fun h => by cases h⟩
theorem closedA : joinedFacts Try.pinned.checked.prog 12 Try.f12 Rows.fnExactMarkBadBlocksSpec Rows.fnExactMarkBadBlocksRow = true := by
  unfold joinedFacts
  rw [finMay, finLift, finMake, finHeard, finLaid, finMaps]
  kernel_rfl
theorem over : Rows.fnExactMarkBadBlocksRow.holds Try.pinned (OpenSpec.ofChange Rows.fnExactMarkBadBlocksSpec) :=
  OpenClaim.holds_of_wide 12 Try.f12 rfl rfl rfl rfl rfl rfl rfl ⟨rfl, rfl, rfl, rfl, rfl⟩ rfl rfl rfl rfl rfl (by kernel_rfl) Try.func12 closedA
    (of_decide_eq_true (by kernel_rfl)) (by unfold Func.isWrapper; first | (rw [if_pos (by decide +kernel)]; kernel_rfl) | (rw [if_neg (by decide +kernel)]; exact ⟨rfl, rfl⟩))
    (fun os started H enc _ => lifted os started H enc)
theorem proved : Rows.FnExactMarkBadBlocksSaid := over
#print axioms proved
end Go.Proofs.Ytainlanblpccjaa.fnExactMarkBadBlocks
