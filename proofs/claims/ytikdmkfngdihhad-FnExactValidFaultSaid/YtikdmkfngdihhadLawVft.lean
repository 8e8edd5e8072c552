/- The law FnExactValidFault: for every argument (a geometry, a fault) the call returns true, and each argument reads afterwards as it read before. No further condition. -/
import Derived.Test.YtikdmkfngdihhadRows
import Derived.Test.YtikdmkfngdihhadFlO
import Derived.Test.YtikdmkfngdihhadTbO
import Derived.Test.YtikdmkfngdihhadWkVft
import Derived.WalkKit
import Derived.ProofKit
import Derived.OpenShut
import Derived.ShutString
import Derived.ChangeOld
import Derived.Below
namespace Go.Proofs.Ytikdmkfngdihhad.fnExactValidFault
open Go.ChangeShapes Go.WideShapes Go.ChangeAt Go.RowKit
open Go.ChangeMaps (open_string shut_string)
set_option linter.unusedVariables false

theorem walk (d b p k B P T : Int) (w : World) (h : WfI k ∧ WfI B ∧ WfI P ∧ WfI T) : Calls Try.prog 3 #[.agg #[.int .i64 d, .int .i64 b, .int .i64 p], .agg #[.int .i64 k, .int .i64 B, .int .i64 P, .int .i64 T]] w fun e w' => e = .returned (.bool true) ∧ Below w.heap.size w w' := wkVft d b p k B P T w (h.2.1.j) (h.2.2.1.j) (h.2.2.2.j)
theorem own : ownKnob Try.prog.godebug = none := by kernel_rfl
theorem laidOut : laidOutB Try.prog = true := by kernel_rfl
set_option maxRecDepth 100000 in
theorem lifted (os : Os) (started : os.Started) (H : Type) (enc : TypeId × Value → H) :
    ReturnsInHanded {} Try.checked os 3 .any (Rows.fnExactValidFaultSpec.pre6 enc Try.prog Try.f3 Rows.fnExactValidFaultRow.domain false) (Rows.fnExactValidFaultSpec.post enc Try.prog Try.f3 false true false false) := by
  refine returnsInHanded_of_change (C := Try.checked) own started (by kernel_rfl) Try.func3
    (ChangeSpec.witness6 (enc := enc) (C := Try.checked) false ⟨#[], #[.agg #[.int .i64 0, .int .i64 0, .int .i64 0], .agg #[.int .i64 0, .int .i64 0, .int .i64 0, .int .i64 0]], []⟩ 8 (by kernel_rfl) (by kernel_rfl) (by kernel_rfl) (by kernel_rfl)) ?_
  intro W base args ds gs before hval0 hW hcnd _
  have hval : ∀ (j : Nat) t v, Try.f3.params[j]? = some t → args[j]? = some v → Value.okWide Try.prog W .any base t v := hval0
  have hW' := hW
  obtain ⟨p, q, hA0, hV, rfl, hfz, hnd⟩ := hW
  have hA : DataW.TrodAll enc Try.prog W 0 (fun _ => true) true Try.f3.params.toList args.toList ds p := hA0
  rw [Try.params3] at hA hval
  obtain ⟨v0, vs0, d0, ds0, p0, q0, hargs, rfl, rfl, h0, r0⟩ := trodAll_cons hA
  obtain ⟨v1, vs1, d1, ds1, p1, q1, rfl, rfl, rfl, h1, r1⟩ := trodAll_cons r0
  obtain ⟨rfl, rfl, rfl⟩ := trodAll_nil r1
  obtain rfl : args = #[v0, v1] := by cases args; simp_all
  obtain ⟨rfl, rfl⟩ := trodVars_none hV
  obtain ⟨c0, rfl, _⟩ := okWide_struct Try.underlying23 (hval 0 23 v0 rfl rfl)
  have k0 := h0
  have lt0 : ∀ x ∈ p0, x.block < W.heap.size := by obtain ⟨m, hm⟩ := k0; exact DataW.trod_lt m _ _ _ hm
  obtain ⟨d0, b0, q0, rfl⟩ : ∃ d b p, c0 = #[.int .i64 d, .int .i64 b, .int .i64 p] := by
    obtain ⟨fuel, hf⟩ := h0
    obtain ⟨d, b, p, e, _⟩ := open_geo (cs := c0.toList) hf
    exact ⟨d, b, p, Array.toList_inj.1 e⟩
  obtain ⟨c1, rfl, _⟩ := okWide_struct Try.underlying25 (hval 1 25 v1 rfl rfl)
  have k1 := h1
  have lt1 : ∀ x ∈ p1, x.block < W.heap.size := by obtain ⟨m, hm⟩ := k1; exact DataW.trod_lt m _ _ _ hm
  obtain ⟨fa1, fb1, fc1, fd1, w1, rfl⟩ : ∃ a b c d, (WfI a ∧ WfI b ∧ WfI c ∧ WfI d) ∧ c1 = #[.int .i64 a, .int .i64 b, .int .i64 c, .int .i64 d] := by
    obtain ⟨fuel, hf⟩ := h1
    obtain ⟨a, b, c, d, e, w⟩ := open_fault (cs := c1.toList) hf
    exact ⟨a, b, c, d, w, Array.toList_inj.1 e⟩
  clear hA0 hval0
  refine (walk d0 b0 q0 fa1 fb1 fc1 fd1 W w1).mono fun e W' ⟨he, bel⟩ => ?_
  subst he
  exact ⟨_, rfl, _, _, _, [], _, [], hW', trodAll_mk1 (shut_bool Try.underlying4 _), (trodAll_cons_mk (Below.trod laidOut (by kernel_rfl) (of_decide_eq_true (by kernel_rfl)) k0 bel lt0) (trodAll_cons_mk (Below.trod laidOut (by kernel_rfl) (of_decide_eq_true (by kernel_rfl)) k1 bel lt1) trodAll_mk0)), rfl, bel.frame _, fun h => by cases h⟩
theorem over : Rows.fnExactValidFaultRow.holds Try.pinned (OpenSpec.ofChange Rows.fnExactValidFaultSpec) :=
  OpenClaim.holds_of_wide 3 Try.f3 rfl rfl rfl rfl rfl rfl rfl ⟨rfl, rfl, rfl, rfl, rfl⟩ rfl rfl rfl rfl rfl (by kernel_rfl) Try.func3 (by kernel_rfl)
    (of_decide_eq_true (by kernel_rfl)) (by unfold Func.isWrapper; first | (rw [if_pos (by decide +kernel)]; kernel_rfl) | (rw [if_neg (by decide +kernel)]; exact ⟨rfl, rfl⟩))
    (fun os started H enc _ => lifted os started H enc)
theorem proved : Rows.FnExactValidFaultSaid := over
#print axioms proved
end Go.Proofs.Ytikdmkfngdihhad.fnExactValidFault
