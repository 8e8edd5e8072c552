/- The law FnExactRebuild: for every argument ([]string, string, int64) the call returns true, and each argument reads afterwards as it read before. No further condition. -/
import Derived.Test.YtegjppihopncoadRows
import Derived.Test.YtegjppihopncoadReb
import Derived.WalkKit
import Derived.ProofKit
import Derived.OpenShut
import Derived.ShutString
import Derived.ChangeOld
import Derived.Below
import Derived.SliceStrings
namespace Go.Proofs.Ytegjppihopncoad.fnExactRebuild
open Go.ChangeShapes Go.WideShapes Go.ChangeAt Go.RowKit
open Go.ChangeMaps (open_string shut_string)
set_option linter.unusedVariables false

theorem walk (a0 : Option Addr) (len0 cap0 : Nat) (z0 : List ByteArray) (a1 : ByteArray) (a2 : Int) (w : World) (w0 : IsStrs w a0 len0 cap0 z0) (w1 : a1.size ≤ maxLen) (w2 : (Lit.int .i64 a2).wf = true) :
    Calls Try.prog 3 #[.slice a0 len0 cap0, .string a1, .int .i64 a2] w fun e w' => e = .returned (.bool true) ∧ Below w.heap.size w w' := by
  unfold maxLen at w1
  obtain ⟨hr, hm⟩ := w0.reads
  obtain ⟨L, hL⟩ : ∃ L, L = z0.take len0 := ⟨_, rfl⟩
  rw [← hL] at hr hm
  have hbig : ∀ i, i < L.length → (L.getD i ByteArray.empty).size ≤ 9223372036854775807 := fun i hi => by
    have := hm _ (List.getElem_mem hi)
    unfold maxLen at this
    rw [List.getD_eq_getElem?_getD, List.getElem?_eq_getElem hi]
    show (L[i]).size ≤ _
    omega
  have HSz := Lib.hid (szStrs_any _ L w hr hbig)
  have HR := Lib.hid hr
  have HB := Lib.hid hbig
  have hw1 : a1.size ≤ 9223372036854775807 := by omega
  obtain ⟨R, c, hE⟩ := rebEnds L a1 a2
  have HE := Lib.hid hE
  clear hr hm hbig w0 hL hE
  by_cases hl1 : a1.size ≤ 1048576
  · go_enter Try.func3, Try.ntmps3
    go_wp2_with fail
    refine HSz.out.mono ?_
    rintro e w' ⟨x, rfl, hx, rfl⟩
    by_cases hneg : x < 0
    · clear hx
      go_wp2
      go_ret
      exact ⟨rfl, Below.refl _ _⟩
    · have hp : 0 ≤ x := by omega
      have hL := (hx hp).1
      have hq := str_same (rfl : R = R)
      have hcc : (c != c) = false := by simp
      have HL := Lib.hid hL
      clear hx hL hneg
      go_wp2_with fail
      refine (toStrs_any _ L _ HR.out HL.out).mono ?_
      rintro e w1 ⟨v1, rfl, o1, b1⟩
      go_wp2_with fail
      refine (specReb_any v1 L a1 a2 R c _ o1.reads HB.out hw1 HL.out HE.out).mono ?_
      rintro e w2 ⟨rfl, b2⟩
      have B2 := b1.trans (b2.mono b1.size)
      go_wp2_with fail
      refine (toStrs_any _ L _ (HR.out.below B2 (Nat.le_refl _)) HL.out).mono ?_
      rintro e w3 ⟨v2, rfl, o3, b3⟩
      have B3 := B2.trans (b3.mono B2.size)
      clear o1 b1 b2 b3 B2
      go_wp2_with fail
      refine (implReb_any v2 L a1 a2 R c _ o3.reads HB.out hw1 HL.out HE.out).mono ?_
      rintro e w4 ⟨rfl, b4⟩
      have B4 := B3.trans (b4.mono B3.size)
      have o4 := o3.later b4 (Nat.le_refl _)
      clear o3 b4 B3
      go_wp2_with fail
      refine (toStrs_any _ L _ (HR.out.below B4 (Nat.le_refl _)) HL.out).mono ?_
      rintro e w5 ⟨v3, rfl, o5, b5⟩
      have B5 := B4.trans (b5.mono B4.size)
      have p5 := o4.later b5 (Nat.le_refl _)
      clear o4 b5 B4
      go_wp2_with fail
      refine (eqStrs_any v2 v3 L _ p5.reads o5.reads HL.out).mono ?_
      rintro e w6 ⟨rfl, b6⟩
      have B6 := B5.trans (b6.mono B5.size)
      clear p5 o5 b6 B5
      go_wp2
      go_ret
      exact ⟨rfl, B6⟩
  · clear HSz HR HB HE
    go_enter Try.func3, Try.ntmps3
    go_wp2
    go_ret
    exact ⟨rfl, Below.refl _ _⟩

theorem own : ownKnob Try.prog.godebug = none := by kernel_rfl
theorem laidOut : laidOutB Try.prog = true := by kernel_rfl
set_option maxRecDepth 100000 in
theorem lifted (os : Os) (started : os.Started) (H : Type) (enc : TypeId × Value → H) :
    ReturnsInHanded {} Try.checked os 3 .any (Rows.fnExactRebuildSpec.pre6 enc Try.prog Try.f3 Rows.fnExactRebuildRow.domain false) (Rows.fnExactRebuildSpec.post enc Try.prog Try.f3 false true false false) := by
  refine returnsInHanded_of_change (C := Try.checked) own started (by kernel_rfl) Try.func3
    (ChangeSpec.witness6 (enc := enc) (C := Try.checked) false ⟨#[], #[.slice none 0 0, .string ByteArray.empty, .int .i64 0], []⟩ 8 (by kernel_rfl) (by kernel_rfl) (by kernel_rfl) (by kernel_rfl)) ?_
  intro W base args ds gs before hval0 hW hcnd _
  have hval : ∀ (j : Nat) t v, Try.f3.params[j]? = some t → args[j]? = some v → Value.okWide Try.prog W .any base t v := hval0
  have hW' := hW
  obtain ⟨p, q, hA0, hV, rfl, hfz, hnd⟩ := hW
  have hA : DataW.TrodAll enc Try.prog W 0 (fun _ => true) true Try.f3.params.toList args.toList ds p := hA0
  rw [Try.params3] at hA hval
  obtain ⟨v0, vs0, d0, ds0, p0, q0, hargs, rfl, rfl, h0, r0⟩ := trodAll_cons hA
  obtain ⟨v1, vs1, d1, ds1, p1, q1, rfl, rfl, rfl, h1, r1⟩ := trodAll_cons r0
  obtain ⟨v2, vs2, d2, ds2, p2, q2, rfl, rfl, rfl, h2, r2⟩ := trodAll_cons r1
  obtain ⟨rfl, rfl, rfl⟩ := trodAll_nil r2
  obtain rfl : args = #[v0, v1, v2] := by cases args; simp_all
  obtain ⟨rfl, rfl⟩ := trodVars_none hV
  obtain ⟨a0, len0, cap0, rfl⟩ := okWide_slice Try.underlying22 (hval 0 22 v0 rfl rfl)
  have k0 := h0
  have lt0 : ∀ x ∈ p0, x.block < W.heap.size := by obtain ⟨m, hm⟩ := k0; exact DataW.trod_lt m _ _ _ hm
  obtain ⟨z0, w0⟩ : ∃ zs, IsStrs W a0 len0 cap0 zs := by
    obtain ⟨fuel, hf⟩ := h0
    rcases open_strings Try.underlying22 Try.underlying9 (by kernel_rfl) hf with ⟨hcs, _⟩ | ⟨x, l, c, zs, hcs, _, hl, hm, hz, _, hcell, hwz⟩
    · simp [Value.cells] at hcs
      obtain ⟨rfl, rfl, rfl⟩ := hcs
      exact ⟨[], .inl ⟨rfl, rfl, rfl, rfl⟩⟩
    · simp [Value.cells] at hcs
      obtain ⟨rfl, rfl, rfl⟩ := hcs
      exact ⟨zs, .inr ⟨_, rfl, hl, hm, by simpa using hz, hcell, hwz⟩⟩
  obtain ⟨a1, rfl, rfl, rfl, w1⟩ := open_string Try.underlying9 (hval 1 9 v1 rfl rfl) h1
  obtain ⟨a2, rfl, rfl, rfl, w2⟩ := open_int Try.underlying2 (hval 2 2 v2 rfl rfl) h2
  clear hA0 hval0
  refine (walk a0 len0 cap0 z0 a1 a2 W w0 w1 w2).mono fun e W' ⟨he, bel⟩ => ?_
  subst he
  exact ⟨_, rfl, _, _, _, [], _, [], hW', trodAll_mk1 (shut_bool Try.underlying4 _), (trodAll_cons_mk (Below.trod laidOut (by kernel_rfl) (of_decide_eq_true (by kernel_rfl)) k0 bel lt0) (trodAll_cons_mk (shut_string Try.underlying9 w1) (trodAll_cons_mk (shut_int Try.underlying2 w2) trodAll_mk0))), rfl, bel.frame _, fun h => by cases h⟩
theorem over : Rows.fnExactRebuildRow.holds Try.pinned (OpenSpec.ofChange Rows.fnExactRebuildSpec) :=
  OpenClaim.holds_of_wide 3 Try.f3 rfl rfl rfl rfl rfl rfl rfl ⟨rfl, rfl, rfl, rfl, rfl⟩ rfl rfl rfl rfl rfl (by kernel_rfl) Try.func3 (by kernel_rfl)
    (of_decide_eq_true (by kernel_rfl)) (by unfold Func.isWrapper; first | (rw [if_pos (by decide +kernel)]; kernel_rfl) | (rw [if_neg (by decide +kernel)]; exact ⟨rfl, rfl⟩))
    (fun os started H enc _ => lifted os started H enc)
theorem proved : Rows.FnExactRebuildSaid := over
#print axioms proved
end Go.Proofs.Ytegjppihopncoad.fnExactRebuild
