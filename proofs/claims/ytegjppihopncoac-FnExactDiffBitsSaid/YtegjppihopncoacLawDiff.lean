/- The law FnExactDiffBits: for every argument (string, string) the call returns true, and each argument reads afterwards as it read before. No further condition. -/
import Derived.Test.YtegjppihopncoacRows
import Derived.Test.YtegjppihopncoacDiff
import Derived.WalkKit
import Derived.ProofKit
import Derived.OpenShut
import Derived.ShutString
import Derived.ChangeOld
import Derived.Below
namespace Go.Proofs.Ytegjppihopncoac.fnExactDiffBits
open Go.ChangeShapes Go.WideShapes Go.ChangeAt Go.RowKit
open Go.ChangeMaps (open_string shut_string)
set_option linter.unusedVariables false

theorem walk (a0 a1 : ByteArray) (w : World) (w0 : a0.size ≤ maxLen) (w1 : a1.size ≤ maxLen) :
    Calls Try.prog 3 #[.string a0, .string a1] w fun e w' => e = .returned (.bool true) ∧ Below w.heap.size w w' := by
  unfold maxLen at w0 w1
  by_cases hl : a0.size ≤ 1048576
  · by_cases hl1 : a1.size ≤ 1048576
    · obtain ⟨l, hlen, HS, HI⟩ : ∃ l : List Int, l.length ≤ 2048 ∧ Hid (∀ W, Calls Try.prog 7 #[.string a0, .string a1] W (DiffPost l W)) ∧ Hid (∀ W, Calls Try.prog 8 #[.string a0, .string a1] W (DiffPost l W)) := by
        by_cases h : Alike a0 a1
        · exact ⟨_, by have := difL_le a0 a1 (8 * a0.size); have := h.2; omega, Lib.hid (fun W => specDiff_yes a0 a1 W h), Lib.hid (fun W => implDiff_yes a0 a1 W h)⟩
        · exact ⟨[], by simp, Lib.hid (fun W => specDiff_no a0 a1 W h hl), Lib.hid (fun W => implDiff_no a0 a1 W h hl)⟩
      obtain ⟨n, hn⟩ : ∃ n, n = l.length := ⟨_, rfl⟩
      have hnm : n ≤ 2048 := by omega
      have hni : (n : Int) ≤ 2048 := by omega
      have hmm : ((1 + (n : Int)) != (1 + (n : Int))) = false := by simp
      have HN := Lib.hid hn
      have HL := Lib.hid hlen
      clear hn hlen
      go_enter Try.func3, Try.ntmps3
      go_wp2_with fail
      refine (HS.out _).mono ?_
      rintro e w1 ⟨v0, rfl, o1, b1⟩
      have lt0 := fun g hg => (World.ownsRow.lt o1 g hg).2
      go_wp2_with fail
      refine (HI.out _).mono ?_
      rintro e w2 ⟨v1, rfl, p2, b2⟩
      have o2 := o1.later b2 (Nat.le_refl _)
      have B2 := b1.trans (b2.mono b1.size)
      go_wp2_with fail
      refine (eqInts_any v1 v0 l _ p2.reads o2.reads (by have := HL.out; omega)).mono ?_
      rintro e w3 ⟨rfl, b3⟩
      have o3 := o2.later b3 (Nat.le_refl _)
      have p3 := p2.later b3 (Nat.le_refl _)
      have B3 := B2.trans (b3.mono B2.size)
      have hm := markInts_any _ v1 l w3 p3 (by have := HL.out; omega)
      rw [← HN.out] at hm
      have lt1 := fun g hg => (World.ownsRow.lt p3 g hg).1
      go_wp2_with fail
      refine hm.mono ?_
      rintro e w4 ⟨rfl, p4, g4, b4⟩
      have o4 := o3.kept g4 (by
        cases e0 : v0.ownBlock with
        | none => exact .inl rfl
        | some g =>
          cases e1 : v1.ownBlock with
          | none => exact .inr (fun h => by cases h)
          | some g' => exact .inr (fun h => by injection h with h; have := lt0 g e0; have := lt1 g' e1; omega))
      have B4 := B3.trans (b4.mono b1.size)
      go_wp2_with fail
      refine (heldInts_any v1 n _ p4.reads (by omega)).mono ?_
      rintro e w' ⟨rfl, rfl⟩
      clear hm lt0 lt1 o1 p2 o2 o3 p3 g4 b2 b3 b4 B2 B3
      go_wp2_with fail
      refine (HI.out _).mono ?_
      rintro e w5 ⟨v2, rfl, q5, b5⟩
      have o5 := o4.later b5 (Nat.le_refl _)
      have p5 := p4.later b5 (Nat.le_refl _)
      have B5 := B4.trans (b5.mono B4.size)
      go_wp2_with fail
      refine (eqInts_any v2 v0 l _ q5.reads o5.reads (by have := HL.out; omega)).mono ?_
      rintro e w6 ⟨rfl, b6⟩
      have p6 := p5.later b6 (Nat.le_refl _)
      have B6 := B5.trans (b6.mono B5.size)
      go_wp2_with fail
      refine (heldInts_any v1 n _ p6.reads (by omega)).mono ?_
      rintro e w' ⟨rfl, rfl⟩
      clear o4 p4 o5 p5 q5 p6 b5 b6 B4 B5 b1
      go_wp2
      go_ret
      exact ⟨rfl, B6⟩
    · go_enter Try.func3, Try.ntmps3
      go_wp2
      go_ret
      exact ⟨rfl, Below.refl _ _⟩
  · go_enter Try.func3, Try.ntmps3
    go_wp2
    go_ret
    exact ⟨rfl, Below.refl _ _⟩

theorem own : ownKnob Try.prog.godebug = none := by kernel_rfl
theorem laidOut : laidOutB Try.prog = true := by kernel_rfl
set_option maxRecDepth 100000 in
theorem lifted (os : Os) (started : os.Started) (H : Type) (enc : TypeId × Value → H) :
    ReturnsInHanded {} Try.checked os 3 .any (Rows.fnExactDiffBitsSpec.pre6 enc Try.prog Try.f3 Rows.fnExactDiffBitsRow.domain false) (Rows.fnExactDiffBitsSpec.post enc Try.prog Try.f3 false true false false) := by
  refine returnsInHanded_of_change (C := Try.checked) own started (by kernel_rfl) Try.func3
    (ChangeSpec.witness6 (enc := enc) (C := Try.checked) false ⟨#[], #[.string ByteArray.empty, .string ByteArray.empty], []⟩ 8 (by kernel_rfl) (by kernel_rfl) (by kernel_rfl) (by kernel_rfl)) ?_
  intro W base args ds gs before hval0 hW hcnd _
  have hval : ∀ (j : Nat) t v, Try.f3.params[j]? = some t → args[j]? = some v → Value.okWide Try.prog W .any base t v := hval0
  have hW' := hW
  obtain ⟨p, q, hA0, hV, rfl, hfz, hnd⟩ := hW
  have hA : DataW.TrodAll enc Try.prog W 0 (fun _ => true) true Try.f3.params.toList args.toList ds p := hA0
  rw [Try.params3] at hA hval
  obtain ⟨v0, vs0, d0, ds0, p0, q0, hargs, rfl, rfl, h0, r0⟩ := trodAll_cons hA
  obtain ⟨v1, vs1, d1, ds1, p1, q1, rfl, rfl, rfl, h1, r1⟩ := trodAll_cons r0
  obtain ⟨rfl, rfl, rfl⟩ := trodAll_nil r1
  obtain rfl : args = #[v0, v1] := by cases args; simp_all
  obtain ⟨rfl, rfl⟩ := trodVars_none hV
  obtain ⟨a0, rfl, rfl, rfl, w0⟩ := open_string Try.underlying9 (hval 0 9 v0 rfl rfl) h0
  obtain ⟨a1, rfl, rfl, rfl, w1⟩ := open_string Try.underlying9 (hval 1 9 v1 rfl rfl) h1
  clear hA0 hval0
  simp only [List.append_nil] at hW'
  refine (walk a0 a1 W w0 w1).mono fun e W' ⟨he, bel⟩ => ?_
  subst he
  exact ⟨_, rfl, _, _, _, [], _, [], hW', trodAll_mk1 (shut_bool Try.underlying4 _), (trodAll_cons_mk (shut_string Try.underlying9 w0) (trodAll_cons_mk (shut_string Try.underlying9 w1) trodAll_mk0)), rfl, bel.frame _, fun h => by cases h⟩
theorem over : Rows.fnExactDiffBitsRow.holds Try.pinned (OpenSpec.ofChange Rows.fnExactDiffBitsSpec) :=
  OpenClaim.holds_of_wide 3 Try.f3 rfl rfl rfl rfl rfl rfl rfl ⟨rfl, rfl, rfl, rfl, rfl⟩ rfl rfl rfl rfl rfl (by kernel_rfl) Try.func3 (by kernel_rfl)
    (of_decide_eq_true (by kernel_rfl)) (by unfold Func.isWrapper; first | (rw [if_pos (by decide +kernel)]; kernel_rfl) | (rw [if_neg (by decide +kernel)]; exact ⟨rfl, rfl⟩))
    (fun os started H enc _ => lifted os started H enc)
theorem proved : Rows.FnExactDiffBitsSaid := over
#print axioms proved
end Go.Proofs.Ytegjppihopncoac.fnExactDiffBits
