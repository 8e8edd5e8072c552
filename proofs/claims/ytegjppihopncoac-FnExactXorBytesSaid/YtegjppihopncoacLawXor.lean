/- The law FnExactXorBytes: for every argument (string, string) the call returns true, and each argument reads afterwards as it read before. No further condition. -/
import Derived.Test.YtegjppihopncoacRows
import Derived.Test.YtegjppihopncoacPar
import Derived.WalkKit
import Derived.ProofKit
import Derived.OpenShut
import Derived.ShutString
import Derived.ChangeOld
import Derived.Below
namespace Go.Proofs.Ytegjppihopncoac.fnExactXorBytes
open Go.ChangeShapes Go.WideShapes Go.ChangeAt Go.RowKit
open Go.ChangeMaps (open_string shut_string)
set_option linter.unusedVariables false

theorem specXorB_yes (a b : ByteArray) (w : World) (h1 : a.size = b.size) (h2 : a.size ≤ 256) :
    Calls Try.prog 12 #[.string a, .string b] w (XorPost (strOfNums (xorL a b a.size)) 0 w) := by
  have HX := Lib.hid (fun (W : World) => specXor_any a b W h1 (by omega))
  have hb : ((a.size : Int) != (b.size : Int)) = false := by simp; omega
  have hd : decide ((256 : Int) < (a.size : Int)) = false := by simp; omega
  clear h1
  go_enter Try.func12, Try.ntmps12
  go_wp2_with (go_at_call 21; refine (HX.out _).mono ?_; rintro e w1 ⟨rfl, hb1⟩)
  go_ret2
  exact ⟨rfl, hb1⟩
theorem specXorB_no (a b : ByteArray) (w : World) (h : ¬ (a.size = b.size ∧ a.size ≤ 256)) :
    Calls Try.prog 12 #[.string a, .string b] w (XorPost ⟨#[]⟩ 1 w) := by
  by_cases h1 : a.size = b.size
  · have hb : ((a.size : Int) != (b.size : Int)) = false := by simp; omega
    have hd : decide ((256 : Int) < (a.size : Int)) = true := by simp; omega
    clear h h1
    go_enter Try.func12, Try.ntmps12
    go_wp2
    go_ret2
    exact ⟨rfl, Below.refl _ _⟩
  · have hb : ((a.size : Int) != (b.size : Int)) = true := by simp; omega
    clear h h1
    go_enter Try.func12, Try.ntmps12
    go_wp2
    go_ret2
    exact ⟨rfl, Below.refl _ _⟩
theorem two_reads (w : World) (a b : ByteArray) : StrsIn (w.alloc (.cells #[.string a, .string b] 9)) (.slice (some ⟨w.heap.size, 0, none⟩) 2 2) [a, b] := by
  refine ⟨_, _, _, rfl, Nat.le_refl _, by omega, rfl, fun _ => ⟨w.heap.size, 0, rfl, by simp, fun i hi => ?_⟩⟩
  rw [Nat.zero_add, World.cell?_alloc_new]
  match i, hi with
  | 0, _ => rfl
  | 1, _ => rfl
theorem implXorB_any (a b : ByteArray) (R : ByteArray) (c : Int) (w : World) (ha : a.size ≤ 1048576) (hb : b.size ≤ 1048576) (hE : XorEnds [a, b] R c) :
    Calls Try.prog 13 #[.string a, .string b] w (XorPost R c w) := by
  have HX := Lib.hid (xorOf_any (.slice (some ⟨w.heap.size, 0, none⟩) 2 2) [a, b] R c _ (two_reads w a b) (fun i hi => by
    match i, hi with
    | 0, _ => show a.size ≤ _; omega
    | 1, _ => show b.size ≤ _; omega) hE)
  clear hE
  go_enter Try.func13, Try.ntmps13
  go_wp2_with (go_at_call 22; refine HX.out.mono ?_; rintro e w1 ⟨rfl, hb1⟩)
  go_ret2
  exact ⟨rfl, ((Below.refl w.heap.size w).alloc (Nat.le_refl _) _).trans (hb1.mono (by simp))⟩
theorem xor_two (a b : ByteArray) (h1 : a.size = b.size) : strOfNums (xorL a b a.size) = sumS [a, b] a.size := by
  have := xor_sum [a, b] a.size 1 (by simp)
  have e : sumS (List.take 1 [a, b]) a.size = a := sumS_one a
  rw [e] at this
  exact this
theorem walk (a0 a1 : ByteArray) (w : World) (w0 : a0.size ≤ maxLen) (w1 : a1.size ≤ maxLen) :
    Calls Try.prog 4 #[.string a0, .string a1] w fun e w' => e = .returned (.bool true) ∧ Below w.heap.size w w' := by
  unfold maxLen at w0 w1
  by_cases hl : a0.size ≤ 1048576
  · by_cases hl1 : a1.size ≤ 1048576
    · obtain ⟨R, c, HS, HI⟩ : ∃ R c, Hid (∀ W, Calls Try.prog 12 #[.string a0, .string a1] W (XorPost R c W)) ∧ Hid (∀ W, Calls Try.prog 13 #[.string a0, .string a1] W (XorPost R c W)) := by
        by_cases h : a0.size = a1.size ∧ a0.size ≤ 256
        · refine ⟨_, _, Lib.hid (fun W => specXorB_yes a0 a1 W h.1 h.2), Lib.hid (fun W => implXorB_any a0 a1 _ _ W hl hl1 (.inl ⟨a0.size, ⟨by simp, by simp, h.2, fun i hi => ?_⟩, xor_two a0 a1 h.1, rfl⟩))⟩
          match i, hi with
          | 0, _ => rfl
          | 1, _ => exact h.1.symm
        · refine ⟨_, _, Lib.hid (fun W => specXorB_no a0 a1 W h), Lib.hid (fun W => implXorB_any a0 a1 _ _ W hl hl1 (.inr ⟨?_, rfl, rfl⟩))⟩
          rintro ⟨m, _, _, h3, h4⟩
          have e0 : a0.size = m := h4 0 (by simp)
          have e1 : a1.size = m := h4 1 (by simp)
          exact h ⟨by omega, by omega⟩
      have hq := str_same (rfl : R = R)
      have hcc : (c != c) = false := by simp
      go_enter Try.func4, Try.ntmps4
      go_wp2_with fail
      refine (HS.out _).mono ?_
      rintro e w1 ⟨rfl, hb1⟩
      go_wp2_with fail
      refine (HI.out _).mono ?_
      rintro e w2 ⟨rfl, hb2⟩
      go_wp2
      go_ret
      exact ⟨rfl, hb1.trans (hb2.mono hb1.size)⟩
    · go_enter Try.func4, Try.ntmps4
      go_wp2
      go_ret
      exact ⟨rfl, Below.refl _ _⟩
  · go_enter Try.func4, Try.ntmps4
    go_wp2
    go_ret
    exact ⟨rfl, Below.refl _ _⟩

theorem own : ownKnob Try.prog.godebug = none := by kernel_rfl
theorem laidOut : laidOutB Try.prog = true := by kernel_rfl
set_option maxRecDepth 100000 in
theorem lifted (os : Os) (started : os.Started) (H : Type) (enc : TypeId × Value → H) :
    ReturnsInHanded {} Try.checked os 4 .any (Rows.fnExactXorBytesSpec.pre6 enc Try.prog Try.f4 Rows.fnExactXorBytesRow.domain false) (Rows.fnExactXorBytesSpec.post enc Try.prog Try.f4 false true false false) := by
  refine returnsInHanded_of_change (C := Try.checked) own started (by kernel_rfl) Try.func4
    (ChangeSpec.witness6 (enc := enc) (C := Try.checked) false ⟨#[], #[.string ByteArray.empty, .string ByteArray.empty], []⟩ 8 (by kernel_rfl) (by kernel_rfl) (by kernel_rfl) (by kernel_rfl)) ?_
  intro W base args ds gs before hval0 hW hcnd _
  have hval : ∀ (j : Nat) t v, Try.f4.params[j]? = some t → args[j]? = some v → Value.okWide Try.prog W .any base t v := hval0
  have hW' := hW
  obtain ⟨p, q, hA0, hV, rfl, hfz, hnd⟩ := hW
  have hA : DataW.TrodAll enc Try.prog W 0 (fun _ => true) true Try.f4.params.toList args.toList ds p := hA0
  rw [Try.params4] at hA hval
  obtain ⟨v0, vs0, d0, ds0, p0, q0, hargs, rfl, rfl, h0, r0⟩ := trodAll_cons hA
  obtain ⟨v1, vs1, d1, ds1, p1, q1, rfl, rfl, rfl, h1, r1⟩ := trodAll_cons r0
  obtain ⟨rfl, rfl, rfl⟩ := trodAll_nil r1
  obtain rfl : args = #[v0, v1] := by cases args; simp_all
  obtain ⟨rfl, rfl⟩ := trodVars_none hV
  obtain ⟨a0, rfl, rfl, rfl, w0⟩ := open_string Try.underlying9 (hval 0 9 v0 rfl rfl) h0
  obtain ⟨a1, rfl, rfl, rfl, w1⟩ := open_string Try.underlying9 (hval 1 9 v1 rfl rfl) h1
  clear hA0 hval0
  simp only [List.append_nil] at hW'
  refine (walk a0 a1 W w0 w1).mono fun e W' ⟨he, bel⟩ => ?_
  subst he
  exact ⟨_, rfl, _, _, _, [], _, [], hW', trodAll_mk1 (shut_bool Try.underlying4 _), (trodAll_cons_mk (shut_string Try.underlying9 w0) (trodAll_cons_mk (shut_string Try.underlying9 w1) trodAll_mk0)), rfl, bel.frame _, fun h => by cases h⟩
theorem over : Rows.fnExactXorBytesRow.holds Try.pinned (OpenSpec.ofChange Rows.fnExactXorBytesSpec) :=
  OpenClaim.holds_of_wide 4 Try.f4 rfl rfl rfl rfl rfl rfl rfl ⟨rfl, rfl, rfl, rfl, rfl⟩ rfl rfl rfl rfl rfl (by kernel_rfl) Try.func4 (by kernel_rfl)
    (of_decide_eq_true (by kernel_rfl)) (by unfold Func.isWrapper; first | (rw [if_pos (by decide +kernel)]; kernel_rfl) | (rw [if_neg (by decide +kernel)]; exact ⟨rfl, rfl⟩))
    (fun os started H enc _ => lifted os started H enc)
theorem proved : Rows.FnExactXorBytesSaid := over
#print axioms proved
end Go.Proofs.Ytegjppihopncoac.fnExactXorBytes
