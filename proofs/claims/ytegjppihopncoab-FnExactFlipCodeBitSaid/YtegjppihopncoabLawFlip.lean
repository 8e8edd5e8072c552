/- The law FnExactFlipCodeBit: for every argument (string, int64, int64) the call returns true, and each argument reads afterwards as it read before. No further condition. -/
import Derived.Test.YtegjppihopncoabRows
import Derived.Test.YtegjppihopncoabFlipI
import Derived.WalkKit
import Derived.ProofKit
import Derived.OpenShut
import Derived.ShutString
import Derived.ChangeOld
import Derived.Below
namespace Go.Proofs.Ytegjppihopncoab.fnExactFlipCodeBit
open Go.ChangeShapes Go.WideShapes Go.ChangeAt Go.RowKit
open Go.ChangeMaps (open_string shut_string)
set_option linter.unusedVariables false

theorem walk (a0 : ByteArray) (a1 a2 : Int) (w : World) (w0 : a0.size ≤ maxLen) (w1 : (Lit.int .i64 a1).wf = true) (w2 : (Lit.int .i64 a2).wf = true) :
    Calls Try.prog 4 #[.string a0, .int .i64 a1, .int .i64 a2] w fun e w' => e = .returned (.bool true) ∧ Below w.heap.size w w' := by
  unfold maxLen at w0
  clear w1 w2
  by_cases hl : a0.size ≤ 1048576
  · obtain ⟨R, n, c, HS, HI⟩ : ∃ R n c, Hid (∀ W, Calls Try.prog 10 #[.string a0, .int .i64 a1, .int .i64 a2] W (BitPost R n c W)) ∧ Hid (∀ W, Calls Try.prog 11 #[.string a0, .int .i64 a1, .int .i64 a2] W (BitPost R n c W)) := by
      by_cases hs : a0.size = 8 ∧ 0 ≤ a1 ∧ a1 ≤ 255
      · obtain ⟨hs1, hs2, hs3⟩ := hs
        by_cases hb : 0 ≤ a2 ∧ a2 ≤ 71
        · obtain ⟨hb1, hb2⟩ := hb
          obtain ⟨X, hX, rfl, rfl⟩ := as_cw hs1 hs2 hs3
          obtain ⟨b, rfl⟩ := Int.eq_ofNat_of_zero_le hb1
          exact ⟨_, _, _, Lib.hid (fun W => specFlip_yes X b W hX (by omega)), Lib.hid (fun W => implFlip_yes X b W hX (by omega))⟩
        · have hn : a2 < 0 ∨ 71 < a2 := by omega
          have S := fun W => specFlip_range a0 a1 a2 W hs1 ⟨hs2, hs3⟩ hn
          obtain ⟨X, hX, rfl, rfl⟩ := as_cw hs1 hs2 hs3
          exact ⟨_, _, _, Lib.hid S, Lib.hid (fun W => implFlip_range X a2 W hX hn)⟩
      · have hn : a0.size ≠ 8 ∨ a1 < 0 ∨ 255 < a1 := by omega
        exact ⟨_, _, _, Lib.hid (fun W => specFlip_no a0 a1 a2 W hn), Lib.hid (fun W => implFlip_no a0 a1 a2 W hn)⟩
    have hq := str_same (rfl : R = R)
    go_enter Try.func4, Try.ntmps4
    go_wp2_with fail
    refine (HS.out _).mono ?_
    rintro e w1 ⟨rfl, hb1⟩
    go_wp2_with fail
    refine (HI.out _).mono ?_
    rintro e w2 ⟨rfl, hb2⟩
    go_wp2
    go_ret
    exact ⟨rfl, hb1.trans (hb2.mono hb1.size)⟩
  · go_enter Try.func4, Try.ntmps4
    go_wp2
    go_ret
    exact ⟨rfl, Below.refl _ _⟩

theorem own : ownKnob Try.prog.godebug = none := by kernel_rfl
theorem laidOut : laidOutB Try.prog = true := by kernel_rfl
set_option maxRecDepth 100000 in
theorem lifted (os : Os) (started : os.Started) (H : Type) (enc : TypeId × Value → H) :
    ReturnsInHanded {} Try.checked os 4 .any (Rows.fnExactFlipCodeBitSpec.pre6 enc Try.prog Try.f4 Rows.fnExactFlipCodeBitRow.domain false) (Rows.fnExactFlipCodeBitSpec.post enc Try.prog Try.f4 false true false false) := by
  refine returnsInHanded_of_change (C := Try.checked) own started (by kernel_rfl) Try.func4
    (ChangeSpec.witness6 (enc := enc) (C := Try.checked) false ⟨#[], #[.string ByteArray.empty, .int .i64 0, .int .i64 0], []⟩ 8 (by kernel_rfl) (by kernel_rfl) (by kernel_rfl) (by kernel_rfl)) ?_
  intro W base args ds gs before hval0 hW hcnd _
  have hval : ∀ (j : Nat) t v, Try.f4.params[j]? = some t → args[j]? = some v → Value.okWide Try.prog W .any base t v := hval0
  have hW' := hW
  obtain ⟨p, q, hA0, hV, rfl, hfz, hnd⟩ := hW
  have hA : DataW.TrodAll enc Try.prog W 0 (fun _ => true) true Try.f4.params.toList args.toList ds p := hA0
  rw [Try.params4] at hA hval
  obtain ⟨v0, vs0, d0, ds0, p0, q0, hargs, rfl, rfl, h0, r0⟩ := trodAll_cons hA
  obtain ⟨v1, vs1, d1, ds1, p1, q1, rfl, rfl, rfl, h1, r1⟩ := trodAll_cons r0
  obtain ⟨v2, vs2, d2, ds2, p2, q2, rfl, rfl, rfl, h2, r2⟩ := trodAll_cons r1
  obtain ⟨rfl, rfl, rfl⟩ := trodAll_nil r2
  obtain rfl : args = #[v0, v1, v2] := by cases args; simp_all
  obtain ⟨rfl, rfl⟩ := trodVars_none hV
  obtain ⟨a0, rfl, rfl, rfl, w0⟩ := open_string Try.underlying9 (hval 0 9 v0 rfl rfl) h0
  obtain ⟨a1, rfl, rfl, rfl, w1⟩ := open_int Try.underlying2 (hval 1 2 v1 rfl rfl) h1
  obtain ⟨a2, rfl, rfl, rfl, w2⟩ := open_int Try.underlying2 (hval 2 2 v2 rfl rfl) h2
  clear hA0 hval0
  simp only [List.append_nil] at hW'
  refine (walk a0 a1 a2 W w0 w1 w2).mono fun e W' ⟨he, bel⟩ => ?_
  subst he
  exact ⟨_, rfl, _, _, _, [], _, [], hW', trodAll_mk1 (shut_bool Try.underlying4 _), (trodAll_cons_mk (shut_string Try.underlying9 w0) (trodAll_cons_mk (shut_int Try.underlying2 w1) (trodAll_cons_mk (shut_int Try.underlying2 w2) trodAll_mk0))), rfl, bel.frame _, fun h => by cases h⟩
theorem over : Rows.fnExactFlipCodeBitRow.holds Try.pinned (OpenSpec.ofChange Rows.fnExactFlipCodeBitSpec) :=
  OpenClaim.holds_of_wide 4 Try.f4 rfl rfl rfl rfl rfl rfl rfl ⟨rfl, rfl, rfl, rfl, rfl⟩ rfl rfl rfl rfl rfl (by kernel_rfl) Try.func4 (by kernel_rfl)
    (of_decide_eq_true (by kernel_rfl)) (by unfold Func.isWrapper; first | (rw [if_pos (by decide +kernel)]; kernel_rfl) | (rw [if_neg (by decide +kernel)]; exact ⟨rfl, rfl⟩))
    (fun os started H enc _ => lifted os started H enc)
theorem proved : Rows.FnExactFlipCodeBitSaid := over
#print axioms proved
end Go.Proofs.Ytegjppihopncoab.fnExactFlipCodeBit
