/- The law FnLfsr: for every argument ([]byte, []byte) the call returns true, and each argument reads afterwards as it read before. No further condition. -/
import Derived.Test.YtopehpnelfbboaaRows
import Derived.Test.YtopehpnelfbboaaByte
import Derived.Test.YtopehpnelfbboaaDraw2
import Derived.Test.YtopehpnelfbboaaJump
import Derived.Test.YtopehpnelfbboaaPer
import Derived.WalkKit
import Derived.ProofKit
import Derived.OpenShut
import Derived.ShutString
import Derived.ChangeOld
import Derived.Below
namespace Go.Proofs.Ytopehpnelfbboaa.fnLfsr
open Go.ChangeShapes Go.WideShapes Go.ChangeAt Go.RowKit
open Go.ChangeMaps (open_string shut_string)
set_option linter.unusedVariables false

theorem walk (a0 : Option Addr) (len0 cap0 : Nat) (z0 : List Int) (a1 : Option Addr) (len1 cap1 : Nat) (z1 : List Int) (w : World) (w0 : IsRow .u8 w a0 len0 cap0 z0) (w1 : IsRow .u8 w a1 len1 cap1 z1) :
    Calls Try.prog 4 #[.slice a0 len0 cap0, .slice a1 len1 cap1] w fun e w' => e = .returned (.bool true) ∧ Below w.heap.size w w' := by
  have b0 := w0.len
  have b1 := w1.len
  by_cases hl : len0 ≤ 1048576 ∧ len1 ≤ 1048576
  · obtain ⟨hl0, hl1⟩ := hl
    have hc0 := w0.code hl0
    have hc1 := w1.code hl1
    clear w0 w1
    go_enter Try.func4, Try.ntmps4
    go_wp2_with fail
    refine (long_no _ _ _ _ _ _ _ hl0 hl1).mono ?_
    rintro e w' ⟨rfl, rfl⟩
    go_wp2_with fail
    refine (drawStep_any _ _ hc0).mono ?_
    rintro e w1 ⟨v, rfl, ⟨s, rfl, hs0, hs1⟩, hb⟩
    have hc1' := hc1.keep (w' := w1) hb.block
    clear hc0 hc1
    by_cases hv : 1 ≤ s
    · by_cases hv2 : s ≤ 65535
      · obtain ⟨n, rfl⟩ := Int.eq_ofNat_of_zero_le (show 0 ≤ s by omega)
        have hn1 : 1 ≤ n := by omega
        have hn2 : n < 65536 := by omega
        have p1 := step_pos hn2 hn1
        have p2 := stepN_lt n hn2
        have HB := Lib.hid (back_step n hn2)
        clear hs0 hs1 hv hv2
        go_wp2_with fail
        refine (specValid_yes _ _ (by omega) (by omega)).mono ?_
        rintro e w' ⟨rfl, rfl⟩
        go_wp2_with fail
        refine (implStep_yes n _ hn1 hn2).mono ?_
        rintro e w' ⟨rfl, rfl⟩
        go_wp2_with fail
        refine (b10At_any _ _ 0 256 _ hc1' (by omega) (by omega) (by omega)).mono ?_
        rintro e w' ⟨x, rfl, hx0, hx1, rfl⟩
        go_wp2_with fail
        refine (b10At_any _ _ 1 256 _ hc1' (by omega) (by omega) (by omega)).mono ?_
        rintro e w' ⟨y, rfl, hy0, hy1, rfl⟩
        obtain ⟨p, rfl⟩ := Int.eq_ofNat_of_zero_le hx0
        obtain ⟨q, rfl⟩ := Int.eq_ofNat_of_zero_le hy0
        obtain ⟨C, hC⟩ : ∃ C, C = 256 * q := ⟨_, rfl⟩
        obtain ⟨D, hD⟩ : ∃ D, D = p + C := ⟨_, rfl⟩
        have e1 : (256 : Int) * (q : Int) = (C : Int) := by omega
        have e2 : (p : Int) + (C : Int) = (D : Int) := by omega
        have hp : p < 256 := by omega
        have hq : q < 256 := by omega
        have hD2 : D ≤ 9223372036854775807 := by omega
        have hCb : (C : Int) ≤ 65280 := by omega
        have hDb : (D : Int) ≤ 65535 := by omega
        have HJ : Hid (stepI (stepI n (p % 65535)) (C % 65535) = stepI n (D % 65535)) := by show _ = _; rw [hD, hC]; exact jump_jump n p q hn2 hp hq
        have t1 := stepI_pos hn2 hn1 (p % 65535)
        have t2 := stepI_lt n hn2 (p % 65535)
        have f1 := stepI_pos hn2 hn1 (D % 65535)
        have f2 := stepI_lt n hn2 (D % 65535)
        have H1 : Hid (stepI n (1 % 65535) = stepN n) := Lib.hid rfl
        have H0 : Hid (stepI n (65535 % 65535) = n) := Lib.hid rfl
        have J1 := fun (W : World) => implJump_yes n 1 W hn1 hn2 (by omega)
        have J0 := fun (W : World) => implJump_yes n 65535 W hn1 hn2 (by omega)
        rw [show ((1 : Nat) : Int) = 1 from rfl, H1.out] at J1
        rw [show ((65535 : Nat) : Int) = 65535 from rfl, H0.out] at J0
        have K1 := Lib.hid J1
        have K0 := Lib.hid J0
        clear hC hD J0 J1
        go_wp2_with fail
        refine (implJump_yes n D _ hn1 hn2 hD2).mono ?_
        rintro e w2 ⟨rfl, hb2⟩
        go_wp2_with fail
        refine (specValid_yes _ _ (by omega) (by omega)).mono ?_
        rintro e w' ⟨rfl, rfl⟩
        go_wp2_with fail
        refine (implBack_yes (stepN n) _ p1 p2).mono ?_
        rintro e w' ⟨rfl, rfl⟩
        rw [HB.out]
        go_wp2_with fail
        refine (implJump_yes n p _ hn1 hn2 (by omega)).mono ?_
        rintro e w3 ⟨rfl, hb3⟩
        go_wp2_with fail
        refine (implJump_yes (stepI n (p % 65535)) C _ t1 t2 (by omega)).mono ?_
        rintro e w4 ⟨rfl, hb4⟩
        rw [HJ.out]
        go_wp2_with fail
        refine (K0.out _).mono ?_
        rintro e w5 ⟨rfl, hb5⟩
        go_wp2_with fail
        refine (K1.out _).mono ?_
        rintro e w6 ⟨rfl, hb6⟩
        go_wp2_with fail
        refine (specValid_yes _ _ (by omega) (by omega)).mono ?_
        rintro e w' ⟨rfl, rfl⟩
        go_wp2
        go_ret
        have z := hb.size
        have z2 := hb2.size
        have z3 := hb3.size
        have z4 := hb4.size
        have z5 := hb5.size
        exact ⟨rfl, (((((hb.trans (hb2.mono z)).trans (hb3.mono (by omega))).trans (hb4.mono (by omega))).trans (hb5.mono (by omega))).trans (hb6.mono (by omega)))⟩
      · have h' : s < 1 ∨ 65535 < s := by omega
        clear hv hv2
        go_wp2_with (first
          | (go_at_call 19; refine (specValid_no _ _ h').mono ?_; rintro e w' ⟨rfl, rfl⟩)
          | (go_at_call 20; refine (implStep_no _ _ h').mono ?_; rintro e w' ⟨rfl, rfl⟩)
          | (go_at_call 21; refine (implBack_no _ _ h').mono ?_; rintro e w' ⟨rfl, rfl⟩))
        go_ret
        exact ⟨rfl, hb⟩
    · have h' : s < 1 ∨ 65535 < s := by omega
      clear hv
      go_wp2_with (first
        | (go_at_call 19; refine (specValid_no _ _ h').mono ?_; rintro e w' ⟨rfl, rfl⟩)
        | (go_at_call 20; refine (implStep_no _ _ h').mono ?_; rintro e w' ⟨rfl, rfl⟩)
        | (go_at_call 21; refine (implBack_no _ _ h').mono ?_; rintro e w' ⟨rfl, rfl⟩))
      go_ret
      exact ⟨rfl, hb⟩
  · go_enter Try.func4, Try.ntmps4
    go_wp2_with (go_at_call 8; refine (long_yes _ _ _ _ _ _ _ b0 b1 hl).mono ?_; rintro e w' ⟨rfl, rfl⟩)
    go_ret
    exact ⟨rfl, Below.refl _ _⟩

theorem own : ownKnob Try.prog.godebug = none := by kernel_rfl
theorem laidOut : laidOutB Try.prog = true := by kernel_rfl
set_option maxRecDepth 100000 in
theorem lifted (os : Os) (started : os.Started) (H : Type) (enc : TypeId × Value → H) :
    ReturnsInHanded {} Try.checked os 4 .any (Rows.fnLfsrSpec.pre6 enc Try.prog Try.f4 Rows.fnLfsrRow.domain false) (Rows.fnLfsrSpec.post enc Try.prog Try.f4 false true false false) := by
  refine returnsInHanded_of_change (C := Try.checked) own started (by kernel_rfl) Try.func4
    (ChangeSpec.witness6 (enc := enc) (C := Try.checked) false ⟨#[], #[.slice none 0 0, .slice none 0 0], []⟩ 8 (by kernel_rfl) (by kernel_rfl) (by kernel_rfl) (by kernel_rfl)) ?_
  intro W base args ds gs before hval0 hW hcnd _
  have hval : ∀ (j : Nat) t v, Try.f4.params[j]? = some t → args[j]? = some v → Value.okWide Try.prog W .any base t v := hval0
  have hW' := hW
  obtain ⟨p, q, hA0, hV, rfl, hfz, hnd⟩ := hW
  have hA : DataW.TrodAll enc Try.prog W 0 (fun _ => true) true Try.f4.params.toList args.toList ds p := hA0
  rw [Try.params4] at hA hval
  obtain ⟨v0, vs0, d0, ds0, p0, q0, hargs, rfl, rfl, h0, r0⟩ := trodAll_cons hA
  obtain ⟨v1, vs1, d1, ds1, p1, q1, rfl, rfl, rfl, h1, r1⟩ := trodAll_cons r0
  obtain ⟨rfl, rfl, rfl⟩ := trodAll_nil r1
  obtain rfl : args = #[v0, v1] := by cases args; simp_all
  obtain ⟨rfl, rfl⟩ := trodVars_none hV
  obtain ⟨a0, len0, cap0, rfl⟩ := okWide_slice Try.underlying22 (hval 0 22 v0 rfl rfl)
  have k0 := h0
  have lt0 : ∀ x ∈ p0, x.block < W.heap.size := by obtain ⟨m, hm⟩ := k0; exact DataW.trod_lt m _ _ _ hm
  obtain ⟨z0, w0⟩ : ∃ zs, IsRow .u8 W a0 len0 cap0 zs := by
    obtain ⟨fuel, hf⟩ := h0
    rcases open_ints Try.underlying22 Try.underlying5 (by kernel_rfl) hf with ⟨hcs, _⟩ | ⟨x, l, c, zs, hcs, _, hl, hm, hz, _, hcell, hwz⟩
    · simp [Value.cells] at hcs
      obtain ⟨rfl, rfl, rfl⟩ := hcs
      exact ⟨[], .inl ⟨rfl, rfl, rfl, rfl⟩⟩
    · simp [Value.cells] at hcs
      obtain ⟨rfl, rfl, rfl⟩ := hcs
      exact ⟨zs, .inr ⟨_, rfl, hl, hm, by simpa using hz, hcell, hwz⟩⟩
  obtain ⟨a1, len1, cap1, rfl⟩ := okWide_slice Try.underlying22 (hval 1 22 v1 rfl rfl)
  have k1 := h1
  have lt1 : ∀ x ∈ p1, x.block < W.heap.size := by obtain ⟨m, hm⟩ := k1; exact DataW.trod_lt m _ _ _ hm
  obtain ⟨z1, w1⟩ : ∃ zs, IsRow .u8 W a1 len1 cap1 zs := by
    obtain ⟨fuel, hf⟩ := h1
    rcases open_ints Try.underlying22 Try.underlying5 (by kernel_rfl) hf with ⟨hcs, _⟩ | ⟨x, l, c, zs, hcs, _, hl, hm, hz, _, hcell, hwz⟩
    · simp [Value.cells] at hcs
      obtain ⟨rfl, rfl, rfl⟩ := hcs
      exact ⟨[], .inl ⟨rfl, rfl, rfl, rfl⟩⟩
    · simp [Value.cells] at hcs
      obtain ⟨rfl, rfl, rfl⟩ := hcs
      exact ⟨zs, .inr ⟨_, rfl, hl, hm, by simpa using hz, hcell, hwz⟩⟩
  clear hA0 hval0
  refine (walk a0 len0 cap0 z0 a1 len1 cap1 z1 W w0 w1).mono fun e W' ⟨he, bel⟩ => ?_
  subst he
  exact ⟨_, rfl, _, _, _, [], _, [], hW', trodAll_mk1 (shut_bool Try.underlying4 _), (trodAll_cons_mk (Below.trod laidOut (by kernel_rfl) (of_decide_eq_true (by kernel_rfl)) k0 bel lt0) (trodAll_cons_mk (Below.trod laidOut (by kernel_rfl) (of_decide_eq_true (by kernel_rfl)) k1 bel lt1) trodAll_mk0)), rfl, bel.frame _, fun h => by cases h⟩
theorem over : Rows.fnLfsrRow.holds Try.pinned (OpenSpec.ofChange Rows.fnLfsrSpec) :=
  OpenClaim.holds_of_wide 4 Try.f4 rfl rfl rfl rfl rfl rfl rfl ⟨rfl, rfl, rfl, rfl, rfl⟩ rfl rfl rfl rfl rfl (by kernel_rfl) Try.func4 (by kernel_rfl)
    (of_decide_eq_true (by kernel_rfl)) (by unfold Func.isWrapper; first | (rw [if_pos (by decide +kernel)]; kernel_rfl) | (rw [if_neg (by decide +kernel)]; exact ⟨rfl, rfl⟩))
    (fun os started H enc _ => lifted os started H enc)
theorem proved : Rows.FnLfsrSaid := over
#print axioms proved
end Go.Proofs.Ytopehpnelfbboaa.fnLfsr
