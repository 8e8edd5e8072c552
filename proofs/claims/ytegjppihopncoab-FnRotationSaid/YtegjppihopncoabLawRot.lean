/- The law FnRotation: for every argument ([]byte, []byte) the call returns true, and each argument reads afterwards as it read before. No further condition. -/
import Derived.Test.YtegjppihopncoabRows
import Derived.Test.YtegjppihopncoabArg
import Derived.Test.YtegjppihopncoabDie
import Derived.WalkKit
import Derived.ProofKit
import Derived.OpenShut
import Derived.ShutString
import Derived.ChangeOld
import Derived.Below
namespace Go.Proofs.Ytegjppihopncoab.fnRotation
open Go.ChangeShapes Go.WideShapes Go.ChangeAt Go.RowKit
open Go.ChangeMaps (open_string shut_string)
set_option linter.unusedVariables false

theorem walk (a0 : Option Addr) (len0 cap0 : Nat) (z0 : List Int) (a1 : Option Addr) (len1 cap1 : Nat) (z1 : List Int) (w : World) (w0 : IsRow .u8 w a0 len0 cap0 z0) (w1 : IsRow .u8 w a1 len1 cap1 z1) :
    Calls Try.prog 3 #[.slice a0 len0 cap0, .slice a1 len1 cap1] w fun e w' => e = .returned (.bool true) ∧ Below w.heap.size w w' := by
  have b0 := w0.len
  have b1 := w1.len
  by_cases hl : len0 ≤ 1048576 ∧ len1 ≤ 1048576
  · obtain ⟨hl0, hl1⟩ := hl
    have hc0 := w0.code hl0
    have hc1 := w1.code hl1
    have HX := Lib.hid (b10At_any _ _ 0 256 w hc0 (by omega) (by omega) (by omega))
    have HY := Lib.hid (b10At_any _ _ 1 256 w hc0 (by omega) (by omega) (by omega))
    have HZ := Lib.hid (b10At_any _ _ 0 7 w hc1 (by omega) (by omega) (by omega))
    clear w0 w1 hc0 hc1
    go_enter Try.func3, Try.ntmps3
    go_wp2_with fail
    refine (long_no _ _ _ _ _ _ _ hl0 hl1).mono ?_
    rintro e w' ⟨rfl, rfl⟩
    go_wp2_with fail
    refine HX.out.mono ?_
    rintro e w' ⟨x, rfl, hx0, hx1, rfl⟩
    go_wp2_with fail
    refine HY.out.mono ?_
    rintro e w' ⟨y, rfl, hy0, hy1, rfl⟩
    go_wp2_with fail
    refine HZ.out.mono ?_
    rintro e w' ⟨z, rfl, hz0, hz1, rfl⟩
    go_wp2_with fail
    have hrow : InRow (256 * x + y) (2 + z) := by unfold InRow; omega
    obtain ⟨r, hr⟩ : ∃ r, r = 256 * x + y := ⟨_, rfl⟩
    obtain ⟨d, hd⟩ : ∃ d, d = 2 + z := ⟨_, rfl⟩
    rw [← hr, ← hd] at hrow ⊢
    have hr1 : r ≤ 65535 := by omega
    clear hr hd HX HY HZ hx0 hx1 hy0 hy1 hz0 hz1
    have H := Lib.hid hrow
    obtain ⟨hr0, _, hd2, hd8⟩ := hrow
    go_loop [7] (fun i => ∃ k : Int, 0 ≤ k ∧ k ≤ d ∧ i = .int .i64 k) (fun i => (d - intOf i).toNat)
    case atStart => exact ⟨0, by omega, by omega, rfl⟩
    case round =>
      obtain ⟨k, hk0, hk1, rfl⟩ := hrel
      by_cases hkd : k < d
      · have hkd1 : k ≤ d - 1 := by omega
        have HU := Lib.hid (fun (W : World) => implUnit_yes r k d W H.out hk0 hkd1)
        have HP := Lib.hid (fun (W : World) => implPar_yes r d W H.out)
        have HP2 := Lib.hid (fun (W : World) => implPar_yes (r + k) d W ⟨by omega, by omega, hd2, hd8⟩)
        have hmv : 0 < k → (parD r d == parD (r + k) d) = false := fun h => by simpa using par_moves r k d H.out h hkd1
        obtain ⟨u0, u1⟩ := unit_bd r k d hd2
        have hpu := par_unit r k d H.out hk0 hkd1
        have hdu := fun a b => dat_iff r (unitD r k d) k d H.out a b hk0 hkd1
        have HD := Lib.hid (fun (W : World) (a : 0 ≤ unitD r k d) (b : unitD r k d ≤ d - 2) => implDat_yes r (unitD r k d) d W H.out a b)
        generalize unitD r k d = u at *
        generalize parD (r + k) d = q at *
        by_cases hu : u = d - 1
        · have hpk := hpu.1 hu
          subst hu
          rw [hpk] at HP hmv
          clear hpu hpk hdu HD
          have hq : (k != k) = false := by simp
          by_cases hkz : 0 < k
          · have hm := hmv hkz
            clear hmv
            go_wp2_with (first
              | (go_at_call 7; refine (HU.out _).mono ?_; rintro e w' ⟨rfl, rfl⟩)
              | (go_at_call 8; with_reducible refine (HP.out _).mono ?_; rintro e w' ⟨rfl, rfl⟩)
              | (go_at_call 8; refine (HP2.out _).mono ?_; rintro e w' ⟨rfl, rfl⟩))
            go_round
            case rel => exact ⟨k + 1, by omega, by omega, rfl⟩
            case measure => simp [intOf]; omega
          · obtain rfl : k = 0 := by omega
            clear hmv
            go_wp2_with (first
              | (go_at_call 7; refine (HU.out _).mono ?_; rintro e w' ⟨rfl, rfl⟩)
              | (go_at_call 8; with_reducible refine (HP.out _).mono ?_; rintro e w' ⟨rfl, rfl⟩))
            go_round
            case rel => exact ⟨1, by omega, by omega, rfl⟩
            case measure => simp [intOf]; omega
        · have hE := (hdu u0 u1).2 rfl
          have HD1 := Lib.hid (fun (W : World) => HD.out W u0 (by omega))
          rw [hE] at HD1
          have hu2 : u < d - 1 := by omega
          have hub : (u == d - 1) = false := by simpa using hu
          have hq : (k != k) = false := by simp
          generalize parD r d = p at *
          clear hpu hdu HD hE hu
          by_cases hkz : 0 < k
          · have hm := hmv hkz
            clear hmv
            go_wp2_with (first
              | (go_at_call 7; refine (HU.out _).mono ?_; rintro e w' ⟨rfl, rfl⟩)
              | (go_at_call 9; refine (HD1.out _).mono ?_; rintro e w' ⟨rfl, rfl⟩)
              | (go_at_call 8; with_reducible refine (HP.out _).mono ?_; rintro e w' ⟨rfl, rfl⟩)
              | (go_at_call 8; refine (HP2.out _).mono ?_; rintro e w' ⟨rfl, rfl⟩))
            go_round
            case rel => exact ⟨k + 1, by omega, by omega, rfl⟩
            case measure => simp [intOf]; omega
          · obtain rfl : k = 0 := by omega
            clear hmv
            go_wp2_with (first
              | (go_at_call 7; refine (HU.out _).mono ?_; rintro e w' ⟨rfl, rfl⟩)
              | (go_at_call 9; refine (HD1.out _).mono ?_; rintro e w' ⟨rfl, rfl⟩))
            go_round
            case rel => exact ⟨1, by omega, by omega, rfl⟩
            case measure => simp [intOf]; omega
      · obtain rfl : k = d := by omega
        go_wp2
        go_ret
        exact ⟨rfl, Below.refl _ _⟩
  · go_enter Try.func3, Try.ntmps3
    go_wp2_with (go_at_call 5; refine (long_yes _ _ _ _ _ _ _ b0 b1 hl).mono ?_; rintro e w' ⟨rfl, rfl⟩)
    go_ret
    exact ⟨rfl, Below.refl _ _⟩

theorem own : ownKnob Try.prog.godebug = none := by kernel_rfl
theorem laidOut : laidOutB Try.prog = true := by kernel_rfl
set_option maxRecDepth 100000 in
theorem lifted (os : Os) (started : os.Started) (H : Type) (enc : TypeId × Value → H) :
    ReturnsInHanded {} Try.checked os 3 .any (Rows.fnRotationSpec.pre6 enc Try.prog Try.f3 Rows.fnRotationRow.domain false) (Rows.fnRotationSpec.post enc Try.prog Try.f3 false true false false) := by
  refine returnsInHanded_of_change (C := Try.checked) own started (by kernel_rfl) Try.func3
    (ChangeSpec.witness6 (enc := enc) (C := Try.checked) false ⟨#[], #[.slice none 0 0, .slice none 0 0], []⟩ 8 (by kernel_rfl) (by kernel_rfl) (by kernel_rfl) (by kernel_rfl)) ?_
  intro W base args ds gs before hval0 hW hcnd _
  have hval : ∀ (j : Nat) t v, Try.f3.params[j]? = some t → args[j]? = some v → Value.okWide Try.prog W .any base t v := hval0
  have hW' := hW
  obtain ⟨p, q, hA0, hV, rfl, hfz, hnd⟩ := hW
  have hA : DataW.TrodAll enc Try.prog W 0 (fun _ => true) true Try.f3.params.toList args.toList ds p := hA0
  rw [Try.params3] at hA hval
  obtain ⟨v0, vs0, d0, ds0, p0, q0, hargs, rfl, rfl, h0, r0⟩ := trodAll_cons hA
  obtain ⟨v1, vs1, d1, ds1, p1, q1, rfl, rfl, rfl, h1, r1⟩ := trodAll_cons r0
  obtain ⟨rfl, rfl, rfl⟩ := trodAll_nil r1
  obtain rfl : args = #[v0, v1] := by cases args; simp_all
  obtain ⟨rfl, rfl⟩ := trodVars_none hV
  obtain ⟨a0, len0, cap0, rfl⟩ := okWide_slice Try.underlying22 (hval 0 22 v0 rfl rfl)
  have k0 := h0
  have lt0 : ∀ x ∈ p0, x.block < W.heap.size := by obtain ⟨m, hm⟩ := k0; exact DataW.trod_lt m _ _ _ hm
  obtain ⟨z0, w0⟩ : ∃ zs, IsRow .u8 W a0 len0 cap0 zs := by
    obtain ⟨fuel, hf⟩ := h0
    rcases open_ints Try.underlying22 Try.underlying5 (by kernel_rfl) hf with ⟨hcs, _⟩ | ⟨x, l, c, zs, hcs, _, hl, hm, hz, _, hcell, hwz⟩
    · simp [Value.cells] at hcs
      obtain ⟨rfl, rfl, rfl⟩ := hcs
      exact ⟨[], .inl ⟨rfl, rfl, rfl, rfl⟩⟩
    · simp [Value.cells] at hcs
      obtain ⟨rfl, rfl, rfl⟩ := hcs
      exact ⟨zs, .inr ⟨_, rfl, hl, hm, by simpa using hz, hcell, hwz⟩⟩
  obtain ⟨a1, len1, cap1, rfl⟩ := okWide_slice Try.underlying22 (hval 1 22 v1 rfl rfl)
  have k1 := h1
  have lt1 : ∀ x ∈ p1, x.block < W.heap.size := by obtain ⟨m, hm⟩ := k1; exact DataW.trod_lt m _ _ _ hm
  obtain ⟨z1, w1⟩ : ∃ zs, IsRow .u8 W a1 len1 cap1 zs := by
    obtain ⟨fuel, hf⟩ := h1
    rcases open_ints Try.underlying22 Try.underlying5 (by kernel_rfl) hf with ⟨hcs, _⟩ | ⟨x, l, c, zs, hcs, _, hl, hm, hz, _, hcell, hwz⟩
    · simp [Value.cells] at hcs
      obtain ⟨rfl, rfl, rfl⟩ := hcs
      exact ⟨[], .inl ⟨rfl, rfl, rfl, rfl⟩⟩
    · simp [Value.cells] at hcs
      obtain ⟨rfl, rfl, rfl⟩ := hcs
      exact ⟨zs, .inr ⟨_, rfl, hl, hm, by simpa using hz, hcell, hwz⟩⟩
  clear hA0 hval0
  refine (walk a0 len0 cap0 z0 a1 len1 cap1 z1 W w0 w1).mono fun e W' ⟨he, bel⟩ => ?_
  subst he
  exact ⟨_, rfl, _, _, _, [], _, [], hW', trodAll_mk1 (shut_bool Try.underlying4 _), (trodAll_cons_mk (Below.trod laidOut (by kernel_rfl) (of_decide_eq_true (by kernel_rfl)) k0 bel lt0) (trodAll_cons_mk (Below.trod laidOut (by kernel_rfl) (of_decide_eq_true (by kernel_rfl)) k1 bel lt1) trodAll_mk0)), rfl, bel.frame _, fun h => by cases h⟩
theorem over : Rows.fnRotationRow.holds Try.pinned (OpenSpec.ofChange Rows.fnRotationSpec) :=
  OpenClaim.holds_of_wide 3 Try.f3 rfl rfl rfl rfl rfl rfl rfl ⟨rfl, rfl, rfl, rfl, rfl⟩ rfl rfl rfl rfl rfl (by kernel_rfl) Try.func3 (by kernel_rfl)
    (of_decide_eq_true (by kernel_rfl)) (by unfold Func.isWrapper; first | (rw [if_pos (by decide +kernel)]; kernel_rfl) | (rw [if_neg (by decide +kernel)]; exact ⟨rfl, rfl⟩))
    (fun os started H enc _ => lifted os started H enc)
theorem proved : Rows.FnRotationSaid := over
#print axioms proved
end Go.Proofs.Ytegjppihopncoab.fnRotation
