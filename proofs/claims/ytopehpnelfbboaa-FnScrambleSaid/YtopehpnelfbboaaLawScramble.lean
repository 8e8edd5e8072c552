/- The law FnScramble: for every argument ([]byte, []byte) the call returns true, and each argument reads afterwards as it read before. No further condition. -/
import Derived.Test.YtopehpnelfbboaaRows
import Derived.Test.YtopehpnelfbboaaByte
import Derived.Test.YtopehpnelfbboaaDraw2
import Derived.Test.YtopehpnelfbboaaScr
import Derived.Test.YtopehpnelfbboaaScrN
import Derived.WalkKit
import Derived.ProofKit
import Derived.OpenShut
import Derived.ShutString
import Derived.ChangeOld
import Derived.Below
namespace Go.Proofs.Ytopehpnelfbboaa.fnScramble
open Go.ChangeShapes Go.WideShapes Go.ChangeAt Go.RowKit
open Go.ChangeMaps (open_string shut_string)
set_option linter.unusedVariables false

theorem walk (a0 : Option Addr) (len0 cap0 : Nat) (z0 : List Int) (a1 : Option Addr) (len1 cap1 : Nat) (z1 : List Int) (w : World) (w0 : IsRow .u8 w a0 len0 cap0 z0) (w1 : IsRow .u8 w a1 len1 cap1 z1) :
    Calls Try.prog 5 #[.slice a0 len0 cap0, .slice a1 len1 cap1] w fun e w' => e = .returned (.bool true) ∧ Below w.heap.size w w' := by
  have b0 := w0.len
  have b1 := w1.len
  by_cases hl : len0 ≤ 1048576 ∧ len1 ≤ 1048576
  · obtain ⟨hl0, hl1⟩ := hl
    have hc0 := w0.code hl0
    clear w0 w1
    go_enter Try.func5, Try.ntmps5
    go_wp2_with fail
    refine (long_no _ _ _ _ _ _ _ hl0 hl1).mono ?_
    rintro e w' ⟨rfl, rfl⟩
    go_wp2_with fail
    refine (drawScramble_any _ _ hc0).mono ?_
    rintro e w1 ⟨v, rfl, ⟨p, s, rfl, hp0, hp1, hs⟩, hb⟩
    clear hc0
    have hz := hb.size
    by_cases hv : (0 ≤ p ∧ p ≤ 65534) ∧ s.size ≤ 256
    · obtain ⟨⟨h0, h1⟩, h2⟩ := hv
      obtain ⟨K, hK⟩ : ∃ K, K = strOfNums (streamL (p.toNat + 1) s.size) := ⟨_, rfl⟩
      have hKs : K.size = s.size := by rw [hK, strOfNums_size, streamL_length]
      obtain ⟨x, hx⟩ : ∃ x, x = strOfNums (xorL s K s.size) := ⟨_, rfl⟩
      have hxs : x.size = s.size := by rw [hx, strOfNums_size, xorL_length]
      have hback : strOfNums (xorL x K s.size) = s := by rw [hx]; exact twice_back s K
      have S1 := fun (W : World) => implScr_yes p s W h0 h1 h2
      rw [← hK, ← hx] at S1
      have S2 := fun (W : World) => implScr_yes p x W h0 h1 (by omega)
      rw [hxs, ← hK, hback] at S2
      obtain ⟨z, hzz⟩ : ∃ z, z = strOfNums (List.replicate s.size 0) := ⟨_, rfl⟩
      have hzs : z.size = s.size := by rw [hzz, strOfNums_size, List.length_replicate]
      have S3 := fun (W : World) => implScr_yes p z W h0 h1 (by omega)
      rw [hzs, ← hK, hzz, zeros_key K s.size hKs, ← hzz] at S3
      obtain ⟨n, rfl⟩ := Int.eq_ofNat_of_zero_le h0
      rw [Int.toNat_natCast] at hK
      have S4 := fun (W : World) => implKey_yes (n + 1) s.size W (by omega) (by omega) h2
      rw [← hK, show ((n + 1 : Nat) : Int) = (n : Int) + 1 from rfl] at S4
      have H1 := Lib.hid S1
      have H2 := Lib.hid S2
      have H3 := Lib.hid S3
      have H4 := Lib.hid S4
      have HZ := Lib.hid hzz
      have HX := Lib.hid hxs
      clear S1 S2 S3 S4 hzz hzs hx hback hK hxs hKs
      go_wp2_with fail
      refine (H1.out _).mono ?_
      rintro e w2 ⟨rfl, hb2⟩
      go_wp2_with fail
      refine (H2.out _).mono ?_
      rintro e w3 ⟨rfl, hb3⟩
      go_wp2_with (refine wpList_make_bytes rfl _ _ rfl _ _ _ _ s.size rfl rfl rfl rfl (by omega) (Below.refl _ _) (Nat.le_refl _) ?_; intro w4 hown hb4; have hcv := bytes_str hown; rw [← HZ.out] at hcv)
      refine (H3.out _).mono ?_
      rintro e w5 ⟨rfl, hb5⟩
      go_wp2_with fail
      refine (implSeed_yes _ _ (by omega) h1).mono ?_
      rintro e w' ⟨rfl, rfl⟩
      go_wp2_with fail
      refine (H4.out _).mono ?_
      rintro e w6 ⟨rfl, hb6⟩
      have hxs := HX.out
      go_wp2
      go_ret
      have z2 := hb2.size
      have z3 := hb3.size
      have z4 := hb4.size
      have z5 := hb5.size
      exact ⟨rfl, (((((hb.trans (hb2.mono hz)).trans (hb3.mono (by omega))).trans (hb4.mono (by omega))).trans (hb5.mono (by omega))).trans (hb6.mono (by omega)))⟩
    · have hv' : (p < 0 ∨ 65534 < p) ∨ 256 < s.size := by omega
      have S1 := fun (W : World) => implScr_no p s W hv' (by omega)
      have H1 := Lib.hid S1
      clear S1
      by_cases e1 : p < 0
      · clear hv hv'
        go_wp2_with (go_at_call 25; refine (H1.out _).mono ?_; rintro e w2 ⟨rfl, hb2⟩)
        go_ret
        exact ⟨rfl, hb.trans (hb2.mono hz)⟩
      · by_cases e2 : 65534 < p
        · have d1 : decide (p < 0) = false := by simpa using e1
          clear hv hv'
          go_wp2_with (go_at_call 25; refine (H1.out _).mono ?_; rintro e w2 ⟨rfl, hb2⟩)
          go_ret
          exact ⟨ret_bool (by first | rfl | simp [e2]), hb.trans (hb2.mono hz)⟩
        · have d1 : decide (p < 0) = false := by simpa using e1
          have d2 : decide (65534 < p) = false := by simpa using e2
          have e3 : 256 < (s.size : Int) := by omega
          clear hv hv'
          go_wp2_with (go_at_call 25; refine (H1.out _).mono ?_; rintro e w2 ⟨rfl, hb2⟩)
          go_ret
          exact ⟨ret_bool (by first | rfl | simp [e3]), hb.trans (hb2.mono hz)⟩
  · go_enter Try.func5, Try.ntmps5
    go_wp2_with (go_at_call 8; refine (long_yes _ _ _ _ _ _ _ b0 b1 hl).mono ?_; rintro e w' ⟨rfl, rfl⟩)
    go_ret
    exact ⟨rfl, Below.refl _ _⟩

theorem own : ownKnob Try.prog.godebug = none := by kernel_rfl
theorem laidOut : laidOutB Try.prog = true := by kernel_rfl
set_option maxRecDepth 100000 in
theorem lifted (os : Os) (started : os.Started) (H : Type) (enc : TypeId × Value → H) :
    ReturnsInHanded {} Try.checked os 5 .any (Rows.fnScrambleSpec.pre6 enc Try.prog Try.f5 Rows.fnScrambleRow.domain false) (Rows.fnScrambleSpec.post enc Try.prog Try.f5 false true false false) := by
  refine returnsInHanded_of_change (C := Try.checked) own started (by kernel_rfl) Try.func5
    (ChangeSpec.witness6 (enc := enc) (C := Try.checked) false ⟨#[], #[.slice none 0 0, .slice none 0 0], []⟩ 8 (by kernel_rfl) (by kernel_rfl) (by kernel_rfl) (by kernel_rfl)) ?_
  intro W base args ds gs before hval0 hW hcnd _
  have hval : ∀ (j : Nat) t v, Try.f5.params[j]? = some t → args[j]? = some v → Value.okWide Try.prog W .any base t v := hval0
  have hW' := hW
  obtain ⟨p, q, hA0, hV, rfl, hfz, hnd⟩ := hW
  have hA : DataW.TrodAll enc Try.prog W 0 (fun _ => true) true Try.f5.params.toList args.toList ds p := hA0
  rw [Try.params5] at hA hval
  obtain ⟨v0, vs0, d0, ds0, p0, q0, hargs, rfl, rfl, h0, r0⟩ := trodAll_cons hA
  obtain ⟨v1, vs1, d1, ds1, p1, q1, rfl, rfl, rfl, h1, r1⟩ := trodAll_cons r0
  obtain ⟨rfl, rfl, rfl⟩ := trodAll_nil r1
  obtain rfl : args = #[v0, v1] := by cases args; simp_all
  obtain ⟨rfl, rfl⟩ := trodVars_none hV
  obtain ⟨a0, len0, cap0, rfl⟩ := okWide_slice Try.underlying22 (hval 0 22 v0 rfl rfl)
  have k0 := h0
  have lt0 : ∀ x ∈ p0, x.block < W.heap.size := by obtain ⟨m, hm⟩ := k0; exact DataW.trod_lt m _ _ _ hm
  obtain ⟨z0, w0⟩ : ∃ zs, IsRow .u8 W a0 len0 cap0 zs := by
    obtain ⟨fuel, hf⟩ := h0
    rcases open_ints Try.underlying22 Try.underlying5 (by kernel_rfl) hf with ⟨hcs, _⟩ | ⟨x, l, c, zs, hcs, _, hl, hm, hz, _, hcell, hwz⟩
    · simp [Value.cells] at hcs
      obtain ⟨rfl, rfl, rfl⟩ := hcs
      exact ⟨[], .inl ⟨rfl, rfl, rfl, rfl⟩⟩
    · simp [Value.cells] at hcs
      obtain ⟨rfl, rfl, rfl⟩ := hcs
      exact ⟨zs, .inr ⟨_, rfl, hl, hm, by simpa using hz, hcell, hwz⟩⟩
  obtain ⟨a1, len1, cap1, rfl⟩ := okWide_slice Try.underlying22 (hval 1 22 v1 rfl rfl)
  have k1 := h1
  have lt1 : ∀ x ∈ p1, x.block < W.heap.size := by obtain ⟨m, hm⟩ := k1; exact DataW.trod_lt m _ _ _ hm
  obtain ⟨z1, w1⟩ : ∃ zs, IsRow .u8 W a1 len1 cap1 zs := by
    obtain ⟨fuel, hf⟩ := h1
    rcases open_ints Try.underlying22 Try.underlying5 (by kernel_rfl) hf with ⟨hcs, _⟩ | ⟨x, l, c, zs, hcs, _, hl, hm, hz, _, hcell, hwz⟩
    · simp [Value.cells] at hcs
      obtain ⟨rfl, rfl, rfl⟩ := hcs
      exact ⟨[], .inl ⟨rfl, rfl, rfl, rfl⟩⟩
    · simp [Value.cells] at hcs
      obtain ⟨rfl, rfl, rfl⟩ := hcs
      exact ⟨zs, .inr ⟨_, rfl, hl, hm, by simpa using hz, hcell, hwz⟩⟩
  clear hA0 hval0
  refine (walk a0 len0 cap0 z0 a1 len1 cap1 z1 W w0 w1).mono fun e W' ⟨he, bel⟩ => ?_
  subst he
  exact ⟨_, rfl, _, _, _, [], _, [], hW', trodAll_mk1 (shut_bool Try.underlying4 _), (trodAll_cons_mk (Below.trod laidOut (by kernel_rfl) (of_decide_eq_true (by kernel_rfl)) k0 bel lt0) (trodAll_cons_mk (Below.trod laidOut (by kernel_rfl) (of_decide_eq_true (by kernel_rfl)) k1 bel lt1) trodAll_mk0)), rfl, bel.frame _, fun h => by cases h⟩
theorem over : Rows.fnScrambleRow.holds Try.pinned (OpenSpec.ofChange Rows.fnScrambleSpec) :=
  OpenClaim.holds_of_wide 5 Try.f5 rfl rfl rfl rfl rfl rfl rfl ⟨rfl, rfl, rfl, rfl, rfl⟩ rfl rfl rfl rfl rfl (by kernel_rfl) Try.func5 (by kernel_rfl)
    (of_decide_eq_true (by kernel_rfl)) (by unfold Func.isWrapper; first | (rw [if_pos (by decide +kernel)]; kernel_rfl) | (rw [if_neg (by decide +kernel)]; exact ⟨rfl, rfl⟩))
    (fun os started H enc _ => lifted os started H enc)
theorem proved : Rows.FnScrambleSaid := over
#print axioms proved
end Go.Proofs.Ytopehpnelfbboaa.fnScramble
