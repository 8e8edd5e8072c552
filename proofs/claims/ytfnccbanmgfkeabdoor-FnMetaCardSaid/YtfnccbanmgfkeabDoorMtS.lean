/- Which metadata are valid: the model. -/
import Derived.Test.YtfnccbanmgfkeabDoorProg
import Derived.Test.YtfnccbanmgfkeabDoorMtN
namespace Go.Proofs.YtfnccbanmgfkeabDoor
open Go.RowKit
set_option linter.unusedVariables false
set_option maxHeartbeats 4000000 in
theorem specMeta_any (k l s f c : Int) (r : Bool) (w : World) (hr : r = true ↔ MetaOk k l s f c) :
    Calls Tryd.prog 26 #[.agg #[.int .i64 k, .int .i64 l, .int .i64 s, .int .i64 f, .int .i64 c]] w fun x w' => x = .returned (.bool r) ∧ Below w.heap.size w w' := by
  have B0 := Lib.hid ((Below.refl w.heap.size w).alloc (Nat.le_refl _) (.cells #[.int .i64 k, .int .i64 l, .int .i64 s, .int .i64 f, .int .i64 c] 25))
  by_cases hk : k = 4
  · have dk : (k == 4) = true := by simpa using hk
    obtain ⟨b1, hb1⟩ : ∃ b, b = decide (l = 0) := ⟨_, rfl⟩
    obtain ⟨b2, hb2⟩ : ∃ b, b = decide (s = 0) := ⟨_, rfl⟩
    obtain ⟨b3, hb3⟩ : ∃ b, b = decide (f = 0) := ⟨_, rfl⟩
    obtain ⟨b4, hb4⟩ : ∃ b, b = decide (c = 0) := ⟨_, rfl⟩
    have e1 : (l == 0) = b1 := by rw [hb1]; rfl
    have e2 : (s == 0) = b2 := by rw [hb2]; rfl
    have e3 : (f == 0) = b3 := by rw [hb3]; rfl
    have e4 : (c == 0) = b4 := by rw [hb4]; rfl
    have hrr : r = (b1 && b2 && b3 && b4) := by
      rw [Bool.eq_iff_iff, hr, hb1, hb2, hb3, hb4]
      unfold MetaOk
      simp
      omega
    clear hb1 hb2 hb3 hb4 hr hk
    subst hrr
    cases b1 <;> cases b2 <;> cases b3 <;> (
      go_enter Tryd.func26, Tryd.ntmps26
      go_wp2
      go_ret
      exact ⟨ret_bool (by simp), B0.out⟩)
  have dk : (k == 4) = false := by simpa using hk
  by_cases hl : 0 ≤ l ∧ l ≤ 47
  case neg =>
    obtain rfl := metaNo hr (by unfold MetaOk; omega)
    have HI := Lib.hid (fun (W : World) => inr_no l 0 47 W hl)
    clear hr hl hk
    go_enter Tryd.func26, Tryd.ntmps26
    go_wp2_with (go_at_call 54; with_reducible refine (HI.out _).mono ?_; rintro e w' ⟨rfl, rfl⟩)
    go_ret
    exact ⟨rfl, B0.out⟩
  have HI := Lib.hid (fun (W : World) => inr_yes l 0 47 W hl.1 hl.2)
  by_cases hs : 1 ≤ s ∧ s ≤ 1000000
  case neg =>
    obtain rfl := metaNo hr (by unfold MetaOk; omega)
    have HJ := Lib.hid (fun (W : World) => inr_no s 1 1000000 W hs)
    clear hr hl hk hs
    go_enter Tryd.func26, Tryd.ntmps26
    go_wp2_with (first | (go_at_call 54; with_reducible refine (HI.out _).mono ?_; rintro e w' ⟨rfl, rfl⟩) | (go_at_call 54; with_reducible refine (HJ.out _).mono ?_; rintro e w' ⟨rfl, rfl⟩))
    go_ret
    exact ⟨rfl, B0.out⟩
  have HJ := Lib.hid (fun (W : World) => inr_yes s 1 1000000 W hs.1 hs.2)
  by_cases h13 : k = 1 ∨ k = 3
  · obtain ⟨b3, hb3⟩ : ∃ b, b = decide (f = 0) := ⟨_, rfl⟩
    obtain ⟨b4, hb4⟩ : ∃ b, b = decide (c = 0) := ⟨_, rfl⟩
    have e3 : (f == 0) = b3 := by rw [hb3]; rfl
    have e4 : (c == 0) = b4 := by rw [hb4]; rfl
    have hrr : r = (b3 && b4) := by
      rw [Bool.eq_iff_iff, hr, hb3, hb4]
      unfold MetaOk
      simp
      omega
    clear hb3 hb4 hr hl hs hk dk
    subst hrr
    rcases h13 with rfl | rfl <;> cases b3 <;> (
      go_enter Tryd.func26, Tryd.ntmps26
      go_wp2_with (first | (go_at_call 54; with_reducible refine (HI.out _).mono ?_; rintro e w' ⟨rfl, rfl⟩) | (go_at_call 54; with_reducible refine (HJ.out _).mono ?_; rintro e w' ⟨rfl, rfl⟩))
      go_ret
      exact ⟨ret_bool (by simp), B0.out⟩)
  have dk1 : (k == 1) = false := by simp; omega
  have dk3 : (k == 3) = false := by simp; omega
  by_cases h2 : k = 2
  case neg =>
    have dk2 : (k == 2) = false := by simpa using h2
    obtain rfl := metaNo hr (by unfold MetaOk; omega)
    clear hr hl hk hs h13 h2
    go_enter Tryd.func26, Tryd.ntmps26
    go_wp2_with (first | (go_at_call 54; with_reducible refine (HI.out _).mono ?_; rintro e w' ⟨rfl, rfl⟩) | (go_at_call 54; with_reducible refine (HJ.out _).mono ?_; rintro e w' ⟨rfl, rfl⟩))
    go_ret
    exact ⟨rfl, B0.out⟩
  have dk2 : (k == 2) = true := by simpa using h2
  by_cases hc : 1 ≤ c ∧ c ≤ 4
  case neg =>
    obtain rfl := metaNo hr (by unfold MetaOk; omega)
    have HK := Lib.hid (fun (W : World) => inr_no c 1 4 W hc)
    clear hr hl hk hs h13 h2 hc
    go_enter Tryd.func26, Tryd.ntmps26
    go_wp2_with (first | (go_at_call 54; with_reducible refine (HI.out _).mono ?_; rintro e w' ⟨rfl, rfl⟩) | (go_at_call 54; with_reducible refine (HJ.out _).mono ?_; rintro e w' ⟨rfl, rfl⟩) | (go_at_call 54; with_reducible refine (HK.out _).mono ?_; rintro e w' ⟨rfl, rfl⟩))
    go_ret
    exact ⟨rfl, B0.out⟩
  have HK := Lib.hid (fun (W : World) => inr_yes c 1 4 W hc.1 hc.2)
  by_cases hf : 1 ≤ f ∧ f ≤ s
  case neg =>
    obtain rfl := metaNo hr (by unfold MetaOk; omega)
    have HM := Lib.hid (fun (W : World) => inr_no f 1 s W hf)
    clear hr hl hk hs h13 h2 hc hf
    go_enter Tryd.func26, Tryd.ntmps26
    go_wp2_with (first | (go_at_call 54; with_reducible refine (HI.out _).mono ?_; rintro e w' ⟨rfl, rfl⟩) | (go_at_call 54; with_reducible refine (HJ.out _).mono ?_; rintro e w' ⟨rfl, rfl⟩) | (go_at_call 54; with_reducible refine (HK.out _).mono ?_; rintro e w' ⟨rfl, rfl⟩) | (go_at_call 54; with_reducible refine (HM.out _).mono ?_; rintro e w' ⟨rfl, rfl⟩))
    go_ret
    exact ⟨rfl, B0.out⟩
  have HM := Lib.hid (fun (W : World) => inr_yes f 1 s W hf.1 hf.2)
  have hrr : r = decide (s - f < c) := by
    rw [Bool.eq_iff_iff, hr]
    unfold MetaOk
    simp
    omega
  have q1 := hs.2
  have q2 := hf.1
  have q3 := hf.2
  clear hr hl hk hs h13 h2 hc hf
  subst hrr
  go_enter Tryd.func26, Tryd.ntmps26
  go_wp2_with (first | (go_at_call 54; with_reducible refine (HI.out _).mono ?_; rintro e w' ⟨rfl, rfl⟩) | (go_at_call 54; with_reducible refine (HJ.out _).mono ?_; rintro e w' ⟨rfl, rfl⟩) | (go_at_call 54; with_reducible refine (HK.out _).mono ?_; rintro e w' ⟨rfl, rfl⟩) | (go_at_call 54; with_reducible refine (HM.out _).mono ?_; rintro e w' ⟨rfl, rfl⟩))
  go_ret
  exact ⟨rfl, B0.out⟩
end Go.Proofs.YtfnccbanmgfkeabDoor
