/- Which metadata are valid: the program. -/
import Derived.Test.YtfnccbanmgfkeabDoorProg
import Derived.Test.YtfnccbanmgfkeabDoorMtN
namespace Go.Proofs.YtfnccbanmgfkeabDoor
open Go.RowKit
set_option linter.unusedVariables false
set_option maxHeartbeats 2000000 in
theorem validRecord_any (k l s f c : Int) (r : Bool) (w : World) (hr : r = true ↔ ((0 ≤ l ∧ l ≤ 47) ∧ (1 ≤ s ∧ s ≤ 1000000))) :
    Calls Tryd.prog 72 #[.agg #[.int .i64 k, .int .i64 l, .int .i64 s, .int .i64 f, .int .i64 c]] w fun x w' => x = .returned (.bool r) ∧ Below w.heap.size w w' := by
  have B0 := Lib.hid ((Below.refl w.heap.size w).alloc (Nat.le_refl _) (.cells #[.int .i64 k, .int .i64 l, .int .i64 s, .int .i64 f, .int .i64 c] 25))
  obtain ⟨b1, hb1⟩ : ∃ b, b = decide (0 ≤ l) := ⟨_, rfl⟩
  obtain ⟨b2, hb2⟩ : ∃ b, b = decide (l < 48) := ⟨_, rfl⟩
  obtain ⟨b3, hb3⟩ : ∃ b, b = decide (1 ≤ s) := ⟨_, rfl⟩
  obtain ⟨b4, hb4⟩ : ∃ b, b = decide (s ≤ 1000000) := ⟨_, rfl⟩
  have hrr : r = (b1 && b2 && b3 && b4) := by
    rw [Bool.eq_iff_iff, hr, hb1, hb2, hb3, hb4]
    simp
    omega
  have e1 := hb1.symm
  have e2 := hb2.symm
  have e3 := hb3.symm
  have e4 := hb4.symm
  clear hb1 hb2 hb3 hb4 hr
  subst hrr
  cases b1 <;> cases b2 <;> cases b3 <;> (
    go_enter Tryd.func72, Tryd.ntmps72
    go_wp2
    go_ret
    exact ⟨ret_bool (by simp), B0.out⟩)
set_option maxHeartbeats 4000000 in
theorem implMeta_any (k l s f c : Int) (r : Bool) (w : World) (hr : r = true ↔ MetaOk k l s f c) :
    Calls Tryd.prog 33 #[.agg #[.int .i64 k, .int .i64 l, .int .i64 s, .int .i64 f, .int .i64 c]] w fun x w' => x = .returned (.bool r) ∧ Below w.heap.size w w' := by
  have B0 := Lib.hid ((Below.refl w.heap.size w).alloc (Nat.le_refl _) (.cells #[.int .i64 k, .int .i64 l, .int .i64 s, .int .i64 f, .int .i64 c] 25))
  have R0 := Lib.hid (Rw.new w 25 #[.int .i64 k, .int .i64 l, .int .i64 s, .int .i64 f, .int .i64 c])
  obtain ⟨rv, hrv⟩ := prop_dec' ((0 ≤ l ∧ l ≤ 47) ∧ (1 ≤ s ∧ s ≤ 1000000))
  have HV := Lib.hid (fun (W : World) => validRecord_any k l s f c rv W hrv)
  have hz : (w.alloc (.cells #[.int .i64 k, .int .i64 l, .int .i64 s, .int .i64 f, .int .i64 c] 25)).heap.size = w.heap.size + 1 := by simp
  by_cases h13 : k = 1 ∨ k = 3
  · have hk := h13
    have dk : (k == 1) = true ∨ ((k == 1) = false ∧ (k == 3) = true) := by rcases h13 with rfl | rfl <;> simp
    cases rv with
    | false =>
      obtain rfl : r = false := not_true hr (fun e => by
        have : ¬ ((0 ≤ l ∧ l ≤ 47) ∧ (1 ≤ s ∧ s ≤ 1000000)) := fun q => by have := hrv.2 q; cases this
        unfold MetaOk at e; omega)
      clear hr hrv
      rcases h13 with rfl | rfl <;> (
        go_enter Tryd.func33, Tryd.ntmps33
        go_wp2_with fail
        refine (HV.out _).mono ?_
        rintro e w1 ⟨rfl, b1⟩
        rw [hz] at b1
        have B1 := Lib.hid (B0.out.trans (b1.mono (by omega)))
        clear b1
        go_wp2
        go_ret
        exact ⟨rfl, B1.out⟩)
    | true =>
      have hv := hrv.1 rfl
      have key : (f = 0 ∧ c = 0 ∧ r = true) ∨ (f = 0 ∧ ¬ c = 0 ∧ r = false) ∨ (¬ f = 0 ∧ r = false) := by
        by_cases hf : f = 0
        · by_cases hc : c = 0
          · exact .inl ⟨hf, hc, hr.2 (by unfold MetaOk; omega)⟩
          · exact .inr (.inl ⟨hf, hc, not_true hr (by unfold MetaOk; omega)⟩)
        · exact .inr (.inr ⟨hf, not_true hr (by unfold MetaOk; omega)⟩)
      clear hr hrv hv
      rcases h13 with rfl | rfl <;> rcases key with ⟨rfl, rfl, rfl⟩ | ⟨rfl, hc, rfl⟩ | ⟨hf, rfl⟩ <;> (
        go_enter Tryd.func33, Tryd.ntmps33
        go_wp2_with fail
        refine (HV.out _).mono ?_
        rintro e w1 ⟨rfl, b1⟩
        rw [hz] at b1
        have B1 := Lib.hid (B0.out.trans (b1.mono (by omega)))
        obtain ⟨c0, c1, c2, c3, c4⟩ := (Lib.hid (R0.out.below b1 (by omega))).out.five
        clear b1
        go_wp2
        go_ret
        exact ⟨rfl, B1.out⟩)
  have dk1 : (k == 1) = false := by simp; omega
  have dk3 : (k == 3) = false := by simp; omega
  by_cases h2 : k = 2
  case neg =>
    have dk2 : (k == 2) = false := by simpa using h2
    by_cases h4 : k = 4 ∧ l = 0 ∧ s = 0 ∧ f = 0 ∧ c = 0
    · obtain ⟨rfl, rfl, rfl, rfl, rfl⟩ := h4
      obtain rfl : r = true := hr.2 (.inl ⟨rfl, rfl, rfl, rfl, rfl⟩)
      clear HV hr hrv
      go_enter Tryd.func33, Tryd.ntmps33
      go_wp2
      go_ret
      exact ⟨rfl, B0.out⟩
    · obtain rfl : r = false := not_true hr (fun e => by unfold MetaOk at e; omega)
      clear HV hr hrv R0 hz
      by_cases g1 : k = 4
      case neg =>
        go_enter Tryd.func33, Tryd.ntmps33
        go_wp2
        go_ret
        exact ⟨rfl, B0.out⟩
      subst g1
      by_cases g2 : l = 0
      case neg =>
        go_enter Tryd.func33, Tryd.ntmps33
        go_wp2
        go_ret
        exact ⟨rfl, B0.out⟩
      subst g2
      by_cases g3 : s = 0
      case neg =>
        go_enter Tryd.func33, Tryd.ntmps33
        go_wp2
        go_ret
        exact ⟨rfl, B0.out⟩
      subst g3
      by_cases g4 : f = 0
      case neg =>
        go_enter Tryd.func33, Tryd.ntmps33
        go_wp2
        go_ret
        exact ⟨rfl, B0.out⟩
      subst g4
      have g5 : ¬ c = 0 := fun e => h4 ⟨rfl, rfl, rfl, rfl, e⟩
      clear h4
      go_enter Tryd.func33, Tryd.ntmps33
      go_wp2
      go_ret
      exact ⟨rfl, B0.out⟩
  have dk2 : (k == 2) = true := by simpa using h2
  cases rv with
  | false =>
    obtain rfl : r = false := not_true hr (fun e => by
      have : ¬ ((0 ≤ l ∧ l ≤ 47) ∧ (1 ≤ s ∧ s ≤ 1000000)) := fun q => by have := hrv.2 q; cases this
      unfold MetaOk at e; omega)
    clear hr hrv h13 h2
    go_enter Tryd.func33, Tryd.ntmps33
    go_wp2_with fail
    refine (HV.out _).mono ?_
    rintro e w1 ⟨rfl, b1⟩
    rw [hz] at b1
    have B1 := Lib.hid (B0.out.trans (b1.mono (by omega)))
    clear b1
    go_wp2
    go_ret
    exact ⟨rfl, B1.out⟩
  | true =>
    have hv := hrv.1 rfl
    have q1 := hv.2.1
    have q2 := hv.2.2
    obtain ⟨b1, hb1⟩ : ∃ b, b = decide (1 ≤ c) := ⟨_, rfl⟩
    obtain ⟨b2, hb2⟩ : ∃ b, b = decide (c ≤ 4) := ⟨_, rfl⟩
    obtain ⟨b3, hb3⟩ : ∃ b, b = decide (1 ≤ f) := ⟨_, rfl⟩
    obtain ⟨b4, hb4⟩ : ∃ b, b = decide (f ≤ s) := ⟨_, rfl⟩
    have HRR := Lib.hid (show r = (b1 && b2 && b3 && b4 && decide (s ≤ f + c - 1)) from by
      rw [Bool.eq_iff_iff, hr, hb1, hb2, hb3, hb4]
      unfold MetaOk
      simp
      omega)
    have hbb : b1 = true → b2 = true → b3 = true → b4 = true → (1 ≤ c ∧ c ≤ 4 ∧ 1 ≤ f ∧ f ≤ s) := by
      rw [hb1, hb2, hb3, hb4]; simp; omega
    have HBB := Lib.hid hbb
    have e1 := hb1.symm
    have e2 := hb2.symm
    have e3 := hb3.symm
    have e4 := hb4.symm
    clear hb1 hb2 hb3 hb4 hr hrv hv hbb h13 h2
    by_cases hall : b1 = true ∧ b2 = true ∧ b3 = true ∧ b4 = true
    · obtain ⟨rfl, rfl, rfl, rfl⟩ := hall
      obtain ⟨g1, g2, g3, g4⟩ := HBB.out rfl rfl rfl rfl
      go_enter Tryd.func33, Tryd.ntmps33
      go_wp2_with fail
      refine (HV.out _).mono ?_
      rintro e w1 ⟨rfl, b1⟩
      rw [hz] at b1
      have B1 := Lib.hid (B0.out.trans (b1.mono (by omega)))
      obtain ⟨c0, c1, c2, c3, c4⟩ := (Lib.hid (R0.out.below b1 (by omega))).out.five
      clear b1
      go_wp2
      go_ret
      exact ⟨by rw [HRR.out]; rfl, B1.out⟩
    · have HR2 := Lib.hid (show r = false from by rw [HRR.out]; cases b1 <;> cases b2 <;> cases b3 <;> cases b4 <;> simp_all)
      clear HRR HBB
      cases b1 <;> cases b2 <;> cases b3 <;> cases b4 <;> first | (exact absurd ⟨rfl, rfl, rfl, rfl⟩ hall) | (
        clear hall
        go_enter Tryd.func33, Tryd.ntmps33
        go_wp2_with fail
        refine (HV.out _).mono ?_
        rintro e w1 ⟨rfl, b1⟩
        rw [hz] at b1
        have B1 := Lib.hid (B0.out.trans (b1.mono (by omega)))
        obtain ⟨c0, c1, c2, c3, c4⟩ := (Lib.hid (R0.out.below b1 (by omega))).out.five
        clear b1
        go_wp2
        go_ret
        exact ⟨ret_bool HR2.out.symm, B1.out⟩)
end Go.Proofs.YtfnccbanmgfkeabDoor
