/- Which headers have a text: the model and the program. -/
import Derived.Test.YtnobgapdidpafaaDoorProg
import Derived.Test.YtnobgapdidpafaaDoorHdL
import Derived.Test.YtnobgapdidpafaaDoorGeo
import Derived.Test.YtnobgapdidpafaaDoorHdV161a
import Derived.Test.YtnobgapdidpafaaDoorHdV161b
import Derived.Test.YtnobgapdidpafaaDoorHdV162a
import Derived.Test.YtnobgapdidpafaaDoorHdV162b
import Derived.Test.YtnobgapdidpafaaDoorHdV163a
import Derived.Test.YtnobgapdidpafaaDoorHdV163b
namespace Go.Proofs.YtnobgapdidpafaaDoor
open Go.RowKit
set_option linter.unusedVariables false
set_option linter.unusedSimpArgs false
set_option maxHeartbeats 8000000 in
set_option maxRecDepth 100000 in
theorem l16Ok_any (k z r u i s : Int) (q : Bool) (w : World) (hq : q = true ↔ HdOk k z r u i s) : Calls Tryd.prog 15 #[.agg #[.int .i64 k, .int .i64 z, .int .i64 r, .int .i64 u, .int .i64 i, .int .i64 s]] w fun e w' => e = .returned (.bool q) ∧ Below w.heap.size w w' := by
  have R0 := Lib.hid (Rw.new w 25 #[.int .i64 k, .int .i64 z, .int .i64 r, .int .i64 u, .int .i64 i, .int .i64 s])
  have B0 := Lib.hid ((Below.refl w.heap.size w).alloc (Nat.le_refl _) (.cells #[.int .i64 k, .int .i64 z, .int .i64 r, .int .i64 u, .int .i64 i, .int .i64 s] 25))
  obtain ⟨c0, c1, c2, c3, c4, c5⟩ := R0.out.six
  unfold HdOk at hq
  by_cases h0 : 161 ≤ k ∧ k ≤ 163
  case neg =>
    obtain rfl : q = false := not_true hq (fun e => h0 (by omega))
    have HI0 := Lib.hid (fun (W : World) => inr_no k 161 163 W h0)
    clear hq h0
    go_enter Tryd.func15, Tryd.ntmps15
    go_wp2_with (first | (go_at_call 27; with_reducible refine (HI0.out _).mono ?_; rintro e w' ⟨rfl, rfl⟩))
    go_ret
    exact ⟨rfl, B0.out⟩
  have HI0 := Lib.hid (fun (W : World) => inr_yes k 161 163 W h0.1 h0.2)
  by_cases h1 : 0 ≤ z ∧ z ≤ 11
  case neg =>
    obtain rfl : q = false := not_true hq (fun e => h1 (by omega))
    have HI1 := Lib.hid (fun (W : World) => inr_no z 0 11 W h1)
    clear hq h0 h1
    go_enter Tryd.func15, Tryd.ntmps15
    go_wp2_with (first | (go_at_call 27; with_reducible refine (HI0.out _).mono ?_; rintro e w' ⟨rfl, rfl⟩) | (go_at_call 27; with_reducible refine (HI1.out _).mono ?_; rintro e w' ⟨rfl, rfl⟩))
    go_ret
    exact ⟨rfl, B0.out⟩
  have HI1 := Lib.hid (fun (W : World) => inr_yes z 0 11 W h1.1 h1.2)
  by_cases h2 : 0 ≤ r ∧ r ≤ 15
  case neg =>
    obtain rfl : q = false := not_true hq (fun e => h2 (by omega))
    have HI2 := Lib.hid (fun (W : World) => inr_no r 0 15 W h2)
    clear hq h0 h1 h2
    go_enter Tryd.func15, Tryd.ntmps15
    go_wp2_with (first | (go_at_call 27; with_reducible refine (HI0.out _).mono ?_; rintro e w' ⟨rfl, rfl⟩) | (go_at_call 27; with_reducible refine (HI1.out _).mono ?_; rintro e w' ⟨rfl, rfl⟩) | (go_at_call 27; with_reducible refine (HI2.out _).mono ?_; rintro e w' ⟨rfl, rfl⟩))
    go_ret
    exact ⟨rfl, B0.out⟩
  have HI2 := Lib.hid (fun (W : World) => inr_yes r 0 15 W h2.1 h2.2)
  by_cases h3 : 0 ≤ u ∧ u ≤ 3
  case neg =>
    obtain rfl : q = false := not_true hq (fun e => h3 (by omega))
    have HI3 := Lib.hid (fun (W : World) => inr_no u 0 3 W h3)
    clear hq h0 h1 h2 h3
    go_enter Tryd.func15, Tryd.ntmps15
    go_wp2_with (first | (go_at_call 27; with_reducible refine (HI0.out _).mono ?_; rintro e w' ⟨rfl, rfl⟩) | (go_at_call 27; with_reducible refine (HI1.out _).mono ?_; rintro e w' ⟨rfl, rfl⟩) | (go_at_call 27; with_reducible refine (HI2.out _).mono ?_; rintro e w' ⟨rfl, rfl⟩) | (go_at_call 27; with_reducible refine (HI3.out _).mono ?_; rintro e w' ⟨rfl, rfl⟩))
    go_ret
    exact ⟨rfl, B0.out⟩
  have HI3 := Lib.hid (fun (W : World) => inr_yes u 0 3 W h3.1 h3.2)
  by_cases h4 : 0 ≤ i ∧ i ≤ 65535
  case neg =>
    obtain rfl : q = false := not_true hq (fun e => h4 (by omega))
    have HI4 := Lib.hid (fun (W : World) => inr_no i 0 65535 W h4)
    clear hq h0 h1 h2 h3 h4
    go_enter Tryd.func15, Tryd.ntmps15
    go_wp2_with (first | (go_at_call 27; with_reducible refine (HI0.out _).mono ?_; rintro e w' ⟨rfl, rfl⟩) | (go_at_call 27; with_reducible refine (HI1.out _).mono ?_; rintro e w' ⟨rfl, rfl⟩) | (go_at_call 27; with_reducible refine (HI2.out _).mono ?_; rintro e w' ⟨rfl, rfl⟩) | (go_at_call 27; with_reducible refine (HI3.out _).mono ?_; rintro e w' ⟨rfl, rfl⟩) | (go_at_call 27; with_reducible refine (HI4.out _).mono ?_; rintro e w' ⟨rfl, rfl⟩))
    go_ret
    exact ⟨rfl, B0.out⟩
  have HI4 := Lib.hid (fun (W : World) => inr_yes i 0 65535 W h4.1 h4.2)
  by_cases h5 : 0 ≤ s ∧ s ≤ 127
  case neg =>
    obtain rfl : q = false := not_true hq (fun e => h5 (by omega))
    have HI5 := Lib.hid (fun (W : World) => inr_no s 0 127 W h5)
    clear hq h0 h1 h2 h3 h4 h5
    go_enter Tryd.func15, Tryd.ntmps15
    go_wp2_with (first | (go_at_call 27; with_reducible refine (HI0.out _).mono ?_; rintro e w' ⟨rfl, rfl⟩) | (go_at_call 27; with_reducible refine (HI1.out _).mono ?_; rintro e w' ⟨rfl, rfl⟩) | (go_at_call 27; with_reducible refine (HI2.out _).mono ?_; rintro e w' ⟨rfl, rfl⟩) | (go_at_call 27; with_reducible refine (HI3.out _).mono ?_; rintro e w' ⟨rfl, rfl⟩) | (go_at_call 27; with_reducible refine (HI4.out _).mono ?_; rintro e w' ⟨rfl, rfl⟩) | (go_at_call 27; with_reducible refine (HI5.out _).mono ?_; rintro e w' ⟨rfl, rfl⟩))
    go_ret
    exact ⟨rfl, B0.out⟩
  have HI5 := Lib.hid (fun (W : World) => inr_yes s 0 127 W h5.1 h5.2)
  obtain rfl : q = true := hq.2 ⟨h0, h1, h2, h3, h4, h5⟩
  clear hq h0 h1 h2 h3 h4 h5
  go_enter Tryd.func15, Tryd.ntmps15
  go_wp2_with (first | (go_at_call 27; with_reducible refine (HI0.out _).mono ?_; rintro e w' ⟨rfl, rfl⟩) | (go_at_call 27; with_reducible refine (HI1.out _).mono ?_; rintro e w' ⟨rfl, rfl⟩) | (go_at_call 27; with_reducible refine (HI2.out _).mono ?_; rintro e w' ⟨rfl, rfl⟩) | (go_at_call 27; with_reducible refine (HI3.out _).mono ?_; rintro e w' ⟨rfl, rfl⟩) | (go_at_call 27; with_reducible refine (HI4.out _).mono ?_; rintro e w' ⟨rfl, rfl⟩) | (go_at_call 27; with_reducible refine (HI5.out _).mono ?_; rintro e w' ⟨rfl, rfl⟩))
  go_ret
  exact ⟨rfl, B0.out⟩
set_option maxHeartbeats 16000000 in
set_option maxRecDepth 100000 in
theorem hdValid_any (g : Nat) (k z r u i s : Int) (q : Bool) (w : World) (hR : Rw w g 25 #[.int .i64 k, .int .i64 z, .int .i64 r, .int .i64 u, .int .i64 i, .int .i64 s]) (hq : q = true ↔ HdOk k z r u i s) : Calls Tryd.prog 17 #[.pointer (some ⟨g, 0, none⟩)] w fun e w' => e = .returned (.bool q) ∧ w = w' := by
  unfold HdOk at hq
  by_cases hk : 161 ≤ k ∧ k ≤ 163
  case pos =>
    have hq2 : q = true ↔ ((0 ≤ z ∧ z ≤ 11) ∧ (0 ≤ r ∧ r ≤ 15) ∧ (0 ≤ u ∧ u ≤ 3) ∧ (0 ≤ i ∧ i ≤ 65535) ∧ (0 ≤ s ∧ s ≤ 127)) := by rw [hq]; exact ⟨fun e => e.2, fun e => ⟨hk, e⟩⟩
    rcases (by omega : k = 161 ∨ k = 162 ∨ k = 163) with rfl | rfl | rfl
    · by_cases hb : (0 ≤ z ∧ z < 12) ∧ (0 ≤ r ∧ r < 16) ∧ 0 ≤ u
      · exact hdV161b_any g z r u i s q w hR hq2 hb
      · exact hdV161a_any g z r u i s q w hR hq2 hb
    · by_cases hb : (0 ≤ z ∧ z < 12) ∧ (0 ≤ r ∧ r < 16) ∧ 0 ≤ u
      · exact hdV162b_any g z r u i s q w hR hq2 hb
      · exact hdV162a_any g z r u i s q w hR hq2 hb
    · by_cases hb : (0 ≤ z ∧ z < 12) ∧ (0 ≤ r ∧ r < 16) ∧ 0 ≤ u
      · exact hdV163b_any g z r u i s q w hR hq2 hb
      · exact hdV163a_any g z r u i s q w hR hq2 hb
  obtain ⟨c0, c1, c2, c3, c4, c5⟩ := hR.six
  clear hR
  obtain rfl : q = false := not_true hq (fun e => hk (by omega))
  have d161 : (k == 161) = false := by rw [beq_eq_false_iff_ne]; omega
  have d162 : (k == 162) = false := by rw [beq_eq_false_iff_ne]; omega
  have d163 : (k == 163) = false := by rw [beq_eq_false_iff_ne]; omega
  clear hq hk
  go_enter Tryd.func17, Tryd.ntmps17
  go_wp2
  go_ret
  exact ⟨rfl, rfl⟩
end Go.Proofs.YtnobgapdidpafaaDoor
