/- Which headers the program takes: the kind 161, part 2. -/
import Derived.Test.YtnobgapdidpafaaDoorProg
import Derived.Test.YtnobgapdidpafaaDoorHdL
import Derived.Test.YtnobgapdidpafaaDoorGeo
namespace Go.Proofs.YtnobgapdidpafaaDoor
open Go.RowKit
set_option linter.unusedVariables false
set_option linter.unusedSimpArgs false
set_option maxHeartbeats 16000000 in
set_option maxRecDepth 100000 in
theorem hdV161b_any (g : Nat) (z r u i s : Int) (q : Bool) (w : World) (hR : Rw w g 25 #[.int .i64 161, .int .i64 z, .int .i64 r, .int .i64 u, .int .i64 i, .int .i64 s]) (hq : q = true ↔ ((0 ≤ z ∧ z ≤ 11) ∧ (0 ≤ r ∧ r ≤ 15) ∧ (0 ≤ u ∧ u ≤ 3) ∧ (0 ≤ i ∧ i ≤ 65535) ∧ (0 ≤ s ∧ s ≤ 127))) (hb : (0 ≤ z ∧ z < 12) ∧ (0 ≤ r ∧ r < 16) ∧ 0 ≤ u) : Calls Tryd.prog 17 #[.pointer (some ⟨g, 0, none⟩)] w fun e w' => e = .returned (.bool q) ∧ w = w' := by
  obtain ⟨c0, c1, c2, c3, c4, c5⟩ := hR.six
  clear hR
  obtain ⟨⟨b0, b1⟩, ⟨b2, b3⟩, b4⟩ := hb
  have e0_0 : decide (0 ≤ z) = true := by simp; omega
  have e0_1 : decide (z ≥ 0) = true := by simp; omega
  have e1_0 : decide (z < 12) = true := by simp; omega
  have e2_0 : decide (0 ≤ r) = true := by simp; omega
  have e2_1 : decide (r ≥ 0) = true := by simp; omega
  have e3_0 : decide (r < 16) = true := by simp; omega
  have e4_0 : decide (0 ≤ u) = true := by simp; omega
  have e4_1 : decide (u ≥ 0) = true := by simp; omega
  by_cases t5 : u ≤ 3
  case neg =>
    obtain rfl : q = false := not_true hq (fun e => t5 (by omega))
    have e5_0 : decide (u ≤ 3) = false := by simp; omega
    clear hq t5 b0 b1 b2 b3 b4
    go_enter Tryd.func17, Tryd.ntmps17
    go_wp2
    go_ret
    exact ⟨rfl, rfl⟩
  have e5_0 : decide (u ≤ 3) = true := by simp; omega
  by_cases t6 : 0 ≤ i
  case neg =>
    obtain rfl : q = false := not_true hq (fun e => t6 (by omega))
    have e6_0 : decide (0 ≤ i) = false := by simp; omega
    have e6_1 : decide (i ≥ 0) = false := by simp; omega
    clear hq t5 t6 b0 b1 b2 b3 b4
    go_enter Tryd.func17, Tryd.ntmps17
    go_wp2
    go_ret
    exact ⟨rfl, rfl⟩
  have e6_0 : decide (0 ≤ i) = true := by simp; omega
  have e6_1 : decide (i ≥ 0) = true := by simp; omega
  by_cases t7 : i ≤ 65535
  case neg =>
    obtain rfl : q = false := not_true hq (fun e => t7 (by omega))
    have e7_0 : decide (i ≤ 65535) = false := by simp; omega
    clear hq t5 t6 t7 b0 b1 b2 b3 b4
    go_enter Tryd.func17, Tryd.ntmps17
    go_wp2
    go_ret
    exact ⟨rfl, rfl⟩
  have e7_0 : decide (i ≤ 65535) = true := by simp; omega
  by_cases t8 : 0 ≤ s
  case neg =>
    obtain rfl : q = false := not_true hq (fun e => t8 (by omega))
    have e8_0 : decide (0 ≤ s) = false := by simp; omega
    have e8_1 : decide (s ≥ 0) = false := by simp; omega
    clear hq t5 t6 t7 t8 b0 b1 b2 b3 b4
    go_enter Tryd.func17, Tryd.ntmps17
    go_wp2
    go_ret
    exact ⟨rfl, rfl⟩
  have e8_0 : decide (0 ≤ s) = true := by simp; omega
  have e8_1 : decide (s ≥ 0) = true := by simp; omega
  by_cases t9 : s ≤ 127
  case neg =>
    obtain rfl : q = false := not_true hq (fun e => t9 (by omega))
    have e9_0 : decide (s ≤ 127) = false := by simp; omega
    clear hq t5 t6 t7 t8 t9 b0 b1 b2 b3 b4
    go_enter Tryd.func17, Tryd.ntmps17
    go_wp2
    go_ret
    exact ⟨rfl, rfl⟩
  have e9_0 : decide (s ≤ 127) = true := by simp; omega
  obtain rfl : q = true := hq.2 (by omega)
  clear hq t5 t6 t7 t8 t9 b0 b1 b2 b3 b4
  go_enter Tryd.func17, Tryd.ntmps17
  go_wp2
  go_ret
  exact ⟨rfl, rfl⟩
end Go.Proofs.YtnobgapdidpafaaDoor
