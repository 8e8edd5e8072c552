/- Which headers the program takes: the kind 161, part 1. -/
import Derived.Test.YtnobgapdidpafaaDoorProg
import Derived.Test.YtnobgapdidpafaaDoorHdL
import Derived.Test.YtnobgapdidpafaaDoorGeo
namespace Go.Proofs.YtnobgapdidpafaaDoor
open Go.RowKit
set_option linter.unusedVariables false
set_option linter.unusedSimpArgs false
set_option maxHeartbeats 16000000 in
set_option maxRecDepth 100000 in
theorem hdV161a_any (g : Nat) (z r u i s : Int) (q : Bool) (w : World) (hR : Rw w g 25 #[.int .i64 161, .int .i64 z, .int .i64 r, .int .i64 u, .int .i64 i, .int .i64 s]) (hq : q = true ↔ ((0 ≤ z ∧ z ≤ 11) ∧ (0 ≤ r ∧ r ≤ 15) ∧ (0 ≤ u ∧ u ≤ 3) ∧ (0 ≤ i ∧ i ≤ 65535) ∧ (0 ≤ s ∧ s ≤ 127))) (hb : ¬ ((0 ≤ z ∧ z < 12) ∧ (0 ≤ r ∧ r < 16) ∧ 0 ≤ u)) : Calls Tryd.prog 17 #[.pointer (some ⟨g, 0, none⟩)] w fun e w' => e = .returned (.bool q) ∧ w = w' := by
  obtain ⟨c0, c1, c2, c3, c4, c5⟩ := hR.six
  clear hR
  by_cases t0 : 0 ≤ z
  case neg =>
    obtain rfl : q = false := not_true hq (fun e => t0 (by omega))
    have e0_0 : decide (0 ≤ z) = false := by simp; omega
    have e0_1 : decide (z ≥ 0) = false := by simp; omega
    clear hq t0 hb
    go_enter Tryd.func17, Tryd.ntmps17
    go_wp2
    go_ret
    exact ⟨rfl, rfl⟩
  have e0_0 : decide (0 ≤ z) = true := by simp; omega
  have e0_1 : decide (z ≥ 0) = true := by simp; omega
  by_cases t1 : z < 12
  case neg =>
    obtain rfl : q = false := not_true hq (fun e => t1 (by omega))
    have e1_0 : decide (z < 12) = false := by simp; omega
    clear hq t0 t1 hb
    go_enter Tryd.func17, Tryd.ntmps17
    go_wp2
    go_ret
    exact ⟨rfl, rfl⟩
  have e1_0 : decide (z < 12) = true := by simp; omega
  by_cases t2 : 0 ≤ r
  case neg =>
    obtain rfl : q = false := not_true hq (fun e => t2 (by omega))
    have e2_0 : decide (0 ≤ r) = false := by simp; omega
    have e2_1 : decide (r ≥ 0) = false := by simp; omega
    clear hq t0 t1 t2 hb
    go_enter Tryd.func17, Tryd.ntmps17
    go_wp2
    go_ret
    exact ⟨rfl, rfl⟩
  have e2_0 : decide (0 ≤ r) = true := by simp; omega
  have e2_1 : decide (r ≥ 0) = true := by simp; omega
  by_cases t3 : r < 16
  case neg =>
    obtain rfl : q = false := not_true hq (fun e => t3 (by omega))
    have e3_0 : decide (r < 16) = false := by simp; omega
    clear hq t0 t1 t2 t3 hb
    go_enter Tryd.func17, Tryd.ntmps17
    go_wp2
    go_ret
    exact ⟨rfl, rfl⟩
  have e3_0 : decide (r < 16) = true := by simp; omega
  by_cases t4 : 0 ≤ u
  case neg =>
    obtain rfl : q = false := not_true hq (fun e => t4 (by omega))
    have e4_0 : decide (0 ≤ u) = false := by simp; omega
    have e4_1 : decide (u ≥ 0) = false := by simp; omega
    clear hq t0 t1 t2 t3 t4 hb
    go_enter Tryd.func17, Tryd.ntmps17
    go_wp2
    go_ret
    exact ⟨rfl, rfl⟩
  have e4_0 : decide (0 ≤ u) = true := by simp; omega
  have e4_1 : decide (u ≥ 0) = true := by simp; omega
  exact absurd ⟨⟨t0, t1⟩, ⟨t2, t3⟩, t4⟩ hb
end Go.Proofs.YtnobgapdidpafaaDoor
