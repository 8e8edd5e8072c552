/- The law FnExactNeedsLevelling, walked: every call by its contract. -/
import Derived.Test.YtmbgagkpabepcaaProg
import Derived.Test.YtmbgagkpabepcaaWrT
import Derived.Test.YtmbgagkpabepcaaWrG
import Derived.Test.YtmbgagkpabepcaaLk
namespace Go.Proofs.Ytmbgagkpabepcaa
open Go.RowKit
set_option linter.unusedVariables false
set_option maxHeartbeats 2000000 in
set_option maxRecDepth 100000 in
theorem wkNeed (v0 : Value) (L0 : List Int) (v1 : Value) (L1 : List Bool) (a2 : Int) (w : World) (h0 : NI w w.heap.size v0 L0) (h1 : NB w w.heap.size v1 L1)  :
    Calls Try.prog 12 #[v0, v1, .int .i64 a2] w fun e w' => e = .returned (.bool true) ∧ Below w.heap.size w w' := by
  obtain ⟨A0, n0, c0, rfl⟩ := h0.slice
  have e0 : L0.length = n0 ∧ n0 ≤ 9223372036854775807 := by obtain ⟨_, _, _, e, q1, q2, q3, _⟩ := h0; injection e with z1 z2 z3; omega
  obtain ⟨A1, n1, c1, rfl⟩ := h1.slice
  have e1 : L1.length = n1 ∧ n1 ≤ 9223372036854775807 := by obtain ⟨_, _, _, e, q1, q2, q3, _⟩ := h1; injection e with z1 z2 z3; omega
  have m0 : (n0 : Int) ≤ 9223372036854775807 := by omega
  have m1 : (n1 : Int) ≤ 9223372036854775807 := by omega
  by_cases s0 : (n0 : Int) ≤ 1048576
  case neg =>
    have d0 : decide ((n0 : Int) > 1048576) = true := by simp; omega
    go_enter Try.func12, Try.ntmps12
    go_wp2
    go_ret
    exact ⟨rfl, Below.refl _ _⟩
  by_cases s1 : (n1 : Int) ≤ 1048576
  case neg =>
    have d1 : decide ((n1 : Int) > 1048576) = true := by simp; omega
    have d0 : decide ((n0 : Int) > 1048576) = false := by simp; omega
    go_enter Try.func12, Try.ntmps12
    go_wp2
    go_ret
    exact ⟨rfl, Below.refl _ _⟩
  have s0' : L0.length ≤ 1048576 := by omega
  have s1' : L1.length ≤ 1048576 := by omega
  obtain ⟨r, hr⟩ := prop_dec' (CountsOk L0)
  obtain ⟨y, hy⟩ : ∃ y, y = decide (a2 < gapV L0 L1 r) := ⟨_, rfl⟩
  have HS : Hid (∀ (W : World) (u0 : Value) (u1 : Value) (p0 : NI W W.heap.size u0 L0) (p1 : NB W W.heap.size u1 L1), Calls Try.prog 42 #[u0, u1, .int .i64 a2] W fun e w' => e = .returned (.bool y) ∧ Below W.heap.size W w') := Lib.hid (fun W u0 u1 p0 p1 => (by rw [hy]; exact (specNeed_any u0 u1 L0 L1 a2 r W _ p0 p1 hr s0' s1').mono fun e w' h => ⟨h.1, by rw [← h.2]; exact Below.refl _ _⟩))
  have HI : Hid (∀ (W : World) (u0 : Value) (u1 : Value) (p0 : NI W W.heap.size u0 L0) (p1 : NB W W.heap.size u1 L1), Calls Try.prog 43 #[u0, u1, .int .i64 a2] W fun e w' => e = .returned (.bool y) ∧ Below W.heap.size W w') := Lib.hid (fun W u0 u1 p0 p1 => (by rw [hy]; exact implNeed_any u0 u1 L0 L1 a2 r W _ p0 p1 (Nat.le_refl _) hr s0' s1'))
  have T0 := Lib.hid (fun (W : World) (b : Below w.heap.size w W) => lkI_any _ L0 w W h0 b s0')
  have E0 := Lib.hid (fun (W : World) (u v : Value) (p : NI W W.heap.size u L0) (q : NI W W.heap.size v L0) => lkIe_any u v L0 W p q s0')
  have T1 := Lib.hid (fun (W : World) (b : Below w.heap.size w W) => lkB_any _ L1 w W h1 b s1')
  have E1 := Lib.hid (fun (W : World) (u v : Value) (p : NB W W.heap.size u L1) (q : NB W W.heap.size v L1) => lkBe_any u v L1 W p q s1')
  have d0 : decide ((n0 : Int) > 1048576) = false := by simp; omega
  have d1 : decide ((n1 : Int) > 1048576) = false := by simp; omega
  have hyy : (y != y) = false := by simp
  have B0 := Lib.hid (Below.refl w.heap.size w)
  clear h0 e0 s0' h1 e1 s1' hy
  go_enter Try.func12, Try.ntmps12
  go_wp2_with fail
  refine (T0.out _ B0.out).mono ?_
  rintro e w1 ⟨Awa, nwa, cwa, rfl, hX, hb, hbb⟩
  have wa_1 := Lib.hid hX
  have B1 := Lib.hid hb
  clear hX hb hbb B0
  go_wp2_with fail
  refine (T1.out _ B1.out).mono ?_
  rintro e w2 ⟨Awb, nwb, cwb, rfl, hX, hb, hbb⟩
  have wa_2 := Lib.hid (wa_1.out.later hbb)
  clear wa_1
  have wb_2 := Lib.hid hX
  have B2 := Lib.hid hb
  clear hX hb hbb B1
  go_wp2_with fail
  refine (HS.out _ _ _ wa_2.out wb_2.out).mono ?_
  rintro e w3 ⟨rfl, hbb⟩
  have wa_3 := Lib.hid (wa_2.out.later hbb)
  clear wa_2
  have wb_3 := Lib.hid (wb_2.out.later hbb)
  clear wb_2
  have B3 := Lib.hid (B2.out.trans (hbb.mono B2.out.size))
  clear hbb B2
  clear wa_3
  clear wb_3
  go_wp2_with fail
  refine (T0.out _ B3.out).mono ?_
  rintro e w4 ⟨Axa, nxa, cxa, rfl, hX, hb, hbb⟩
  have xa_4 := Lib.hid hX
  have B4 := Lib.hid hb
  clear hX hb hbb B3
  go_wp2_with fail
  refine (T1.out _ B4.out).mono ?_
  rintro e w5 ⟨Axb, nxb, cxb, rfl, hX, hb, hbb⟩
  have xa_5 := Lib.hid (xa_4.out.later hbb)
  clear xa_4
  have xb_5 := Lib.hid hX
  have B5 := Lib.hid hb
  clear hX hb hbb B4
  go_wp2_with fail
  refine (HI.out _ _ _ xa_5.out xb_5.out).mono ?_
  rintro e w6 ⟨rfl, hbb⟩
  have xa_6 := Lib.hid (xa_5.out.later hbb)
  clear xa_5
  have xb_6 := Lib.hid (xb_5.out.later hbb)
  clear xb_5
  have B6 := Lib.hid (B5.out.trans (hbb.mono B5.out.size))
  clear hbb B5
  go_wp2_with fail
  refine (T0.out _ B6.out).mono ?_
  rintro e w7 ⟨Az, nz, cz, rfl, hX, hb, hbb⟩
  have xa_7 := Lib.hid (xa_6.out.later hbb)
  clear xa_6
  have xb_7 := Lib.hid (xb_6.out.later hbb)
  clear xb_6
  have z_7 := Lib.hid hX
  have B7 := Lib.hid hb
  clear hX hb hbb B6
  go_wp2_with fail
  refine (E0.out _ _ _ xa_7.out z_7.out).mono ?_
  rintro e w8 ⟨rfl, hbb⟩
  have xa_8 := Lib.hid (xa_7.out.later hbb)
  clear xa_7
  have xb_8 := Lib.hid (xb_7.out.later hbb)
  clear xb_7
  have z_8 := Lib.hid (z_7.out.later hbb)
  clear z_7
  have B8 := Lib.hid (B7.out.trans (hbb.mono B7.out.size))
  clear hbb B7
  clear z_8
  go_wp2_with fail
  refine (T1.out _ B8.out).mono ?_
  rintro e w9 ⟨Az, nz, cz, rfl, hX, hb, hbb⟩
  have xa_9 := Lib.hid (xa_8.out.later hbb)
  clear xa_8
  have xb_9 := Lib.hid (xb_8.out.later hbb)
  clear xb_8
  have z_9 := Lib.hid hX
  have B9 := Lib.hid hb
  clear hX hb hbb B8
  go_wp2_with fail
  refine (E1.out _ _ _ xb_9.out z_9.out).mono ?_
  rintro e w10 ⟨rfl, hbb⟩
  have xa_10 := Lib.hid (xa_9.out.later hbb)
  clear xa_9
  have xb_10 := Lib.hid (xb_9.out.later hbb)
  clear xb_9
  have z_10 := Lib.hid (z_9.out.later hbb)
  clear z_9
  have B10 := Lib.hid (B9.out.trans (hbb.mono B9.out.size))
  clear hbb B9
  clear z_10
  go_wp2
  go_ret
  exact ⟨rfl, B10.out⟩
end Go.Proofs.Ytmbgagkpabepcaa
