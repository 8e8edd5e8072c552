/- The law FnExactPickStatic, walked: every call by its contract. -/
import Derived.Test.YtbdfdkhkamonpaaProg
import Derived.Test.YtbdfdkhkamonpaaWrQ
import Derived.Test.YtbdfdkhkamonpaaWrR
import Derived.Test.YtbdfdkhkamonpaaLk
namespace Go.Proofs.Ytbdfdkhkamonpaa
open Go.RowKit
set_option linter.unusedVariables false
set_option maxHeartbeats 2000000 in
set_option maxRecDepth 100000 in
theorem wkStat (v0 : Value) (L0 : List Int) (v1 : Value) (L1 : List Bool) (v2 : Value) (L2 : List Int) (w : World) (h0 : NI w w.heap.size v0 L0) (h1 : NB w w.heap.size v1 L1) (h2 : NI w w.heap.size v2 L2) (hw2 : WfL L2)  :
    Calls Try.prog 10 #[v0, v1, v2] w fun e w' => e = .returned (.bool true) ∧ Below w.heap.size w w' := by
  obtain ⟨A0, n0, c0, rfl⟩ := h0.slice
  have e0 : L0.length = n0 ∧ n0 ≤ 9223372036854775807 := by obtain ⟨_, _, _, e, q1, q2, q3, _⟩ := h0; injection e with z1 z2 z3; omega
  obtain ⟨A1, n1, c1, rfl⟩ := h1.slice
  have e1 : L1.length = n1 ∧ n1 ≤ 9223372036854775807 := by obtain ⟨_, _, _, e, q1, q2, q3, _⟩ := h1; injection e with z1 z2 z3; omega
  obtain ⟨A2, n2, c2, rfl⟩ := h2.slice
  have e2 : L2.length = n2 ∧ n2 ≤ 9223372036854775807 := by obtain ⟨_, _, _, e, q1, q2, q3, _⟩ := h2; injection e with z1 z2 z3; omega
  have m0 : (n0 : Int) ≤ 9223372036854775807 := by omega
  have m1 : (n1 : Int) ≤ 9223372036854775807 := by omega
  have m2 : (n2 : Int) ≤ 9223372036854775807 := by omega
  by_cases s0 : (n0 : Int) ≤ 1048576
  case neg =>
    have d0 : decide ((n0 : Int) > 1048576) = true := by simp; omega
    go_enter Try.func10, Try.ntmps10
    go_wp2
    go_ret
    exact ⟨rfl, Below.refl _ _⟩
  by_cases s1 : (n1 : Int) ≤ 1048576
  case neg =>
    have d1 : decide ((n1 : Int) > 1048576) = true := by simp; omega
    have d0 : decide ((n0 : Int) > 1048576) = false := by simp; omega
    go_enter Try.func10, Try.ntmps10
    go_wp2
    go_ret
    exact ⟨rfl, Below.refl _ _⟩
  by_cases s2 : (n2 : Int) ≤ 1048576
  case neg =>
    have d2 : decide ((n2 : Int) > 1048576) = true := by simp; omega
    have d0 : decide ((n0 : Int) > 1048576) = false := by simp; omega
    have d1 : decide ((n1 : Int) > 1048576) = false := by simp; omega
    go_enter Try.func10, Try.ntmps10
    go_wp2
    go_ret
    exact ⟨rfl, Below.refl _ _⟩
  have s0' : L0.length ≤ 1048576 := by omega
  have s1' : L1.length ≤ 1048576 := by omega
  have s2' : L2.length ≤ 1048576 := by omega
  obtain ⟨y, hy⟩ : ∃ y, y = statV L0 L1 L2 := ⟨_, rfl⟩
  have HS : Hid (∀ (W : World) (u0 : Value) (u1 : Value) (u2 : Value) (p0 : NI W W.heap.size u0 L0) (p1 : NB W W.heap.size u1 L1) (p2 : NI W W.heap.size u2 L2), Calls Try.prog 48 #[u0, u1, u2] W fun e w' => e = .returned (.int .i64 y) ∧ Below W.heap.size W w') := Lib.hid (fun W u0 u1 u2 p0 p1 p2 => (by rw [hy]; exact specStat_any u0 u1 u2 L0 L1 L2 W _ p0 p1 p2 (Nat.le_refl _) s0' s1' s2'))
  have HI : Hid (∀ (W : World) (u0 : Value) (u1 : Value) (u2 : Value) (p0 : NI W W.heap.size u0 L0) (p1 : NB W W.heap.size u1 L1) (p2 : NI W W.heap.size u2 L2), Calls Try.prog 49 #[u0, u1, u2] W fun e w' => e = .returned (.int .i64 y) ∧ Below W.heap.size W w') := Lib.hid (fun W u0 u1 u2 p0 p1 p2 => (by rw [hy]; exact implStat_any u0 u1 u2 L0 L1 L2 W _ p0 p1 p2 (Nat.le_refl _) s0' s1' s2' hw2))
  have T0 := Lib.hid (fun (W : World) (b : Below w.heap.size w W) => lkI_any _ L0 w W h0 b s0')
  have E0 := Lib.hid (fun (W : World) (u v : Value) (p : NI W W.heap.size u L0) (q : NI W W.heap.size v L0) => lkIe_any u v L0 W p q s0')
  have T1 := Lib.hid (fun (W : World) (b : Below w.heap.size w W) => lkB_any _ L1 w W h1 b s1')
  have E1 := Lib.hid (fun (W : World) (u v : Value) (p : NB W W.heap.size u L1) (q : NB W W.heap.size v L1) => lkBe_any u v L1 W p q s1')
  have T2 := Lib.hid (fun (W : World) (b : Below w.heap.size w W) => lkI_any _ L2 w W h2 b s2')
  have E2 := Lib.hid (fun (W : World) (u v : Value) (p : NI W W.heap.size u L2) (q : NI W W.heap.size v L2) => lkIe_any u v L2 W p q s2')
  have d0 : decide ((n0 : Int) > 1048576) = false := by simp; omega
  have d1 : decide ((n1 : Int) > 1048576) = false := by simp; omega
  have d2 : decide ((n2 : Int) > 1048576) = false := by simp; omega
  have hyy : (y != y) = false := by simp
  have B0 := Lib.hid (Below.refl w.heap.size w)
  clear h0 e0 s0' h1 e1 s1' h2 e2 s2' hy
  go_enter Try.func10, Try.ntmps10
  go_wp2_with fail
  refine (T0.out _ B0.out).mono ?_
  rintro e w1 ⟨Awa, nwa, cwa, rfl, hX, hb, hbb⟩
  have wa_1 := Lib.hid hX
  have B1 := Lib.hid hb
  clear hX hb hbb B0
  go_wp2_with fail
  refine (T1.out _ B1.out).mono ?_
  rintro e w2 ⟨Awb, nwb, cwb, rfl, hX, hb, hbb⟩
  have wa_2 := Lib.hid (wa_1.out.later hbb)
  clear wa_1
  have wb_2 := Lib.hid hX
  have B2 := Lib.hid hb
  clear hX hb hbb B1
  go_wp2_with fail
  refine (T2.out _ B2.out).mono ?_
  rintro e w3 ⟨Awc, nwc, cwc, rfl, hX, hb, hbb⟩
  have wa_3 := Lib.hid (wa_2.out.later hbb)
  clear wa_2
  have wb_3 := Lib.hid (wb_2.out.later hbb)
  clear wb_2
  have wc_3 := Lib.hid hX
  have B3 := Lib.hid hb
  clear hX hb hbb B2
  go_wp2_with fail
  refine (HS.out _ _ _ _ wa_3.out wb_3.out wc_3.out).mono ?_
  rintro e w4 ⟨rfl, hbb⟩
  have wa_4 := Lib.hid (wa_3.out.later hbb)
  clear wa_3
  have wb_4 := Lib.hid (wb_3.out.later hbb)
  clear wb_3
  have wc_4 := Lib.hid (wc_3.out.later hbb)
  clear wc_3
  have B4 := Lib.hid (B3.out.trans (hbb.mono B3.out.size))
  clear hbb B3
  clear wa_4
  clear wb_4
  clear wc_4
  go_wp2_with fail
  refine (T0.out _ B4.out).mono ?_
  rintro e w5 ⟨Axa, nxa, cxa, rfl, hX, hb, hbb⟩
  have xa_5 := Lib.hid hX
  have B5 := Lib.hid hb
  clear hX hb hbb B4
  go_wp2_with fail
  refine (T1.out _ B5.out).mono ?_
  rintro e w6 ⟨Axb, nxb, cxb, rfl, hX, hb, hbb⟩
  have xa_6 := Lib.hid (xa_5.out.later hbb)
  clear xa_5
  have xb_6 := Lib.hid hX
  have B6 := Lib.hid hb
  clear hX hb hbb B5
  go_wp2_with fail
  refine (T2.out _ B6.out).mono ?_
  rintro e w7 ⟨Axc, nxc, cxc, rfl, hX, hb, hbb⟩
  have xa_7 := Lib.hid (xa_6.out.later hbb)
  clear xa_6
  have xb_7 := Lib.hid (xb_6.out.later hbb)
  clear xb_6
  have xc_7 := Lib.hid hX
  have B7 := Lib.hid hb
  clear hX hb hbb B6
  go_wp2_with fail
  refine (HI.out _ _ _ _ xa_7.out xb_7.out xc_7.out).mono ?_
  rintro e w8 ⟨rfl, hbb⟩
  have xa_8 := Lib.hid (xa_7.out.later hbb)
  clear xa_7
  have xb_8 := Lib.hid (xb_7.out.later hbb)
  clear xb_7
  have xc_8 := Lib.hid (xc_7.out.later hbb)
  clear xc_7
  have B8 := Lib.hid (B7.out.trans (hbb.mono B7.out.size))
  clear hbb B7
  go_wp2_with fail
  refine (T0.out _ B8.out).mono ?_
  rintro e w9 ⟨Az, nz, cz, rfl, hX, hb, hbb⟩
  have xa_9 := Lib.hid (xa_8.out.later hbb)
  clear xa_8
  have xb_9 := Lib.hid (xb_8.out.later hbb)
  clear xb_8
  have xc_9 := Lib.hid (xc_8.out.later hbb)
  clear xc_8
  have z_9 := Lib.hid hX
  have B9 := Lib.hid hb
  clear hX hb hbb B8
  go_wp2_with fail
  refine (E0.out _ _ _ xa_9.out z_9.out).mono ?_
  rintro e w10 ⟨rfl, hbb⟩
  have xa_10 := Lib.hid (xa_9.out.later hbb)
  clear xa_9
  have xb_10 := Lib.hid (xb_9.out.later hbb)
  clear xb_9
  have xc_10 := Lib.hid (xc_9.out.later hbb)
  clear xc_9
  have z_10 := Lib.hid (z_9.out.later hbb)
  clear z_9
  have B10 := Lib.hid (B9.out.trans (hbb.mono B9.out.size))
  clear hbb B9
  clear z_10
  go_wp2_with fail
  refine (T1.out _ B10.out).mono ?_
  rintro e w11 ⟨Az, nz, cz, rfl, hX, hb, hbb⟩
  have xa_11 := Lib.hid (xa_10.out.later hbb)
  clear xa_10
  have xb_11 := Lib.hid (xb_10.out.later hbb)
  clear xb_10
  have xc_11 := Lib.hid (xc_10.out.later hbb)
  clear xc_10
  have z_11 := Lib.hid hX
  have B11 := Lib.hid hb
  clear hX hb hbb B10
  go_wp2_with fail
  refine (E1.out _ _ _ xb_11.out z_11.out).mono ?_
  rintro e w12 ⟨rfl, hbb⟩
  have xa_12 := Lib.hid (xa_11.out.later hbb)
  clear xa_11
  have xb_12 := Lib.hid (xb_11.out.later hbb)
  clear xb_11
  have xc_12 := Lib.hid (xc_11.out.later hbb)
  clear xc_11
  have z_12 := Lib.hid (z_11.out.later hbb)
  clear z_11
  have B12 := Lib.hid (B11.out.trans (hbb.mono B11.out.size))
  clear hbb B11
  clear z_12
  go_wp2_with fail
  refine (T2.out _ B12.out).mono ?_
  rintro e w13 ⟨Az, nz, cz, rfl, hX, hb, hbb⟩
  have xa_13 := Lib.hid (xa_12.out.later hbb)
  clear xa_12
  have xb_13 := Lib.hid (xb_12.out.later hbb)
  clear xb_12
  have xc_13 := Lib.hid (xc_12.out.later hbb)
  clear xc_12
  have z_13 := Lib.hid hX
  have B13 := Lib.hid hb
  clear hX hb hbb B12
  go_wp2_with fail
  refine (E2.out _ _ _ xc_13.out z_13.out).mono ?_
  rintro e w14 ⟨rfl, hbb⟩
  have xa_14 := Lib.hid (xa_13.out.later hbb)
  clear xa_13
  have xb_14 := Lib.hid (xb_13.out.later hbb)
  clear xb_13
  have xc_14 := Lib.hid (xc_13.out.later hbb)
  clear xc_13
  have z_14 := Lib.hid (z_13.out.later hbb)
  clear z_13
  have B14 := Lib.hid (B13.out.trans (hbb.mono B13.out.size))
  clear hbb B13
  clear z_14
  go_wp2
  go_ret
  exact ⟨rfl, B14.out⟩
end Go.Proofs.Ytbdfdkhkamonpaa
