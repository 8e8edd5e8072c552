/- SetPage, the model: the contract. -/
import Derived.Test.YtgkanacaijlljaaProg
import Derived.Test.YtgkanacaijlljaaPmF
import Derived.Test.YtgkanacaijlljaaPmD
import Derived.Test.YtgkanacaijlljaaPmP
namespace Go.Proofs.Ytgkanacaijlljaa
open Go.RowKit
set_option linter.unusedVariables false
set_option linter.unusedSimpArgs false
set_option maxHeartbeats 4000000 in
set_option maxRecDepth 100000 in
theorem specSet_any (u : Value) (M : Pm) (l q : Int) (t r : Bool) (a : Int) (M' : Pm) (cc : Int) (w : World) (hi : Nat) (h : PmIn w hi u M) (hh : hi ≤ w.heap.size) (hr : r = true ↔ PmOk M) (ha : AtIs M.mp M.mp.length q a) (hS : SetIs M r l q t a M' cc) (hl : PmSz M) (hW : PmW M) (hq : WfI q) :
    Calls Try.prog 49 #[u, .int .i64 l, .int .i64 q, .bool t] w (PmPost M' cc w) := by
  obtain ⟨x, y, rfl, h1, h2⟩ := h
  obtain ⟨A, n, c, rfl⟩ := h1.slice
  obtain ⟨A', n', c', rfl⟩ := h2.slice
  obtain ⟨b, p, mp, tr⟩ := M
  unfold SetIs at hS
  unfold PmSz at hl
  unfold pmc at *
  simp only at *
  have hn : mp.length = n := by obtain ⟨X1, X2, X3, e, _, _, hn, _⟩ := h1; injection e with e1 e2 e3; omega
  have hn' : tr.length = n' := by obtain ⟨X1, X2, X3, e, _, _, hn, _⟩ := h2; injection e with e1 e2 e3; omega
  have hln : mp.length ≤ 1048576 := by omega
  have hln' : tr.length ≤ 1048576 := by omega
  have HI1 := Lib.hid (fun (W : World) (q : Below w.heap.size w W) => h1.below q hh)
  have HI2 := Lib.hid (fun (W : World) (q : Below w.heap.size w W) => h2.below q hh)
  have HH := Lib.hid (fun (W : World) (q : Below w.heap.size w W) => Nat.le_trans hh q.size)
  have b0 := ((Below.refl w.heap.size w).alloc (Nat.le_refl _) (.cells #[.int .i64 b, .int .i64 p, .slice A n c, .slice A' n' c'] 59)).alloc (by simp) (.cells #[.int .i64 0, .int .i64 0, .slice none 0 0, .slice none 0 0] 59)
  have r0 := (Rw.new w 59 #[.int .i64 b, .int .i64 p, .slice A n c, .slice A' n' c']).alloc (.cells #[.int .i64 0, .int .i64 0, .slice none 0 0, .slice none 0 0] 59)
  have r1 := Rw.new (w.alloc (.cells #[.int .i64 b, .int .i64 p, .slice A n c, .slice A' n' c'] 59)) 59 #[.int .i64 0, .int .i64 0, .slice none 0 0, .slice none 0 0]
  have hz : ((w.alloc (.cells #[.int .i64 b, .int .i64 p, .slice A n c, .slice A' n' c'] 59)).alloc (.cells #[.int .i64 0, .int .i64 0, .slice none 0 0, .slice none 0 0] 59)).heap.size = w.heap.size + 2 := by simp
  rw [show (w.alloc (.cells #[.int .i64 b, .int .i64 p, .slice A n c, .slice A' n' c'] 59)).heap.size = w.heap.size + 1 by simp] at r1
  have B0 := Lib.hid b0
  have R0 := Lib.hid r0
  have S0 := Lib.hid r1
  have Z0 := Lib.hid (show w.heap.size + 2 ≤ ((w.alloc (.cells #[.int .i64 b, .int .i64 p, .slice A n c, .slice A' n' c'] 59)).alloc (.cells #[.int .i64 0, .int .i64 0, .slice none 0 0, .slice none 0 0] 59)).heap.size by omega)
  have HR := Lib.hid hr
  have HNN := Lib.hid (And.intro hn hn')
  have HLL := Lib.hid (And.intro hln hln')
  have HS0 := Lib.hid (specOkP_any w.heap.size b p mp tr _ _ r _ hi r0 (HI1.out _ b0) (HI2.out _ b0) (HH.out _ b0) hr hl)
  have HA := Lib.hid (fun (W : World) (qq : Below w.heap.size w W) (hR : Rw W w.heap.size 59 #[.int .i64 b, .int .i64 p, .slice A n c, .slice A' n' c']) => specAt_any w.heap.size b p mp _ _ q a W hi hR (HI1.out W qq) (HH.out W qq) ha hln)
  obtain ⟨c0, c1, c2, c3⟩ := R0.out.four
  clear h1 h2 hh hr ha hl hW hq hln hln' hn hn' b0 r0 r1 hz
  go_enter Try.func49, Try.ntmps49
  go_wp2_with fail
  refine HS0.out.mono ?_
  rintro e w1 ⟨rfl, qq⟩
  have B1 := Lib.hid (B0.out.trans (qq.mono B0.out.size))
  have R1 := Lib.hid (R0.out.below qq R0.out.lt)
  have S1 := Lib.hid (S0.out.below qq S0.out.lt)
  have Z1 := Lib.hid (Nat.le_trans Z0.out qq.size)
  clear qq B0 R0 S0 Z0
  clear c0 c1 c2 c3
  obtain ⟨c0, c1, c2, c3⟩ := R1.out.four
  cases r with
  | false =>
    obtain ⟨rfl, rfl⟩ : M' = Pm.zero ∧ cc = 1 := by
      rcases hS with ⟨_, h1, h2⟩ | ⟨h, _⟩ | ⟨h, _⟩ | ⟨h, _⟩ | ⟨_, h, _⟩
      · exact ⟨h1, h2⟩
      all_goals cases h
    clear hS
    have := Z1.out
    obtain ⟨o0, o1, o2, o3⟩ := S1.out.four
    obtain ⟨f0, f1, f2, f3, _, _, _, _⟩ := S1.out.frees
    go_wp2
    refine bodyPost_ret (results_row_tmp Try.results49 _ _ _ _ _ _ _ rfl ((((S1.out.set_ 0 _).set_ 1 _).set_ 2 _).set_ 3 _) Try.underlying59 rfl infoPm) rfl ⟨_, rfl, PmOwn.zero _ _ _, ?_⟩
    repeat refine bset ?_ (by omega) _
    exact B1.out
  | true =>
  have hok := HR.out.1 rfl
  obtain ⟨⟨⟨hs1, hs2⟩, ⟨hs3, hs4⟩, ⟨hs5, hs6⟩, hs7⟩, hs8, hs9⟩ := hok
  simp only at hs1 hs2 hs3 hs4 hs5 hs6 hs7 hs8
  have hmul := mulBound hs3 hs4 hs5 hs6
  obtain ⟨H, hH⟩ : ∃ H, H = b * p := ⟨_, rfl⟩
  have hw2 : IntKind.i64.wrap (b * p) = H := by rw [hH]; exact IntWalk.i64_in _ (by omega)
  have hw3 : IntKind.i64.wrap (H - 1) = H - 1 := IntWalk.i64_in _ (by omega)
  have hn := HNN.out.1
  have hn' := HNN.out.2
  have hw1 : IntKind.i64.wrap ((n : Int) - 1) = (n : Int) - 1 := IntWalk.i64_in _ (by omega)
  have hnn : n' = n := by omega
  have hn0 : 0 < n := by omega
  have hnm : (n : Int) ≤ 48 := by omega
  rw [hn, ← hH] at hS
  have H48 := Lib.hid (show 0 < mp.length ∧ 0 < tr.length ∧ tr.length = mp.length by omega)
  clear hs1 hs2 hs3 hs4 hs5 hs6 hs7 hs8 hs9 hmul hH hn hn' hnn HR
  rcases hS with ⟨h, _⟩ | ⟨_, hno, rfl, rfl⟩ | ⟨_, hyes, hno, rfl, rfl⟩ | ⟨_, hyes, hyq, hcf, rfl, rfl⟩ | ⟨j, _, rfl, hj, hyq, hfree, rfl, rfl⟩
  · cases h
  · have HI := Lib.hid (fun (W : World) => inr_no l 0 ((n : Int) - 1) W (by omega))
    clear hno
    go_wp2_with fail
    refine (HI.out _).mono ?_
    rintro e w9 ⟨rfl, rfl⟩
    have := Z1.out
    obtain ⟨o0, o1, o2, o3⟩ := S1.out.four
    obtain ⟨f0, f1, f2, f3, _, _, _, _⟩ := S1.out.frees
    go_wp2
    refine bodyPost_ret (results_row_tmp Try.results49 _ _ _ _ _ _ _ rfl ((((S1.out.set_ 0 _).set_ 1 _).set_ 2 _).set_ 3 _) Try.underlying59 rfl infoPm) rfl ⟨_, rfl, PmOwn.zero _ _ _, ?_⟩
    repeat refine bset ?_ (by omega) _
    exact B1.out
  · have HI := Lib.hid (fun (W : World) => inr_yes l 0 ((n : Int) - 1) W hyes.1 (by omega))
    have HJ := Lib.hid (fun (W : World) => inr_no q 0 (H - 1) W (by omega))
    clear hno hyes
    go_wp2_with fail
    refine (HI.out _).mono ?_
    rintro e w9 ⟨rfl, rfl⟩
    go_wp2_with fail
    refine (HJ.out _).mono ?_
    rintro e w8 ⟨rfl, rfl⟩
    have := Z1.out
    obtain ⟨o0, o1, o2, o3⟩ := S1.out.four
    obtain ⟨f0, f1, f2, f3, _, _, _, _⟩ := S1.out.frees
    go_wp2
    refine bodyPost_ret (results_row_tmp Try.results49 _ _ _ _ _ _ _ rfl ((((S1.out.set_ 0 _).set_ 1 _).set_ 2 _).set_ 3 _) Try.underlying59 rfl infoPm) rfl ⟨_, rfl, PmOwn.zero _ _ _, ?_⟩
    repeat refine bset ?_ (by omega) _
    exact B1.out
  · have HI := Lib.hid (fun (W : World) => inr_yes l 0 ((n : Int) - 1) W hyes.1 (by omega))
    have HJ := Lib.hid (fun (W : World) => inr_yes q 0 (H - 1) W hyq.1 (by omega))
    have d1 : decide (0 ≤ a) = true := by simp; omega
    have d1' : decide (a ≥ 0) = true := by simp; omega
    have d2 : (a != l) = true := by simpa using hcf.2
    clear hyes hyq hcf
    go_wp2_with fail
    refine (HI.out _).mono ?_
    rintro e w9 ⟨rfl, rfl⟩
    go_wp2_with fail
    refine (HJ.out _).mono ?_
    rintro e w8 ⟨rfl, rfl⟩
    go_wp2_with fail
    refine (HA.out _ B1.out R1.out).mono ?_
    rintro e w2 ⟨rfl, k2, rfl⟩
    have B2 := Lib.hid (below_drewN B1.out k2)
    have R2 : Hid (Rw (w1.drewN k2) _ _ _) := Lib.hid R1.out
    have S2 : Hid (Rw (w1.drewN k2) _ _ _) := Lib.hid S1.out
    have Z2 : Hid (w.heap.size + 2 ≤ (w1.drewN k2).heap.size) := Lib.hid Z1.out
    obtain ⟨X2, hX2⟩ : ∃ X, X = w1.drewN k2 := ⟨_, rfl⟩
    rw [← hX2] at B2 R2 S2 Z2 ⊢
    clear hX2 R1 S1 B1 Z1 c0 c1 c2 c3
    obtain ⟨c0, c1, c2, c3⟩ := R2.out.four
    have := Z2.out
    obtain ⟨o0, o1, o2, o3⟩ := S2.out.four
    obtain ⟨f0, f1, f2, f3, _, _, _, _⟩ := S2.out.frees
    go_wp2
    refine bodyPost_ret (results_row_tmp Try.results49 _ _ _ _ _ _ _ rfl ((((S2.out.set_ 0 _).set_ 1 _).set_ 2 _).set_ 3 _) Try.underlying59 rfl infoPm) rfl ⟨_, rfl, PmOwn.zero _ _ _, ?_⟩
    repeat refine bset ?_ (by omega) _
    exact B2.out
  · have HI := Lib.hid (fun (W : World) => inr_yes (j : Int) 0 ((n : Int) - 1) W (by omega) (by omega))
    have HJ := Lib.hid (fun (W : World) => inr_yes q 0 (H - 1) W hyq.1 (by omega))
    have hji : (j : Int) < (n : Int) := by omega
    clear hyq
    go_wp2_with fail
    refine (HI.out _).mono ?_
    rintro e w9 ⟨rfl, rfl⟩
    go_wp2_with fail
    refine (HJ.out _).mono ?_
    rintro e w8 ⟨rfl, rfl⟩
    go_wp2_with fail
    refine (HA.out _ B1.out R1.out).mono ?_
    rintro e w2 ⟨rfl, k2, rfl⟩
    have B2 := Lib.hid (below_drewN B1.out k2)
    have R2 : Hid (Rw (w1.drewN k2) _ _ _) := Lib.hid R1.out
    have S2 : Hid (Rw (w1.drewN k2) _ _ _) := Lib.hid S1.out
    have Z2 : Hid (w.heap.size + 2 ≤ (w1.drewN k2).heap.size) := Lib.hid Z1.out
    obtain ⟨X2, hX2⟩ : ∃ X, X = w1.drewN k2 := ⟨_, rfl⟩
    rw [← hX2] at B2 R2 S2 Z2 ⊢
    clear hX2 R1 S1 B1 Z1 c0 c1 c2 c3
    obtain ⟨c0, c1, c2, c3⟩ := R2.out.four
    have HOW := Lib.hid (specOwn_any w.heap.size b p mp tr _ _ X2 hi R2.out (HI1.out _ B2.out) (HI2.out _ B2.out) (HH.out _ B2.out) H48.out.1 H48.out.2.1 HLL.out.1 HLL.out.2)
    have hdd : (a < 0 ∧ decide (0 ≤ a) = false ∧ decide (a ≥ 0) = false) ∨ (a = (j : Int) ∧ decide (0 ≤ a) = true ∧ decide (a ≥ 0) = true ∧ (a != (j : Int)) = false) := by
      rcases hfree with h | h
      · left; refine ⟨h, ?_, ?_⟩ <;> (simp; omega)
      · right; refine ⟨h, ?_, ?_, ?_⟩ <;> (simp; try omega)
    clear hfree
    rcases hdd with ⟨_, d1, d2⟩ | ⟨_, d1, d2, d3⟩
    · go_wp2_with fail
      refine HOW.out.mono ?_
      rintro e w4 ⟨G, m, k, G', m', k', rfl, hu, hv, qq⟩
      have B4 := B2.out.trans (qq.mono B2.out.size)
      have S4 := S2.out.below qq S2.out.lt
      have z2 := Z2.out
      have lm := own_len hu
      have lm' := own_lenB hv
      have hap := ownApart hu hv
      have hne : G ≠ G' := by
        rcases hap with h | h
        · cases h
        · intro e; exact h (by rw [e]; rfl)
      have g1 := hu.blockOf (k := G) rfl
      have g2 := hv.blockOf (k := G') rfl
      have hjl : j < mp.length := (by have := HNN.out; omega)
      have hjl' : j < tr.length := by have := H48.out.2.2; omega
      have x0 := (show IntsOwn (w4.alloc (.cells #[.int .i64 b, .int .i64 p, .slice (some ⟨G, 0, none⟩) m k, .slice (some ⟨G', 0, none⟩) m' k'] 59)) X2.heap.size _ mp from World.ownsRow.alloc hu _)
      have y0 := (show BoolsOwn (w4.alloc (.cells #[.int .i64 b, .int .i64 p, .slice (some ⟨G, 0, none⟩) m k, .slice (some ⟨G', 0, none⟩) m' k'] 59)) X2.heap.size _ tr from World.ownsRow.alloc hv _)
      have RM := Rw.new w4 59 #[.int .i64 b, .int .i64 p, .slice (some ⟨G, 0, none⟩) m k, .slice (some ⟨G', 0, none⟩) m' k']
      have S5 := S4.alloc (.cells #[.int .i64 b, .int .i64 p, .slice (some ⟨G, 0, none⟩) m k, .slice (some ⟨G', 0, none⟩) m' k'] 59)
      obtain ⟨c0, c1, c2, c3⟩ := RM.four
      have x1 := x0.cell (j := j) lm.symm (by omega)
      have x2 := x0.free lm.symm j
      have HX := x0.stored lm.symm j q
      have RM1 := RM.farA (g' := G) (k := j) (by omega) (.int .i64 q)
      have S6 := S5.farA (g' := G) (k := j) (by omega) (.int .i64 q)
      obtain ⟨d0, d1a, d2a, d3a⟩ := RM1.four
      have HV1 : BoolsOwn ((w4.alloc (.cells #[.int .i64 b, .int .i64 p, .slice (some ⟨G, 0, none⟩) m k, .slice (some ⟨G', 0, none⟩) m' k'] 59)).setCell ⟨G, j, none⟩ (.int .i64 q)) X2.heap.size _ tr := y0.sames fun k e => Below.heap_setCell _ ⟨G, j, none⟩ _ k (by have e2 : G' = k := Option.some.inj e; show k ≠ G; omega)
      have y1 := HV1.cell (j := j) lm'.symm (by omega)
      have y2 := HV1.free lm'.symm j
      have HY := Lib.hid (HV1.stored lm'.symm j t)
      have HX2 := Lib.hid (show IntsOwn (((w4.alloc (.cells #[.int .i64 b, .int .i64 p, .slice (some ⟨G, 0, none⟩) m k, .slice (some ⟨G', 0, none⟩) m' k'] 59)).setCell ⟨G, j, none⟩ (.int .i64 q)).setCell ⟨G', j, none⟩ (.bool t)) X2.heap.size _ (mp.set j q) from HX.sames fun k e => Below.heap_setCell _ ⟨G', j, none⟩ _ k (by have e2 : G = k := Option.some.inj e; show k ≠ G'; omega))
      have RM2 := RM1.farA (g' := G') (k := j) (by omega) (.bool t)
      have S7 := Lib.hid (S6.farA (g' := G') (k := j) (by omega) (.bool t))
      obtain ⟨e0, e1, e2, e3⟩ := RM2.four
      obtain ⟨o0, o1, o2, o3⟩ := S7.out.four
      obtain ⟨f0, f1, f2, f3, _, _, _, _⟩ := S7.out.frees
      have BB := Lib.hid (bset (bset (B4.alloc B4.size (.cells #[.int .i64 b, .int .i64 p, .slice (some ⟨G, 0, none⟩) m k, .slice (some ⟨G', 0, none⟩) m' k'] 59)) (g := G) (k := j) (by omega) (.int .i64 q)) (g := G') (k := j) (by omega) (.bool t))
      have HB2 := Lib.hid (And.intro z2 (And.intro g1 g2))
      have hji' : (j : Int) < (m : Int) := by omega
      have hji2 : (j : Int) < (m' : Int) := by omega
      have hmm : (m : Int) ≤ 1048576 := by have := HLL.out; omega
      have hmm' : (m' : Int) ≤ 1048576 := by have := HLL.out; omega
      have HAP := Lib.hid hap
      generalize mp.getD j 0 = xo at *
      generalize tr.getD j false = yo at *
      clear hu hv B4 S4 x0 y0 RM S5 HX RM1 S6 HV1 RM2 qq z2 lm lm' hap hne g1 g2 hjl hjl' hj
      go_wp2
      refine bodyPost_ret (results_row_tmp Try.results49 _ _ _ _ _ _ _ rfl ((((S7.out.set_ 0 _).set_ 1 _).set_ 2 _).set_ 3 _) Try.underlying59 rfl infoPm) rfl ⟨_, rfl, ?_, ?_⟩
      · refine ⟨_, _, rfl, ?_, ?_, HAP.out⟩
        · exact ((IO.mk_ HX2.out).1.sames fun k e => by
            have := (HX2.out.blockOf e).1
            have := HB2.out.1
            repeat rw [Below.heap_setCell _ ⟨_, _, none⟩ _ k (by simp; omega)]).low (by have := HB2.out.1; omega) |> fun q => ⟨q, fun k e => by have := (HX2.out.blockOf e).2; simpa using this⟩
        · exact ((BW.mk_ HY.out).1.sames fun k e => by
            have := (HY.out.blockOf e).1
            have := HB2.out.1
            repeat rw [Below.heap_setCell _ ⟨_, _, none⟩ _ k (by simp; omega)]).low (by have := HB2.out.1; omega) |> fun q => ⟨q, fun k e => by have := (HY.out.blockOf e).2; simpa using this⟩
      · repeat refine bset ?_ (by omega) _
        exact BB.out
    · go_wp2_with fail
      refine HOW.out.mono ?_
      rintro e w4 ⟨G, m, k, G', m', k', rfl, hu, hv, qq⟩
      have B4 := B2.out.trans (qq.mono B2.out.size)
      have S4 := S2.out.below qq S2.out.lt
      have z2 := Z2.out
      have lm := own_len hu
      have lm' := own_lenB hv
      have hap := ownApart hu hv
      have hne : G ≠ G' := by
        rcases hap with h | h
        · cases h
        · intro e; exact h (by rw [e]; rfl)
      have g1 := hu.blockOf (k := G) rfl
      have g2 := hv.blockOf (k := G') rfl
      have hjl : j < mp.length := (by have := HNN.out; omega)
      have hjl' : j < tr.length := by have := H48.out.2.2; omega
      have x0 := (show IntsOwn (w4.alloc (.cells #[.int .i64 b, .int .i64 p, .slice (some ⟨G, 0, none⟩) m k, .slice (some ⟨G', 0, none⟩) m' k'] 59)) X2.heap.size _ mp from World.ownsRow.alloc hu _)
      have y0 := (show BoolsOwn (w4.alloc (.cells #[.int .i64 b, .int .i64 p, .slice (some ⟨G, 0, none⟩) m k, .slice (some ⟨G', 0, none⟩) m' k'] 59)) X2.heap.size _ tr from World.ownsRow.alloc hv _)
      have RM := Rw.new w4 59 #[.int .i64 b, .int .i64 p, .slice (some ⟨G, 0, none⟩) m k, .slice (some ⟨G', 0, none⟩) m' k']
      have S5 := S4.alloc (.cells #[.int .i64 b, .int .i64 p, .slice (some ⟨G, 0, none⟩) m k, .slice (some ⟨G', 0, none⟩) m' k'] 59)
      obtain ⟨c0, c1, c2, c3⟩ := RM.four
      have x1 := x0.cell (j := j) lm.symm (by omega)
      have x2 := x0.free lm.symm j
      have HX := x0.stored lm.symm j q
      have RM1 := RM.farA (g' := G) (k := j) (by omega) (.int .i64 q)
      have S6 := S5.farA (g' := G) (k := j) (by omega) (.int .i64 q)
      obtain ⟨d0, d1a, d2a, d3a⟩ := RM1.four
      have HV1 : BoolsOwn ((w4.alloc (.cells #[.int .i64 b, .int .i64 p, .slice (some ⟨G, 0, none⟩) m k, .slice (some ⟨G', 0, none⟩) m' k'] 59)).setCell ⟨G, j, none⟩ (.int .i64 q)) X2.heap.size _ tr := y0.sames fun k e => Below.heap_setCell _ ⟨G, j, none⟩ _ k (by have e2 : G' = k := Option.some.inj e; show k ≠ G; omega)
      have y1 := HV1.cell (j := j) lm'.symm (by omega)
      have y2 := HV1.free lm'.symm j
      have HY := Lib.hid (HV1.stored lm'.symm j t)
      have HX2 := Lib.hid (show IntsOwn (((w4.alloc (.cells #[.int .i64 b, .int .i64 p, .slice (some ⟨G, 0, none⟩) m k, .slice (some ⟨G', 0, none⟩) m' k'] 59)).setCell ⟨G, j, none⟩ (.int .i64 q)).setCell ⟨G', j, none⟩ (.bool t)) X2.heap.size _ (mp.set j q) from HX.sames fun k e => Below.heap_setCell _ ⟨G', j, none⟩ _ k (by have e2 : G = k := Option.some.inj e; show k ≠ G'; omega))
      have RM2 := RM1.farA (g' := G') (k := j) (by omega) (.bool t)
      have S7 := Lib.hid (S6.farA (g' := G') (k := j) (by omega) (.bool t))
      obtain ⟨e0, e1, e2, e3⟩ := RM2.four
      obtain ⟨o0, o1, o2, o3⟩ := S7.out.four
      obtain ⟨f0, f1, f2, f3, _, _, _, _⟩ := S7.out.frees
      have BB := Lib.hid (bset (bset (B4.alloc B4.size (.cells #[.int .i64 b, .int .i64 p, .slice (some ⟨G, 0, none⟩) m k, .slice (some ⟨G', 0, none⟩) m' k'] 59)) (g := G) (k := j) (by omega) (.int .i64 q)) (g := G') (k := j) (by omega) (.bool t))
      have HB2 := Lib.hid (And.intro z2 (And.intro g1 g2))
      have hji' : (j : Int) < (m : Int) := by omega
      have hji2 : (j : Int) < (m' : Int) := by omega
      have hmm : (m : Int) ≤ 1048576 := by have := HLL.out; omega
      have hmm' : (m' : Int) ≤ 1048576 := by have := HLL.out; omega
      have HAP := Lib.hid hap
      generalize mp.getD j 0 = xo at *
      generalize tr.getD j false = yo at *
      clear hu hv B4 S4 x0 y0 RM S5 HX RM1 S6 HV1 RM2 qq z2 lm lm' hap hne g1 g2 hjl hjl' hj
      go_wp2
      refine bodyPost_ret (results_row_tmp Try.results49 _ _ _ _ _ _ _ rfl ((((S7.out.set_ 0 _).set_ 1 _).set_ 2 _).set_ 3 _) Try.underlying59 rfl infoPm) rfl ⟨_, rfl, ?_, ?_⟩
      · refine ⟨_, _, rfl, ?_, ?_, HAP.out⟩
        · exact ((IO.mk_ HX2.out).1.sames fun k e => by
            have := (HX2.out.blockOf e).1
            have := HB2.out.1
            repeat rw [Below.heap_setCell _ ⟨_, _, none⟩ _ k (by simp; omega)]).low (by have := HB2.out.1; omega) |> fun q => ⟨q, fun k e => by have := (HX2.out.blockOf e).2; simpa using this⟩
        · exact ((BW.mk_ HY.out).1.sames fun k e => by
            have := (HY.out.blockOf e).1
            have := HB2.out.1
            repeat rw [Below.heap_setCell _ ⟨_, _, none⟩ _ k (by simp; omega)]).low (by have := HB2.out.1; omega) |> fun q => ⟨q, fun k e => by have := (HY.out.blockOf e).2; simpa using this⟩
      · repeat refine bset ?_ (by omega) _
        exact BB.out
end Go.Proofs.Ytgkanacaijlljaa
