/- SetPage, the program: the contract. -/
import Derived.Test.YtgkanacaijlljaaProg
import Derived.Test.YtgkanacaijlljaaPmF
import Derived.Test.YtgkanacaijlljaaPmC
import Derived.Test.YtgkanacaijlljaaPmP
import Derived.Test.YtgkanacaijlljaaPmA
namespace Go.Proofs.Ytgkanacaijlljaa
open Go.RowKit
set_option linter.unusedVariables false
set_option linter.unusedSimpArgs false
set_option maxHeartbeats 4000000 in
set_option maxRecDepth 100000 in
theorem implSet_any (u : Value) (M : Pm) (l q : Int) (t r : Bool) (a : Int) (M' : Pm) (cc : Int) (w : World) (hi : Nat) (h : PmIn w hi u M) (hh : hi ≤ w.heap.size) (hr : r = true ↔ PmOk M) (ha : AtIs M.mp M.mp.length q a) (hS : SetIs M r l q t a M' cc) (hl : PmSz M) (hW : PmW M) (hq : WfI q) :
    Calls Try.prog 51 #[u, .int .i64 l, .int .i64 q, .bool t] w (PmPost M' cc w) := by
  have HV := Lib.hid (fun (W : World) (q : Below w.heap.size w W) => implPmOk_any u M r W hi (h.below q hh) (Nat.le_trans hh q.size) hr hl hW)
  obtain ⟨x, y, rfl, h1, h2⟩ := h
  obtain ⟨A, n, c, rfl⟩ := h1.slice
  obtain ⟨A', n', c', rfl⟩ := h2.slice
  obtain ⟨b, p, mp, tr⟩ := M
  unfold SetIs at hS
  unfold PmSz at hl
  unfold pmc at *
  simp only at *
  have hn : mp.length = n := by obtain ⟨X1, X2, X3, e, _, _, hn, _⟩ := h1; injection e with e1 e2 e3; omega
  have hn' : tr.length = n' := by obtain ⟨X1, X2, X3, e, _, _, hn, _⟩ := h2; injection e with e1 e2 e3; omega
  have hln : mp.length ≤ 1048576 := by omega
  have hln' : tr.length ≤ 1048576 := by omega
  have HI1 := Lib.hid (fun (W : World) (q : Below w.heap.size w W) => h1.below q hh)
  have HI2 := Lib.hid (fun (W : World) (q : Below w.heap.size w W) => h2.below q hh)
  have HH := Lib.hid (fun (W : World) (q : Below w.heap.size w W) => Nat.le_trans hh q.size)
  have b0 := ((Below.refl w.heap.size w).alloc (Nat.le_refl _) (.cells #[.int .i64 b, .int .i64 p, .slice A n c, .slice A' n' c'] 59)).alloc (by simp) (.cells #[.int .i64 0, .int .i64 0, .slice none 0 0, .slice none 0 0] 59)
  have r0 := (Rw.new w 59 #[.int .i64 b, .int .i64 p, .slice A n c, .slice A' n' c']).alloc (.cells #[.int .i64 0, .int .i64 0, .slice none 0 0, .slice none 0 0] 59)
  have r1 := Rw.new (w.alloc (.cells #[.int .i64 b, .int .i64 p, .slice A n c, .slice A' n' c'] 59)) 59 #[.int .i64 0, .int .i64 0, .slice none 0 0, .slice none 0 0]
  have hz : ((w.alloc (.cells #[.int .i64 b, .int .i64 p, .slice A n c, .slice A' n' c'] 59)).alloc (.cells #[.int .i64 0, .int .i64 0, .slice none 0 0, .slice none 0 0] 59)).heap.size = w.heap.size + 2 := by simp
  rw [show (w.alloc (.cells #[.int .i64 b, .int .i64 p, .slice A n c, .slice A' n' c'] 59)).heap.size = w.heap.size + 1 by simp] at r1
  have B0 := Lib.hid b0
  have R0 := Lib.hid r0
  have S0 := Lib.hid r1
  have Z0 := Lib.hid (show w.heap.size + 2 ≤ ((w.alloc (.cells #[.int .i64 b, .int .i64 p, .slice A n c, .slice A' n' c'] 59)).alloc (.cells #[.int .i64 0, .int .i64 0, .slice none 0 0, .slice none 0 0] 59)).heap.size by omega)
  have HR := Lib.hid hr
  have HNN := Lib.hid (And.intro hn hn')
  have HLL := Lib.hid (And.intro hln hln')
  have HOW := Lib.hid (fun (W : World) (qq : Below w.heap.size w W) => owners_any b p mp A A' n c n' c' W hi (HI1.out W qq) (HH.out W qq) hW.2 (by omega))
  have HE := Lib.hid (fun (e : r = true) => ha.own (tr := tr) (H := b * p) (Nat.le_refl _) (hr.1 e).2.2)
  have HQ := Lib.hid hq
  obtain ⟨c0, c1, c2, c3⟩ := R0.out.four
  clear h1 h2 hh hr ha hl hW hq hln hln' hn hn' b0 r0 r1 hz
  go_enter Try.func51, Try.ntmps51
  go_wp2_with fail
  refine (HV.out _ B0.out).mono ?_
  rintro e w1 ⟨rfl, qq⟩
  have B1 := Lib.hid (B0.out.trans (qq.mono B0.out.size))
  have R1 := Lib.hid (R0.out.below qq R0.out.lt)
  have S1 := Lib.hid (S0.out.below qq S0.out.lt)
  have Z1 := Lib.hid (Nat.le_trans Z0.out qq.size)
  clear qq B0 R0 S0 Z0
  clear c0 c1 c2 c3
  obtain ⟨c0, c1, c2, c3⟩ := R1.out.four
  cases r with
  | false =>
    obtain ⟨rfl, rfl⟩ : M' = Pm.zero ∧ cc = 1 := by
      rcases hS with ⟨_, h1, h2⟩ | ⟨h, _⟩ | ⟨h, _⟩ | ⟨h, _⟩ | ⟨_, h, _⟩
      · exact ⟨h1, h2⟩
      all_goals cases h
    clear hS
    have := Z1.out
    obtain ⟨o0, o1, o2, o3⟩ := S1.out.four
    obtain ⟨f0, f1, f2, f3, _, _, _, _⟩ := S1.out.frees
    go_wp2
    refine bodyPost_ret (results_row_tmp Try.results51 _ _ _ _ _ _ _ rfl ((((S1.out.set_ 0 _).set_ 1 _).set_ 2 _).set_ 3 _) Try.underlying59 rfl infoPm) rfl ⟨_, rfl, PmOwn.zero _ _ _, ?_⟩
    repeat refine bset ?_ (by omega) _
    exact B1.out
  | true =>
  have hok := HR.out.1 rfl
  obtain ⟨⟨⟨hs1, hs2⟩, ⟨hs3, hs4⟩, ⟨hs5, hs6⟩, hs7⟩, hs8, hs9⟩ := hok
  simp only at hs1 hs2 hs3 hs4 hs5 hs6 hs7 hs8
  have hmul := mulBound hs3 hs4 hs5 hs6
  obtain ⟨H, hH⟩ : ∃ H, H = b * p := ⟨_, rfl⟩
  have hw2 : IntKind.i64.wrap (b * p) = H := by rw [hH]; exact IntWalk.i64_in _ (by omega)
  have hw3 : IntKind.i64.wrap (H - 1) = H - 1 := IntWalk.i64_in _ (by omega)
  have hn := HNN.out.1
  have hn' := HNN.out.2
  have hw1 : IntKind.i64.wrap ((n : Int) - 1) = (n : Int) - 1 := IntWalk.i64_in _ (by omega)
  have hnn : n' = n := by omega
  have hn0 : 0 < n := by omega
  have hnm : (n : Int) ≤ 48 := by omega
  rw [hn, ← hH] at hS
  have H48 := Lib.hid (show 0 < mp.length ∧ 0 < tr.length ∧ tr.length = mp.length by omega)
  have HPH := Lib.hid (fun (W : World) (rr : Bool) (e : rr = true ↔ (0 ≤ q ∧ q < H)) => hasPhysical_any b p H q (.slice A n c) (.slice A' n' c') rr W hw2 e)
  have HLG := Lib.hid (fun (W : World) (rr : Bool) (e : rr = true ↔ (0 ≤ l ∧ l < (n : Int))) => hasLogical_any b p l A A' n c n' c' rr W (by omega) e)
  obtain ⟨e1, e2⟩ := HE.out rfl
  rw [hn] at e1 e2
  have E1 := Lib.hid e1
  have E2 := Lib.hid e2
  clear e1 e2 HE
  clear hs1 hs2 hs3 hs4 hs5 hs6 hs7 hs8 hs9 hmul hH hn hn' hnn HR
  rcases hS with ⟨h, _⟩ | ⟨_, hno, rfl, rfl⟩ | ⟨_, hyes, hno, rfl, rfl⟩ | ⟨_, hyes, hyq, hcf, rfl, rfl⟩ | ⟨j, _, rfl, hj, hyq, hfree, rfl, rfl⟩
  · cases h
  · have HL := Lib.hid (HLG.out w1 false (by simp; omega))
    clear hno
    go_wp2_with fail
    refine HL.out.mono ?_
    rintro e w2 ⟨rfl, qq⟩
    have B2 := Lib.hid (B1.out.trans (qq.mono B1.out.size))
    have R2 := Lib.hid (R1.out.below qq R1.out.lt)
    have S2 := Lib.hid (S1.out.below qq S1.out.lt)
    have Z2 := Lib.hid (Nat.le_trans Z1.out qq.size)
    clear qq B1 R1 S1 Z1
    have := Z2.out
    obtain ⟨o0, o1, o2, o3⟩ := S2.out.four
    obtain ⟨f0, f1, f2, f3, _, _, _, _⟩ := S2.out.frees
    go_wp2
    refine bodyPost_ret (results_row_tmp Try.results51 _ _ _ _ _ _ _ rfl ((((S2.out.set_ 0 _).set_ 1 _).set_ 2 _).set_ 3 _) Try.underlying59 rfl infoPm) rfl ⟨_, rfl, PmOwn.zero _ _ _, ?_⟩
    repeat refine bset ?_ (by omega) _
    exact B2.out
  · have HL := Lib.hid (HLG.out w1 true (by simp; omega))
    have HP := Lib.hid (fun (W : World) => HPH.out W false (by simp; omega))
    clear hno hyes
    go_wp2_with fail
    refine HL.out.mono ?_
    rintro e w2 ⟨rfl, qq⟩
    have B2 := Lib.hid (B1.out.trans (qq.mono B1.out.size))
    have R2 := Lib.hid (R1.out.below qq R1.out.lt)
    have S2 := Lib.hid (S1.out.below qq S1.out.lt)
    have Z2 := Lib.hid (Nat.le_trans Z1.out qq.size)
    clear qq B1 R1 S1 Z1
    clear c0 c1 c2 c3
    obtain ⟨c0, c1, c2, c3⟩ := R2.out.four
    go_wp2_with fail
    refine (HP.out _).mono ?_
    rintro e w3 ⟨rfl, qq⟩
    have B3 := Lib.hid (B2.out.trans (qq.mono B2.out.size))
    have R3 := Lib.hid (R2.out.below qq R2.out.lt)
    have S3 := Lib.hid (S2.out.below qq S2.out.lt)
    have Z3 := Lib.hid (Nat.le_trans Z2.out qq.size)
    clear qq B2 R2 S2 Z2
    clear c0 c1 c2 c3
    obtain ⟨c0, c1, c2, c3⟩ := R3.out.four
    have := Z3.out
    obtain ⟨o0, o1, o2, o3⟩ := S3.out.four
    obtain ⟨f0, f1, f2, f3, _, _, _, _⟩ := S3.out.frees
    go_wp2
    refine bodyPost_ret (results_row_tmp Try.results51 _ _ _ _ _ _ _ rfl ((((S3.out.set_ 0 _).set_ 1 _).set_ 2 _).set_ 3 _) Try.underlying59 rfl infoPm) rfl ⟨_, rfl, PmOwn.zero _ _ _, ?_⟩
    repeat refine bset ?_ (by omega) _
    exact B3.out
  · have HL := Lib.hid (HLG.out w1 true (by simp; omega))
    have HP := Lib.hid (fun (W : World) => HPH.out W true (by simp; omega))
    have d2 : (a != l) = true := by simpa using hcf.2
    have LV := Lib.hid (show logV true a = a ∧ logB true a = true from by simp [logV, logB]; omega)
    clear hyes hyq hcf
    go_wp2_with fail
    refine HL.out.mono ?_
    rintro e w2 ⟨rfl, qq⟩
    have B2 := Lib.hid (B1.out.trans (qq.mono B1.out.size))
    have R2 := Lib.hid (R1.out.below qq R1.out.lt)
    have S2 := Lib.hid (S1.out.below qq S1.out.lt)
    have Z2 := Lib.hid (Nat.le_trans Z1.out qq.size)
    clear qq B1 R1 S1 Z1
    clear c0 c1 c2 c3
    obtain ⟨c0, c1, c2, c3⟩ := R2.out.four
    go_wp2_with fail
    refine (HP.out _).mono ?_
    rintro e w3 ⟨rfl, qq⟩
    have B3 := Lib.hid (B2.out.trans (qq.mono B2.out.size))
    have R3 := Lib.hid (R2.out.below qq R2.out.lt)
    have S3 := Lib.hid (S2.out.below qq S2.out.lt)
    have Z3 := Lib.hid (Nat.le_trans Z2.out qq.size)
    clear qq B2 R2 S2 Z2
    clear c0 c1 c2 c3
    obtain ⟨c0, c1, c2, c3⟩ := R3.out.four
    go_wp2_with fail
    refine (HOW.out _ B3.out).mono ?_
    rintro e w4 ⟨g, rfl, hg, hm, qq⟩
    have hlk := hm.look HQ.out
    rw [E1.out, E2.out, LV.out.1, LV.out.2] at hlk
    have B4 := Lib.hid (B3.out.trans (qq.mono B3.out.size))
    have R4 := Lib.hid (R3.out.below qq R3.out.lt)
    have S4 := Lib.hid (S3.out.below qq S3.out.lt)
    have Z4 := Lib.hid (Nat.le_trans Z3.out qq.size)
    clear qq hm hg B3 R3 S3 Z3 c0 c1 c2 c3
    obtain ⟨c0, c1, c2, c3⟩ := R4.out.four
    have := Z4.out
    obtain ⟨o0, o1, o2, o3⟩ := S4.out.four
    obtain ⟨f0, f1, f2, f3, _, _, _, _⟩ := S4.out.frees
    go_wp2
    refine bodyPost_ret (results_row_tmp Try.results51 _ _ _ _ _ _ _ rfl ((((S4.out.set_ 0 _).set_ 1 _).set_ 2 _).set_ 3 _) Try.underlying59 rfl infoPm) rfl ⟨_, rfl, PmOwn.zero _ _ _, ?_⟩
    repeat refine bset ?_ (by omega) _
    exact B4.out
  · have HL := Lib.hid (HLG.out w1 true (by simp; omega))
    have HP := Lib.hid (fun (W : World) => HPH.out W true (by simp; omega))
    have hji : (j : Int) < (n : Int) := by omega
    clear hyq
    go_wp2_with fail
    refine HL.out.mono ?_
    rintro e w2 ⟨rfl, qq⟩
    have B2 := Lib.hid (B1.out.trans (qq.mono B1.out.size))
    have R2 := Lib.hid (R1.out.below qq R1.out.lt)
    have S2 := Lib.hid (S1.out.below qq S1.out.lt)
    have Z2 := Lib.hid (Nat.le_trans Z1.out qq.size)
    clear qq B1 R1 S1 Z1
    clear c0 c1 c2 c3
    obtain ⟨c0, c1, c2, c3⟩ := R2.out.four
    go_wp2_with fail
    refine (HP.out _).mono ?_
    rintro e w3 ⟨rfl, qq⟩
    have B3 := Lib.hid (B2.out.trans (qq.mono B2.out.size))
    have R3 := Lib.hid (R2.out.below qq R2.out.lt)
    have S3 := Lib.hid (S2.out.below qq S2.out.lt)
    have Z3 := Lib.hid (Nat.le_trans Z2.out qq.size)
    clear qq B2 R2 S2 Z2
    clear c0 c1 c2 c3
    obtain ⟨c0, c1, c2, c3⟩ := R3.out.four
    have HCL := Lib.hid (fun (W : World) (qq : Below w.heap.size w W) => clonePm_any b p mp tr A A' n c n' c' W hi (HI1.out _ qq) (HI2.out _ qq) (HH.out _ qq) H48.out.1 H48.out.2.1 HLL.out.1 HLL.out.2)
    rcases hfree with hf | hf
    · have LV := Lib.hid (show logV true a = 0 ∧ logB true a = false from by simp [logV, logB]; omega)
      clear hf
      go_wp2_with fail
      refine (HOW.out _ B3.out).mono ?_
      rintro e w4 ⟨g, rfl, hg, hm, qq⟩
      have hlk := hm.look HQ.out
      rw [E1.out, E2.out, LV.out.1, LV.out.2] at hlk
      have B4 := Lib.hid (B3.out.trans (qq.mono B3.out.size))
      have R4 := Lib.hid (R3.out.below qq R3.out.lt)
      have S4 := Lib.hid (S3.out.below qq S3.out.lt)
      have Z4 := Lib.hid (Nat.le_trans Z3.out qq.size)
      clear qq hm hg B3 R3 S3 Z3 c0 c1 c2 c3
      obtain ⟨c0, c1, c2, c3⟩ := R4.out.four
      go_wp2_with fail
      refine (HCL.out _ B4.out).mono ?_
      rintro e w5 ⟨G, m, k, G', m', k', rfl, hu, hv, qq⟩
      have B5 := B4.out.trans (qq.mono B4.out.size)
      have S5 := S4.out.below qq S4.out.lt
      have z2 := Z4.out
      have g1 := hu.blockOf (k := G) rfl
      have g2 := hv.blockOf (k := G') rfl
      have hjl : j < mp.length := (by have := HNN.out; omega)
      have hjl' : j < tr.length := by have := H48.out.2.2; omega
      have x0 := (show IntsOwn (w5.alloc (.cells #[.int .i64 b, .int .i64 p, .slice (some ⟨G, 0, none⟩) m k, .slice (some ⟨G', 0, none⟩) m' k'] 59)) w4.heap.size _ mp from World.ownsRow.alloc hu _)
      have y0 := (show BoolsOwn (w5.alloc (.cells #[.int .i64 b, .int .i64 p, .slice (some ⟨G, 0, none⟩) m k, .slice (some ⟨G', 0, none⟩) m' k'] 59)) w4.heap.size _ tr from World.ownsRow.alloc hv _)
      have RM := Lib.hid (Rw.new w5 59 #[.int .i64 b, .int .i64 p, .slice (some ⟨G, 0, none⟩) m k, .slice (some ⟨G', 0, none⟩) m' k'])
      have S6 := Lib.hid (S5.alloc (.cells #[.int .i64 b, .int .i64 p, .slice (some ⟨G, 0, none⟩) m k, .slice (some ⟨G', 0, none⟩) m' k'] 59))
      have B6 := Lib.hid (B5.alloc B5.size (.cells #[.int .i64 b, .int .i64 p, .slice (some ⟨G, 0, none⟩) m k, .slice (some ⟨G', 0, none⟩) m' k'] 59))
      have HST := Lib.hid (setPm_any b p G m k G' m' k' j q t mp tr (w5.alloc (.cells #[.int .i64 b, .int .i64 p, .slice (some ⟨G, 0, none⟩) m k, .slice (some ⟨G', 0, none⟩) m' k'] 59)) w4.heap.size x0 y0 (by have := qq.size; simp; omega) hjl hjl' HLL.out.1 HLL.out.2)
      have HGG := Lib.hid (And.intro g1 (And.intro g2 z2))
      have HSZ := Lib.hid (show (w5.alloc (.cells #[.int .i64 b, .int .i64 p, .slice (some ⟨G, 0, none⟩) m k, .slice (some ⟨G', 0, none⟩) m' k'] 59)).heap.size = w5.heap.size + 1 by simp)
      clear hu hv B5 S5 x0 y0 qq z2 g1 g2 hjl hjl' hj c0 c1 c2 c3
      obtain ⟨c0, c1, c2, c3⟩ := RM.out.four
      go_wp2_with fail
      refine HST.out.mono ?_
      rintro e w7 ⟨rfl, hx, hy, qq, hk⟩
      have HX2 := Lib.hid hx
      have HY := Lib.hid hy
      have RM2 : Hid (Rw w7 w5.heap.size 59 #[.int .i64 b, .int .i64 p, .slice (some ⟨G, 0, none⟩) m k, .slice (some ⟨G', 0, none⟩) m' k']) := Lib.hid ((hk _ (by rw [HSZ.out]; omega) (by have := HGG.out.1; omega) (by have := HGG.out.2.1; omega)).trans RM.out)
      have S7 := Lib.hid (S6.out.below qq (by have := HGG.out.2.2; omega))
      have BB := Lib.hid (B6.out.trans (qq.mono (by have := HGG.out.2.2; omega)))
      have HB2 := Lib.hid (And.intro HGG.out.2.2 (And.intro (HX2.out.blockOf (k := G) rfl) (HY.out.blockOf (k := G') rfl)))
      have HAP := Lib.hid (ownApart HX2.out HY.out)
      clear hx hy qq hk RM S6 B6 HST c0 c1 c2 c3
      obtain ⟨e0, e1, e2, e3⟩ := RM2.out.four
      obtain ⟨o0, o1, o2, o3⟩ := S7.out.four
      obtain ⟨f0, f1, f2, f3, _, _, _, _⟩ := S7.out.frees
      go_wp2
      refine bodyPost_ret (results_row_tmp Try.results51 _ _ _ _ _ _ _ rfl ((((S7.out.set_ 0 _).set_ 1 _).set_ 2 _).set_ 3 _) Try.underlying59 rfl infoPm) rfl ⟨_, rfl, ?_, ?_⟩
      · refine ⟨_, _, rfl, ?_, ?_, HAP.out⟩
        · exact ((IO.mk_ HX2.out).1.sames fun k e => by
            have := (HX2.out.blockOf e).1
            have := HB2.out.1
            repeat rw [Below.heap_setCell _ ⟨_, _, none⟩ _ k (by simp; omega)]).low (by have := HB2.out.1; omega) |> fun q => ⟨q, fun k e => by have := (HX2.out.blockOf e).2; simpa using this⟩
        · exact ((BW.mk_ HY.out).1.sames fun k e => by
            have := (HY.out.blockOf e).1
            have := HB2.out.1
            repeat rw [Below.heap_setCell _ ⟨_, _, none⟩ _ k (by simp; omega)]).low (by have := HB2.out.1; omega) |> fun q => ⟨q, fun k e => by have := (HY.out.blockOf e).2; simpa using this⟩
      · repeat refine bset ?_ (by omega) _
        exact BB.out
    · have LV := Lib.hid (show logV true a = (j : Int) ∧ logB true a = true from by simp [logV, logB]; omega)
      have dd : ((j : Int) != (j : Int)) = false := by simp
      clear hf
      go_wp2_with fail
      refine (HOW.out _ B3.out).mono ?_
      rintro e w4 ⟨g, rfl, hg, hm, qq⟩
      have hlk := hm.look HQ.out
      rw [E1.out, E2.out, LV.out.1, LV.out.2] at hlk
      have B4 := Lib.hid (B3.out.trans (qq.mono B3.out.size))
      have R4 := Lib.hid (R3.out.below qq R3.out.lt)
      have S4 := Lib.hid (S3.out.below qq S3.out.lt)
      have Z4 := Lib.hid (Nat.le_trans Z3.out qq.size)
      clear qq hm hg B3 R3 S3 Z3 c0 c1 c2 c3
      obtain ⟨c0, c1, c2, c3⟩ := R4.out.four
      go_wp2_with fail
      refine (HCL.out _ B4.out).mono ?_
      rintro e w5 ⟨G, m, k, G', m', k', rfl, hu, hv, qq⟩
      have B5 := B4.out.trans (qq.mono B4.out.size)
      have S5 := S4.out.below qq S4.out.lt
      have z2 := Z4.out
      have g1 := hu.blockOf (k := G) rfl
      have g2 := hv.blockOf (k := G') rfl
      have hjl : j < mp.length := (by have := HNN.out; omega)
      have hjl' : j < tr.length := by have := H48.out.2.2; omega
      have x0 := (show IntsOwn (w5.alloc (.cells #[.int .i64 b, .int .i64 p, .slice (some ⟨G, 0, none⟩) m k, .slice (some ⟨G', 0, none⟩) m' k'] 59)) w4.heap.size _ mp from World.ownsRow.alloc hu _)
      have y0 := (show BoolsOwn (w5.alloc (.cells #[.int .i64 b, .int .i64 p, .slice (some ⟨G, 0, none⟩) m k, .slice (some ⟨G', 0, none⟩) m' k'] 59)) w4.heap.size _ tr from World.ownsRow.alloc hv _)
      have RM := Lib.hid (Rw.new w5 59 #[.int .i64 b, .int .i64 p, .slice (some ⟨G, 0, none⟩) m k, .slice (some ⟨G', 0, none⟩) m' k'])
      have S6 := Lib.hid (S5.alloc (.cells #[.int .i64 b, .int .i64 p, .slice (some ⟨G, 0, none⟩) m k, .slice (some ⟨G', 0, none⟩) m' k'] 59))
      have B6 := Lib.hid (B5.alloc B5.size (.cells #[.int .i64 b, .int .i64 p, .slice (some ⟨G, 0, none⟩) m k, .slice (some ⟨G', 0, none⟩) m' k'] 59))
      have HST := Lib.hid (setPm_any b p G m k G' m' k' j q t mp tr (w5.alloc (.cells #[.int .i64 b, .int .i64 p, .slice (some ⟨G, 0, none⟩) m k, .slice (some ⟨G', 0, none⟩) m' k'] 59)) w4.heap.size x0 y0 (by have := qq.size; simp; omega) hjl hjl' HLL.out.1 HLL.out.2)
      have HGG := Lib.hid (And.intro g1 (And.intro g2 z2))
      have HSZ := Lib.hid (show (w5.alloc (.cells #[.int .i64 b, .int .i64 p, .slice (some ⟨G, 0, none⟩) m k, .slice (some ⟨G', 0, none⟩) m' k'] 59)).heap.size = w5.heap.size + 1 by simp)
      clear hu hv B5 S5 x0 y0 qq z2 g1 g2 hjl hjl' hj c0 c1 c2 c3
      obtain ⟨c0, c1, c2, c3⟩ := RM.out.four
      go_wp2_with fail
      refine HST.out.mono ?_
      rintro e w7 ⟨rfl, hx, hy, qq, hk⟩
      have HX2 := Lib.hid hx
      have HY := Lib.hid hy
      have RM2 : Hid (Rw w7 w5.heap.size 59 #[.int .i64 b, .int .i64 p, .slice (some ⟨G, 0, none⟩) m k, .slice (some ⟨G', 0, none⟩) m' k']) := Lib.hid ((hk _ (by rw [HSZ.out]; omega) (by have := HGG.out.1; omega) (by have := HGG.out.2.1; omega)).trans RM.out)
      have S7 := Lib.hid (S6.out.below qq (by have := HGG.out.2.2; omega))
      have BB := Lib.hid (B6.out.trans (qq.mono (by have := HGG.out.2.2; omega)))
      have HB2 := Lib.hid (And.intro HGG.out.2.2 (And.intro (HX2.out.blockOf (k := G) rfl) (HY.out.blockOf (k := G') rfl)))
      have HAP := Lib.hid (ownApart HX2.out HY.out)
      clear hx hy qq hk RM S6 B6 HST c0 c1 c2 c3
      obtain ⟨e0, e1, e2, e3⟩ := RM2.out.four
      obtain ⟨o0, o1, o2, o3⟩ := S7.out.four
      obtain ⟨f0, f1, f2, f3, _, _, _, _⟩ := S7.out.frees
      go_wp2
      refine bodyPost_ret (results_row_tmp Try.results51 _ _ _ _ _ _ _ rfl ((((S7.out.set_ 0 _).set_ 1 _).set_ 2 _).set_ 3 _) Try.underlying59 rfl infoPm) rfl ⟨_, rfl, ?_, ?_⟩
      · refine ⟨_, _, rfl, ?_, ?_, HAP.out⟩
        · exact ((IO.mk_ HX2.out).1.sames fun k e => by
            have := (HX2.out.blockOf e).1
            have := HB2.out.1
            repeat rw [Below.heap_setCell _ ⟨_, _, none⟩ _ k (by simp; omega)]).low (by have := HB2.out.1; omega) |> fun q => ⟨q, fun k e => by have := (HX2.out.blockOf e).2; simpa using this⟩
        · exact ((BW.mk_ HY.out).1.sames fun k e => by
            have := (HY.out.blockOf e).1
            have := HB2.out.1
            repeat rw [Below.heap_setCell _ ⟨_, _, none⟩ _ k (by simp; omega)]).low (by have := HB2.out.1; omega) |> fun q => ⟨q, fun k e => by have := (HY.out.blockOf e).2; simpa using this⟩
      · repeat refine bset ?_ (by omega) _
        exact BB.out
end Go.Proofs.Ytgkanacaijlljaa
