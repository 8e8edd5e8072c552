/- The proof's own lemmas, part 31: WnR. -/
import Derived.Test.YtainlanblpccjaaProg
import Derived.Test.YtainlanblpccjaaMg27
import Derived.Test.YtainlanblpccjaaMg29
/- RewriteHot, in the model: the contract. -/
namespace Go.Proofs.Ytainlanblpccjaa
open Go.RowKit
set_option linter.unusedVariables false
set_option linter.unusedSimpArgs false
theorem WeOwn.setLow {w : World} {lo hi g k : Nat} {u v : Value} {G : We} (h : WeOwn w lo hi u G) (hg : g < lo) : WeOwn (w.setCell ⟨g, k, none⟩ v) lo hi u G := h.same fun j h1 h2 => Below.heap_setCell _ ⟨g, k, none⟩ _ j (by show j ≠ g; omega)
set_option maxHeartbeats 8000000 in
set_option maxRecDepth 100000 in
theorem specRwh_any (u : Value) (M : We) (bk : Int) (r : Bool) (G : We) (p cd : Int) (w : World) (hi : Nat) (h : WeIn w hi u M) (hh : hi ≤ w.heap.size) (hb : (Lit.int .i64 bk).wf = true) (hr : r = true ↔ WeOk M) (hg : RwhIs M r bk G p cd) (hl : WeSz M) :
    Calls Try.prog 16 #[u, .int .i64 bk] w (WePost3 G p cd w) := by
  obtain ⟨G1, p1, c1, hG1⟩ := plcIs M r true
  have HSV := Lib.hid (fun (W : World) (b : Below w.heap.size w W) => specWeOk_any u M r W hi (h.below b hh) (Nat.le_trans hh b.size) hr hl)
  have HPD := Lib.hid (fun (W : World) (b : Below w.heap.size w W) => specPlc_any u M true r G1 p1 c1 W hi (h.below b hh) (Nat.le_trans hh b.size) hr hG1 hl)
  obtain ⟨ae, ab, ac, rfl, i1, i2, i3⟩ := h
  obtain ⟨A1, n1, k1, rfl, _, _, hn1, hA1⟩ := i1
  obtain ⟨A2, n2, k2, rfl⟩ := i2.slice
  obtain ⟨A3, n3, k3, rfl, _, _, hn3, hA3⟩ := i3
  obtain ⟨nb, hnb⟩ : ∃ n, n = M.n := ⟨_, rfl⟩
  unfold wec at HSV HPD ⊢
  rw [← hnb] at HSV HPD ⊢

  obtain ⟨r0, r1, bb⟩ := Rw.two_new w 27 27 #[.slice A1 n1 k1, .slice A2 n2 k2, .slice A3 n3 k3, .int .i64 nb] #[.slice none 0 0, .slice none 0 0, .slice none 0 0, .int .i64 0]
  obtain ⟨W0, hW0⟩ : ∃ W0, W0 = (w.alloc (.cells #[.slice A1 n1 k1, .slice A2 n2 k2, .slice A3 n3 k3, .int .i64 nb] 27)).alloc (.cells #[.slice none 0 0, .slice none 0 0, .slice none 0 0, .int .i64 0] 27) := ⟨_, rfl⟩
  have hz0 : W0.heap.size = w.heap.size + 2 := by rw [hW0]; simp
  rw [← hW0] at r0 r1 bb
  have KP := Lib.hid (fun (W : World) (b : Below (w.heap.size + 2) W0 W) => show Rw W w.heap.size 27 #[.slice A1 n1 k1, .slice A2 n2 k2, .slice A3 n3 k3, .int .i64 nb] ∧ Rw W (w.heap.size + 1) 27 #[.slice none 0 0, .slice none 0 0, .slice none 0 0, .int .i64 0] ∧ Below w.heap.size w W from
    ⟨r0.below b (by omega), r1.below b (by omega), bb.trans (b.mono (by omega))⟩)
  have BZ : Below (w.heap.size + 2) W0 W0 := Below.refl _ _
  have Z0 : w.heap.size + 2 ≤ W0.heap.size := by omega
  have HG := Lib.hid hg
  have HG1 := Lib.hid hG1
  have HHH := Lib.hid hh
  obtain ⟨q0, q1, q2, q3⟩ := r0.four
  clear r0 r1 bb hz0 hb
  cases r with
  | false =>
    obtain ⟨hG, hp, hc⟩ : G = We.zero ∧ p = 0 ∧ cd = 1 := by
      rcases HG.out with ⟨e, a, b, c⟩ | ⟨e, n, a, b, c⟩ | ⟨e, n, m, a, b, c⟩ | ⟨e, n, m, k, a, b, c⟩ | ⟨e, n, m, k, f, a, b, c⟩ | ⟨e, n, m, k, f, a, b, c⟩
      all_goals first
        | exact ⟨a, b, c⟩
        | (exfalso; cases e)
    subst hp; subst hc
    have HGG := Lib.hid hG
    clear hG HG
    clear hn1 hA1 hn3 hA3 i2 hr hG1 hg HG1 HPD hnb
    go_enter Try.func16, Try.ntmps16
    go_wp2_with fail
    rw [← hW0]
    clear hW0 q0 q1 q2 q3
    refine (HSV.out _ (KP.out _ BZ).2.2).mono ?_
    rintro e w1 ⟨rfl, q⟩
    have B1 := BZ.trans (q.mono Z0)
    have Z1 := Nat.le_trans Z0 q.size
    clear q
    have R9 := Lib.hid (KP.out _ B1).2.1
    have L9 := Lib.hid (KP.out _ B1).2.2
    obtain ⟨d0, d1, d2, d3⟩ := R9.out.four
    obtain ⟨f0, f1, f2, f3, _, _, _, _⟩ := R9.out.frees
    go_wp2
    refine bodyPost_ret (results_row_tmpW Try.results16 _ _ _ _ #[.slice none 0 0, .slice none 0 0, .slice none 0 0, .int .i64 0] _ _ rfl ((((R9.out.set_ 0 _).set_ 1 _).set_ 2 _).set_ 3 _) Try.underlying27 rfl infoWe) rfl ⟨_, rfl, by rw [HGG.out]; exact WeOwn.zero _ _ _, ?_⟩
    repeat refine bset ?_ (by omega) _
    exact L9.out
  | true =>
    have o := hr.1 rfl
    obtain ⟨o1, o2, o3, o4, o5⟩ := o
    have hln : n3 = n1 := by omega
    subst hln
    obtain ⟨pe, oe, rfl, hpe, hxe⟩ := hA1 (by omega)
    obtain ⟨pc, oc, rfl, hpc, hxc⟩ := hA3 (by omega)
    have HEC := Lib.hid (fun (W : World) (b : Below w.heap.size w W) (j : Nat) (hj : j < n3) => show W.cell? ⟨pe, oe + j, none⟩ = some (.int .i64 (M.e.getD j 0)) ∧ W.cell? ⟨pc, oc + j, none⟩ = some (.int .i64 (M.c.getD j 0)) from
      ⟨(b.cell (p := ⟨pe, oe + j, none⟩) (by show pe < _; omega)).trans (hxe j hj), (b.cell (p := ⟨pc, oc + j, none⟩) (by show pc < _; omega)).trans (hxc j hj)⟩)
    have HOK := Lib.hid (show WeOk M from hr.1 rfl)
    have HN := Lib.hid hn1
    have hn36 : n3 ≤ 36 := by omega
    have hn0 : 1 ≤ n3 := by omega
    have hHW := Lib.hid o5
    have HN3 := Lib.hid hn3
    have HNB := Lib.hid hnb
    have hwl : IntKind.i64.wrap ((n3 : Int) - 1) = (n3 : Int) - 1 := IntWalk.i64_in _ (by omega)
    obtain ⟨inr, hin⟩ := prop_dec' (0 ≤ bk ∧ bk < (n3 : Int))
    have HIN := Lib.hid hin
    clear hA1 hA3 i2 hr hG1 hg hn1 hn3 hxe hxc hpe hpc o1 o2 o3 o4 o5 hl hin hh hnb
    go_enter Try.func16, Try.ntmps16
    go_wp2_with fail
    rw [← hW0]
    clear hW0 q0 q1 q2 q3
    refine (HSV.out _ (KP.out _ BZ).2.2).mono ?_
    rintro e w1 ⟨rfl, q⟩
    have B1 := BZ.trans (q.mono Z0)
    have Z1 := Nat.le_trans Z0 q.size
    clear q HSV
    obtain ⟨q0, q1, q2, q3⟩ := (KP.out _ B1).1.four
    cases inr with
    | false =>
      have hni : bk < 0 ∨ (n3 : Int) - 1 < bk := by
        rcases (by omega : (bk < 0 ∨ (n3 : Int) - 1 < bk) ∨ (0 ≤ bk ∧ bk < (n3 : Int))) with e | e
        · exact e
        · have := HIN.out.2 e; cases this
      go_wp2_with fail
      refine (l00In_no _ _ _ _ hni).mono ?_
      rintro e w' ⟨rfl, rfl⟩
      have hno := Lib.hid (show ¬ (0 ≤ bk ∧ bk < (M.e.length : Int)) from fun e => by have := HN.out; omega)
      clear hni
      obtain ⟨hG, hp, hc⟩ : G = We.zero ∧ p = 0 ∧ cd = 2 := by
        rcases HG.out with ⟨e, a, b, c⟩ | ⟨e, n, a, b, c⟩ | ⟨e, n, m, a, b, c⟩ | ⟨e, n, m, k, a, b, c⟩ | ⟨e, n, m, k, f, a, b, c⟩ | ⟨e, n, m, k, f, a, b, c⟩
        all_goals first
          | exact ⟨a, b, c⟩
          | (exfalso; first | (cases e; done) | exact hno.out n)
      subst hp; subst hc
      have HGG := Lib.hid hG
      clear hG HG
      clear hno HIN HPD HG1 q0 q1 q2 q3
      have R9 := Lib.hid (KP.out _ B1).2.1
      have L9 := Lib.hid (KP.out _ B1).2.2
      obtain ⟨d0, d1, d2, d3⟩ := R9.out.four
      obtain ⟨f0, f1, f2, f3, _, _, _, _⟩ := R9.out.frees
      go_wp2
      refine bodyPost_ret (results_row_tmpW Try.results16 _ _ _ _ #[.slice none 0 0, .slice none 0 0, .slice none 0 0, .int .i64 0] _ _ rfl ((((R9.out.set_ 0 _).set_ 1 _).set_ 2 _).set_ 3 _) Try.underlying27 rfl infoWe) rfl ⟨_, rfl, by rw [HGG.out]; exact WeOwn.zero _ _ _, ?_⟩
      repeat refine bset ?_ (by omega) _
      exact L9.out
    | true =>
      have hin := HIN.out.1 rfl
      obtain ⟨j, rfl⟩ : ∃ j : Nat, bk = (j : Int) := ⟨bk.toNat, by omega⟩
      have hj : j < n3 := by omega
      have hjI : (j : Int) < (n3 : Int) := by omega
      have hj0 : (0 : Int) ≤ (j : Int) := by omega
      have hy : (0 : Int) ≤ (j : Int) ∧ (j : Int) ≤ (n3 : Int) - 1 := by omega
      go_wp2_with fail
      refine (l00In_yes _ _ _ _ hy.1 hy.2).mono ?_
      rintro e w' ⟨rfl, rfl⟩
      clear hin HIN hy
      obtain ⟨zE, zC⟩ := HEC.out _ (KP.out _ B1).2.2 j hj
      obtain ⟨x, hx⟩ : ∃ x, x = M.e.getD j 0 := ⟨_, rfl⟩
      obtain ⟨y, hy⟩ : ∃ y, y = M.c.getD j 0 := ⟨_, rfl⟩
      rw [← hx] at zE
      rw [← hy] at zC
      have HX := Lib.hid (show M.e.getD ((j : Int).toNat) 0 = x by rw [hx]; simp)
      have HY := Lib.hid (show M.c.getD ((j : Int).toNat) 0 = y by rw [hy]; simp)
      have HR := Lib.hid (show 0 ≤ (j : Int) ∧ (j : Int) < (M.e.length : Int) by have := HN.out; omega)
      have HXB := Lib.hid (show 0 ≤ x ∧ x ≤ 1000 from by rw [hx]; exact (hHW.out j (by have := HN.out; omega)).1)
      clear hx hy
      by_cases hy2 : y = 2
      case neg =>
        have e2 : (y == 2) = false := by rw [beq_eq_false_iff_ne]; exact hy2
        have e3 : decide (y = 2) = false := by simp; exact hy2
        have H2 := Lib.hid hy2
        clear hy2
        obtain ⟨hG, hp, hc⟩ : G = We.zero ∧ p = 0 ∧ cd = 5 := by
          rcases HG.out with ⟨e, a, b, c⟩ | ⟨e, n, a, b, c⟩ | ⟨e, n, m, a, b, c⟩ | ⟨e, n, m, k, a, b, c⟩ | ⟨e, n, m, k, f, a, b, c⟩ | ⟨e, n, m, k, f, a, b, c⟩
          all_goals first
            | exact ⟨a, b, c⟩
            | (exfalso; first | (cases e; done) | exact n HR.out | exact H2.out (HY.out.symm.trans m))
        subst hp; subst hc
        have HGG := Lib.hid hG
        clear hG HG
        clear HX HY HR HXB H2 HPD HG1 HEC
        have R9 := Lib.hid (KP.out _ B1).2.1
        have L9 := Lib.hid (KP.out _ B1).2.2
        obtain ⟨d0, d1, d2, d3⟩ := R9.out.four
        obtain ⟨f0, f1, f2, f3, _, _, _, _⟩ := R9.out.frees
        go_wp2
        refine bodyPost_ret (results_row_tmpW Try.results16 _ _ _ _ #[.slice none 0 0, .slice none 0 0, .slice none 0 0, .int .i64 0] _ _ rfl ((((R9.out.set_ 0 _).set_ 1 _).set_ 2 _).set_ 3 _) Try.underlying27 rfl infoWe) rfl ⟨_, rfl, by rw [HGG.out]; exact WeOwn.zero _ _ _, ?_⟩
        repeat refine bset ?_ (by omega) _
        exact L9.out
      subst hy2
      by_cases hx2 : x = 1000
      case pos =>
        subst hx2
        obtain ⟨hG, hp, hc⟩ : G = We.zero ∧ p = 0 ∧ cd = 7 := by
          rcases HG.out with ⟨e, a, b, c⟩ | ⟨e, n, a, b, c⟩ | ⟨e, n, m, a, b, c⟩ | ⟨e, n, m, k, a, b, c⟩ | ⟨e, n, m, k, f, a, b, c⟩ | ⟨e, n, m, k, f, a, b, c⟩
          all_goals first
            | exact ⟨a, b, c⟩
            | (exfalso; first | (cases e; done) | exact n HR.out | exact m HY.out | exact k HX.out)
        subst hp; subst hc
        have HGG := Lib.hid hG
        clear hG HG
        clear HX HY HR HXB HPD HG1 HEC
        have R9 := Lib.hid (KP.out _ B1).2.1
        have L9 := Lib.hid (KP.out _ B1).2.2
        obtain ⟨d0, d1, d2, d3⟩ := R9.out.four
        obtain ⟨f0, f1, f2, f3, _, _, _, _⟩ := R9.out.frees
        go_wp2
        refine bodyPost_ret (results_row_tmpW Try.results16 _ _ _ _ #[.slice none 0 0, .slice none 0 0, .slice none 0 0, .int .i64 0] _ _ rfl ((((R9.out.set_ 0 _).set_ 1 _).set_ 2 _).set_ 3 _) Try.underlying27 rfl infoWe) rfl ⟨_, rfl, by rw [HGG.out]; exact WeOwn.zero _ _ _, ?_⟩
        repeat refine bset ?_ (by omega) _
        exact L9.out
      have e2 : (x == 1000) = false := by rw [beq_eq_false_iff_ne]; exact hx2
      have e3 : decide (x = 1000) = false := by simp; exact hx2
      have H2 := Lib.hid hx2
      clear hx2
      go_wp2_with fail
      refine (HPD.out _ (KP.out _ B1).2.2).mono ?_
      rintro e w2 ⟨u1, rfl, ho, q⟩
      clear q0 q1 q2 q3 zE zC e2 e3 HPD HEC
      have B2 := B1.trans (q.mono Z1)
      have Z2 := Nat.le_trans Z1 q.size
      clear q
      rcases HG1.out with ⟨e, _⟩ | ⟨_, hm, hG1, hp1, hc1⟩ | ⟨_, hm0, hm1, hG1, hp1, hc1⟩
      · cases e
      · subst hp1; subst hc1
        have HM := Lib.hid hm
        obtain ⟨A4, n4, k4, A5, n5, k5, A6, n6, k6, g7, rfl⟩ := ho.agg_
        obtain ⟨hG, hp, hc⟩ : G = We.zero ∧ p = 0 ∧ cd = 4 := by
          rcases HG.out with ⟨e, a, b, c⟩ | ⟨e, n, a, b, c⟩ | ⟨e, n, m, a, b, c⟩ | ⟨e, n, m, k, a, b, c⟩ | ⟨e, n, m, k, f, a, b, c⟩ | ⟨e, n, m, k, f, a, b, c⟩
          all_goals first
            | exact ⟨a, b, c⟩
            | (exfalso; first | (cases e; done) | exact n HR.out | exact m HY.out | exact H2.out (HX.out.symm.trans k) | (have := HM.out; omega))
        subst hp; subst hc
        have HGG := Lib.hid hG
        clear hG HG
        obtain ⟨X, hX⟩ : ∃ X, X = w2.alloc (.cells #[.slice A4 n4 k4, .slice A5 n5 k5, .slice A6 n6 k6, .int .i64 g7] 27) := ⟨_, rfl⟩
        have B3 : Below (w.heap.size + 2) W0 X := by rw [hX]; exact B2.alloc Z2 _
        clear HX HY HR HXB H2 HM HG1 ho hm hG1
        go_upto_region 10 with fail
        rw [← hX]
        clear hX
        have R9 := Lib.hid (KP.out _ B3).2.1
        have L9 := Lib.hid (KP.out _ B3).2.2
        obtain ⟨d0, d1, d2, d3⟩ := R9.out.four
        obtain ⟨f0, f1, f2, f3, _, _, _, _⟩ := R9.out.frees
        go_wp2
        refine bodyPost_ret (results_row_tmpW Try.results16 _ _ _ _ #[.slice none 0 0, .slice none 0 0, .slice none 0 0, .int .i64 0] _ _ rfl ((((R9.out.set_ 0 _).set_ 1 _).set_ 2 _).set_ 3 _) Try.underlying27 rfl infoWe) rfl ⟨_, rfl, by rw [HGG.out]; exact WeOwn.zero _ _ _, ?_⟩
        repeat refine bset ?_ (by omega) _
        exact L9.out
      · have HP1 := Lib.hid hp1
        have HM := Lib.hid (And.intro hm0 hm1)
        subst hc1
        obtain ⟨hG, hp, hc⟩ : G = ersW (plcM M true 2) j ∧ p = p1 ∧ cd = 0 := by
          rcases HG.out with ⟨e, a, b, c⟩ | ⟨e, n, a, b, c⟩ | ⟨e, n, m, a, b, c⟩ | ⟨e, n, m, k, a, b, c⟩ | ⟨e, n, m, k, f, a, b, c⟩ | ⟨e, n, m, k, f, a, b, c⟩
          all_goals first
            | exact ⟨by simpa using a, b.trans HP1.out.symm, c⟩
            | (exfalso; first | (cases e; done) | exact n HR.out | exact m HY.out | exact H2.out (HX.out.symm.trans k) | (have := HM.out; omega))
        subst hp; subst hc
        have HGG := Lib.hid hG
        have hG1' : G1 = plcM M true 2 := hG1
        have hlE : G1.e.length = n3 := by rw [hG1']; exact HN.out
        have hlC : G1.c.length = n3 := by rw [hG1']; unfold plcM; simp only [List.length_set]; exact HN3.out
        have heE : G1.e.getD j 0 = x := by rw [hG1']; simpa [plcM] using HX.out
        have hnG : G1.n = nb := by rw [hG1']; exact HNB.out.symm
        have HGX := Lib.hid hG1'
        obtain ⟨gE, nE, cE, gC, nC, cC, AB, nB, cB, rfl, WR⟩ := ho.rows (by omega) (by omega)
        obtain rfl : nE = n3 := WR.lenE.symm.trans hlE
        obtain rfl : nC = nE := WR.lenC.symm.trans hlC
        have WRH := Lib.hid WR
        have HE0 := Lib.hid heE
        obtain ⟨n0, hn0⟩ : ∃ n, n = G1.n := ⟨_, rfl⟩
        rw [← hn0]
        have HN0 := Lib.hid hn0
        obtain ⟨X, hX⟩ : ∃ X, X = w2.alloc (.cells #[.slice (some ⟨gE, 0, none⟩) nC cE, .slice AB nB cB, .slice (some ⟨gC, 0, none⟩) nC cC, .int .i64 n0] 27) := ⟨_, rfl⟩
        have bx : Below w2.heap.size w2 X := by rw [hX]; exact (Below.refl _ w2).alloc (Nat.le_refl _) _
        have t8 : Rw X w2.heap.size 27 #[.slice (some ⟨gE, 0, none⟩) nC cE, .slice AB nB cB, .slice (some ⟨gC, 0, none⟩) nC cC, .int .i64 n0] := by rw [hX]; exact Rw.new w2 _ _
        have B3 := B2.trans (bx.mono Z2)
        have hXs : w2.heap.size + 1 = X.heap.size := by rw [hX]; simp
        obtain ⟨g8, h8⟩ : ∃ g, g = w2.heap.size := ⟨_, rfl⟩
        have hw12 : w1.heap.size ≤ w2.heap.size := by have := WR.loE; have := WR.hiE; omega
        have WX := WR.same (sm bx _ (Nat.le_refl _))
        obtain ⟨lo, hlo⟩ : ∃ l, l = w1.heap.size := ⟨_, rfl⟩
        have Z1' := Z1
        rw [← h8] at t8 WX hXs hw12
        rw [← hlo] at WX Z1' hw12
        have hgE : g8 ≠ gE := by have := WX.hiE; omega
        have hgC : g8 ≠ gC := by have := WX.hiC; omega
        have hlX : lo ≤ X.heap.size := by omega
        have hgX : g8 ≤ X.heap.size := by omega
        have RX := Lib.hid t8
        have WXH := Lib.hid WX
        have HZX := Lib.hid hXs
        have hLG := Lib.hid (And.intro WX.loE WX.loC)
        obtain ⟨q0, q1, q2, q3⟩ := t8.four
        clear HG1 hm0 hm1 hp1 hG1 hG1' hG HG ho WR hlE hlC heE hnG hn0 bx t8 WX hXs
        go_upto_region 10 with fail
        rw [← hX, ← h8]
        clear hX h8
        go_wp2_with fail
        rw [HN0.out]
        refine (specErs_any G1 j lo g8 gE nC cE gC nC cC AB nB cB X WXH.out hgX hlX hj rfl (by rw [HE0.out]; exact HXB.out.1) (by rw [HE0.out]; exact HXB.out.2) hn36).mono ?_
        rintro e w3 ⟨u3, rfl, ho3, b3⟩
        have B4 := B3.trans (b3.mono (by omega))
        obtain ⟨A4, n4, k4, A5, n5, k5, A6, n6, k6, g7, rfl⟩ := ho3.agg_
        have HO3 := Lib.hid ho3
        have hlo3 := Z1'
        clear ho3 b3 q0 q1 q2 q3
        have R9 := Lib.hid (KP.out _ B4).2.1
        have L9 := Lib.hid (KP.out _ B4).2.2
        obtain ⟨d0, d1, d2, d3⟩ := R9.out.four
        obtain ⟨f0, f1, f2, f3, _, _, _, _⟩ := R9.out.frees
        go_wp2
        refine bodyPost_ret (results_row_tmpW Try.results16 _ _ _ _ #[.slice A4 n4 k4, .slice A5 n5 k5, .slice A6 n6 k6, .int .i64 g7] _ _ rfl ((((R9.out.set_ 0 _).set_ 1 _).set_ 2 _).set_ 3 _) Try.underlying27 rfl infoWe) rfl ⟨_, rfl, ?_, ?_⟩
        · rw [HGG.out, ← HGX.out]
          refine WeOwn.wide (lo := lo) (hi := w3.heap.size) ?_ (by omega) (by simp)
          exact (((HO3.out.setLow (by omega)).setLow (by omega)).setLow (by omega)).setLow (by omega)
        · repeat refine bset ?_ (by omega) _
          exact L9.out
end Go.Proofs.Ytainlanblpccjaa
