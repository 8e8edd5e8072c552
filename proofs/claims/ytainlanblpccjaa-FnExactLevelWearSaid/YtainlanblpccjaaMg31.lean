/- The proof's own lemmas, part 32: WnL. -/
import Derived.Test.YtainlanblpccjaaProg
import Derived.Test.YtainlanblpccjaaMg27
import Derived.Test.YtainlanblpccjaaMg30
import Derived.Test.YtainlanblpccjaaMg20
import Derived.Test.YtainlanblpccjaaMg26
import Derived.Test.YtainlanblpccjaaMg21
import Derived.Test.YtainlanblpccjaaMg17
import Derived.Deep.RegionHeld3
import Derived.RegionTactic
import Derived.ChangeAlike
/- LevelMove, in the model: the contract. -/
namespace Go.Proofs.Ytainlanblpccjaa
open Go.RowKit
set_option linter.unusedVariables false
set_option linter.unusedSimpArgs false
/-- What LevelMove leaves. -/
def WePost2 (G : We) (c : Int) (w : World) (e : Ending) (w' : World) : Prop := ∃ u, e = .returned (.tuple #[u, .int .i64 c]) ∧ WeOwn w' w.heap.size w'.heap.size u G ∧ Below w.heap.size w w'
set_option maxHeartbeats 8000000 in
set_option maxRecDepth 100000 in
theorem specLvm_any (u : Value) (M : We) (r : Bool) (G : We) (cd : Int) (w : World) (hi : Nat) (h : WeIn w hi u M) (hh : hi ≤ w.heap.size) (hr : r = true ↔ WeOk M) (hg : LvmIs M r G cd) (hl : WeSz M) :
    Calls Try.prog 22 #[u] w (WePost2 G cd w) := by
  have HSV := Lib.hid (fun (W : World) (b : Below w.heap.size w W) => specWeOk_any u M r W hi (h.below b hh) (Nat.le_trans hh b.size) hr hl)
  have HWI := Lib.hid (fun (W : World) (b : Below w.heap.size w W) => h.below b hh)
  obtain ⟨ae, ab, ac, rfl, i1, i2, i3⟩ := h
  have HI1 := Lib.hid (fun (W : World) (b : Below w.heap.size w W) => i1.below b hh)
  have HI2 := Lib.hid (fun (W : World) (b : Below w.heap.size w W) => i2.below b hh)
  have HI3 := Lib.hid (fun (W : World) (b : Below w.heap.size w W) => i3.below b hh)
  obtain ⟨A1, n1, k1, rfl, _, _, hn1, hA1⟩ := i1
  obtain ⟨A2, n2, k2, rfl⟩ := i2.slice
  obtain ⟨A3, n3, k3, rfl, _, _, hn3, hA3⟩ := i3
  obtain ⟨nb, hnb⟩ : ∃ n, n = M.n := ⟨_, rfl⟩
  unfold wec at HSV HWI ⊢
  rw [← hnb] at HSV HWI ⊢
  obtain ⟨r0, r1, bb⟩ := Rw.two_new w 27 27 #[.slice A1 n1 k1, .slice A2 n2 k2, .slice A3 n3 k3, .int .i64 nb] #[.slice none 0 0, .slice none 0 0, .slice none 0 0, .int .i64 0]
  obtain ⟨W0, hW0⟩ : ∃ W0, W0 = (w.alloc (.cells #[.slice A1 n1 k1, .slice A2 n2 k2, .slice A3 n3 k3, .int .i64 nb] 27)).alloc (.cells #[.slice none 0 0, .slice none 0 0, .slice none 0 0, .int .i64 0] 27) := ⟨_, rfl⟩
  have hz0 : W0.heap.size = w.heap.size + 2 := by rw [hW0]; simp
  rw [← hW0] at r0 r1 bb
  have KP := Lib.hid (fun (W : World) (b : Below (w.heap.size + 2) W0 W) => show Rw W w.heap.size 27 #[.slice A1 n1 k1, .slice A2 n2 k2, .slice A3 n3 k3, .int .i64 nb] ∧ Rw W (w.heap.size + 1) 27 #[.slice none 0 0, .slice none 0 0, .slice none 0 0, .int .i64 0] ∧ Below w.heap.size w W from
    ⟨r0.below b (by omega), r1.below b (by omega), bb.trans (b.mono (by omega))⟩)
  have BZ : Below (w.heap.size + 2) W0 W0 := Below.refl _ _
  have Z0 : w.heap.size + 2 ≤ W0.heap.size := by omega
  have HG := Lib.hid hg
  have HHH := Lib.hid hh
  obtain ⟨q0, q1, q2, q3⟩ := r0.four
  clear r0 r1 bb hz0
  cases r with
  | false =>
    obtain ⟨hG, hc⟩ : G = We.zero ∧ cd = 1 := by
      rcases HG.out with ⟨e, a, c⟩ | ⟨e, n, a, c⟩ | ⟨e, n, m, k, a, c⟩ | ⟨e, n, m, a, c⟩
      all_goals first
        | exact ⟨a, c⟩
        | (exfalso; cases e)
    subst hc
    have HGG := Lib.hid hG
    clear hG HG
    clear hn1 hA1 hn3 hA3 i2 hr hg hnb HWI HI1 HI2 HI3 hh hl
    go_enter Try.func22, Try.ntmps22
    go_wp2_with fail
    rw [← hW0]
    clear hW0 q0 q1 q2 q3
    refine (HSV.out _ (KP.out _ BZ).2.2).mono ?_
    rintro e w1 ⟨rfl, q⟩
    have B1 := BZ.trans (q.mono Z0)
    have Z1 := Nat.le_trans Z0 q.size
    clear q HSV
    have R9 := Lib.hid (KP.out _ B1).2.1
    have L9 := Lib.hid (KP.out _ B1).2.2
    obtain ⟨d0, d1, d2, d3⟩ := R9.out.four
    obtain ⟨f0, f1, f2, f3, _, _, _, _⟩ := R9.out.frees
    go_wp2
    refine bodyPost_ret (results_row_tmp Try.results22 _ _ _ _ #[.slice none 0 0, .slice none 0 0, .slice none 0 0, .int .i64 0] _ _ rfl ((((R9.out.set_ 0 _).set_ 1 _).set_ 2 _).set_ 3 _) Try.underlying27 rfl infoWe) rfl ⟨_, rfl, by rw [HGG.out]; exact WeOwn.zero _ _ _, ?_⟩
    repeat refine bset ?_ (by omega) _
    exact L9.out
  | true =>
    obtain ⟨o1, o2, o3, o4, o5⟩ := hr.1 rfl
    have hln : n3 = n1 := by omega
    subst hln
    obtain ⟨pe, oe, rfl, hpe, hxe⟩ := hA1 (by omega)
    obtain ⟨pc, oc, rfl, hpc, hxc⟩ := hA3 (by omega)
    have HEC := Lib.hid (fun (W : World) (b : Below w.heap.size w W) (j : Nat) (hj : j < n3) => show W.cell? ⟨pc, oc + j, none⟩ = some (.int .i64 (M.c.getD j 0)) from
      (b.cell (p := ⟨pc, oc + j, none⟩) (by show pc < _; omega)).trans (hxc j hj))
    have HOK := Lib.hid (show WeOk M from hr.1 rfl)
    have HN := Lib.hid hn1
    have HN3 := Lib.hid hn3
    have HNB := Lib.hid hnb
    have hn36 : n3 ≤ 36 := by omega
    have hn0 : 1 ≤ n3 := by omega
    have hHW := Lib.hid o5
    have HCO := Lib.hid (show true = true ↔ CountsOk M.e from ⟨fun _ i hi => (o5 i hi).1, fun _ => rfl⟩)
    have HO4 := Lib.hid o4
    have HND := Lib.hid (fun (W : World) (b : Below w.heap.size w W) => show Calls Try.prog 89 #[.slice (some ⟨pe, oe, none⟩) n3 k1, .slice A2 n2 k2, .int .i64 nb] W (fun e w' => e = .returned (.bool (lvNeed M)) ∧ W = w') from by
      have := specNeed_any _ _ M.e M.b nb true W hi (HI1.out W b) (HI2.out W b) HCO.out (by omega) (by omega)
      rw [hnb] at this
      rw [hnb]; exact this)
    have HST := Lib.hid (fun (W : World) (b : Below w.heap.size w W) (z : Value) (hz : NI W W.heap.size z []) => show Calls Try.prog 35 #[.slice (some ⟨pe, oe, none⟩) n3 k1, .slice A2 n2 k2, z] W (fun e w' => e = .returned (.int .i64 (lvB M)) ∧ Below W.heap.size W w') from
      specStat_any _ _ z M.e M.b [] W W.heap.size ((HI1.out W b).wide (Nat.le_trans hh b.size)) ((HI2.out W b).wide (Nat.le_trans hh b.size)) hz (Nat.le_refl _) (by omega) (by omega) (by simp))
    have HOW := Lib.hid (fun (W : World) (b : Below w.heap.size w W) => specOwn12_any _ M W hi (HWI.out W b) (Nat.le_trans hh b.size) o1.1 o2 o3 o1.2)
    have HFR := Lib.hid (fun (W : World) (b : Below w.heap.size w W) => specFree_any _ M W hi (HWI.out W b) (Nat.le_trans hh b.size) o1.1 o2 o3 o1.2)
    have HPF := Lib.hid (fun (W : World) (b : Below w.heap.size w W) (v : Value) (hv : NI W W.heap.size v (freeW M)) => show Calls Try.prog 33 #[.slice (some ⟨pe, oe, none⟩) n3 k1, v, .bool false] W (fun e w' => e = .returned (.int .i64 (plcV M false)) ∧ Below W.heap.size W w') from
      specPfr_any _ v M.e (freeW M) false true W W.heap.size ((HI1.out W b).wide (Nat.le_trans hh b.size)) hv (Nat.le_refl _) ⟨fun _ => freeW_ok M, fun _ => rfl⟩ (by omega) (by have := freeL_le M.b M.c M.e.length; unfold freeW; omega))
    clear hA1 hA3 i2 hr hg hn1 hn3 hxe hxc hpe hpc o1 o2 o3 o4 o5 hl hnb hh HI1 HI2 HI3 HWI
    go_enter Try.func22, Try.ntmps22
    go_wp2_with fail
    rw [← hW0]
    clear hW0 q0 q1 q2 q3
    refine (HSV.out _ (KP.out _ BZ).2.2).mono ?_
    rintro e w1 ⟨rfl, q⟩
    have B1 := BZ.trans (q.mono Z0)
    have Z1 := Nat.le_trans Z0 q.size
    clear q HSV
    obtain ⟨q0, q1, q2, q3⟩ := (KP.out _ B1).1.four
    obtain ⟨nd, hnd⟩ : ∃ b, b = lvNeed M := ⟨_, rfl⟩
    rw [← hnd] at HND
    have HNN := Lib.hid hnd
    clear hnd
    go_wp2_with fail
    refine (HND.out _ (KP.out _ B1).2.2).mono ?_
    rintro e w' ⟨rfl, rfl⟩
    clear HND
    cases nd with
    | false =>
      obtain ⟨hG, hc⟩ : G = We.zero ∧ cd = 5 := by
        rcases HG.out with ⟨e, a, c⟩ | ⟨e, n, a, c⟩ | ⟨e, n, m, k, a, c⟩ | ⟨e, n, m, a, c⟩
        all_goals first
          | exact ⟨a, c⟩
          | (exfalso; first | (cases e; done) | exact absurd (HNN.out.trans n) (by decide))
      subst hc
      have HGG := Lib.hid hG
      clear hG HG
      clear HEC HOK HST HOW HHH HCO q0 q1 q2 q3 HFR HPF
      have R9 := Lib.hid (KP.out _ B1).2.1
      have L9 := Lib.hid (KP.out _ B1).2.2
      obtain ⟨d0, d1, d2, d3⟩ := R9.out.four
      obtain ⟨f0, f1, f2, f3, _, _, _, _⟩ := R9.out.frees
      go_wp2
      refine bodyPost_ret (results_row_tmp Try.results22 _ _ _ _ #[.slice none 0 0, .slice none 0 0, .slice none 0 0, .int .i64 0] _ _ rfl ((((R9.out.set_ 0 _).set_ 1 _).set_ 2 _).set_ 3 _) Try.underlying27 rfl infoWe) rfl ⟨_, rfl, by rw [HGG.out]; exact WeOwn.zero _ _ _, ?_⟩
      repeat refine bset ?_ (by omega) _
      exact L9.out
    | true =>
      have hin := lvB_in HNN.out.symm HO4.out.1
      obtain ⟨j, hj⟩ : ∃ j : Nat, lvB M = (j : Int) := ⟨(lvB M).toNat, by omega⟩
      have hjn : j < n3 := by have := HN.out; omega
      rw [hj] at HST
      have HJ := Lib.hid hj
      have hjI : (j : Int) < (n3 : Int) := by omega
      have hj0 : (0 : Int) ≤ (j : Int) := by omega
      clear hin hj
      go_wp2_with fail
      refine (HOW.out _ (KP.out _ B1).2.2).mono ?_
      rintro e w3 ⟨u3, rfl, ho, q⟩
      clear q0 q1 q2 q3 HOW
      have B3 := B1.trans (q.mono Z1)
      have Z3 := Nat.le_trans Z1 q.size
      obtain ⟨gE, nE, cE, gC, nC, cC, AB, nB, cB, rfl, WR⟩ := ho.rows (by have := HN.out; omega) (by have := HN3.out; omega)
      obtain rfl : nE = n3 := WR.lenE.symm.trans HN.out
      obtain rfl : nC = nE := WR.lenC.symm.trans HN3.out
      rw [← HNB.out]
      obtain ⟨lo, hlo⟩ : ∃ l, l = w1.heap.size := ⟨_, rfl⟩
      obtain ⟨X, hX⟩ : ∃ X, X = w3.alloc (.cells #[.slice (some ⟨gE, 0, none⟩) nC cE, .slice AB nB cB, .slice (some ⟨gC, 0, none⟩) nC cC, .int .i64 nb] 27) := ⟨_, rfl⟩
      have bx : Below w3.heap.size w3 X := by rw [hX]; exact (Below.refl _ w3).alloc (Nat.le_refl _) _
      have t8 : Rw X w3.heap.size 27 #[.slice (some ⟨gE, 0, none⟩) nC cE, .slice AB nB cB, .slice (some ⟨gC, 0, none⟩) nC cC, .int .i64 nb] := by rw [hX]; exact Rw.new w3 _ _
      have B4 := B3.trans (bx.mono Z3)
      have hXs : w3.heap.size + 1 = X.heap.size := by rw [hX]; simp
      obtain ⟨g8, h8⟩ : ∃ g, g = w3.heap.size := ⟨_, rfl⟩
      have hlz : w.heap.size + 2 ≤ lo := by rw [hlo]; exact Z1
      have WX := WR.same (sm bx _ (Nat.le_refl _))
      rw [← h8] at t8 WX hXs
      rw [← hlo] at WX
      have KX := Lib.hid (fun (W : World) (b : Below (g8 + 1) X W) => show Rw W g8 27 #[.slice (some ⟨gE, 0, none⟩) nC cE, .slice AB nB cB, .slice (some ⟨gC, 0, none⟩) nC cC, .int .i64 nb] ∧ WeRow W lo g8 gE nC cE gC nC cC AB nB cB M ∧ Below (w.heap.size + 2) W0 W from
        ⟨t8.below b (by omega), WX.same (sm b _ (by omega)), B4.trans (b.mono (by have := WX.loE; have := WX.hiE; omega))⟩)
      have HLO := Lib.hid (And.intro WX.loE (And.intro WX.hiE (And.intro WX.loC WX.hiC)))
      have BX : Below (g8 + 1) X X := Below.refl _ _
      have ZX : g8 + 1 ≤ X.heap.size := by omega
      have hlg : lo ≤ g8 := by have := WX.loE; have := WX.hiE; omega
      have ZW : w.heap.size + 2 ≤ X.heap.size := by omega
      obtain ⟨q0, q1, q2, q3⟩ := (KP.out _ B4).1.four
      clear WR bx t8 hXs hlo WX ho q
      have BA := (Below.refl (g8 + 1) X).alloc ZX (.cells #[] 2)
      have HA := Lib.hid (show NI (X.alloc (.cells #[] 2)) (X.alloc (.cells #[] 2)).heap.size (.slice (some ⟨X.heap.size, 0, none⟩) 0 0) [] from ⟨_, 0, 0, rfl, by omega, by omega, rfl, fun h => by omega⟩)
      go_upto_region 6 with fail
      rw [← hX, ← h8]
      clear hX h8
      go_wp2_with fail
      refine (HST.out _ (KP.out _ (KX.out _ BA).2.2).2.2 _ HA.out).mono ?_
      rintro e w5 ⟨rfl, q⟩
      have B5 := BA.trans (q.mono (by simp; omega))
      have Z5 : g8 + 1 ≤ w5.heap.size := Nat.le_trans (by simp; omega) q.size
      clear q BA HA HST
      clear q0 q1 q2 q3
      obtain ⟨q0, q1, q2, q3⟩ := (KP.out _ (KX.out _ B5).2.2).1.four
      obtain ⟨y, hy⟩ : ∃ y, y = M.c.getD j 0 := ⟨_, rfl⟩
      have zC := HEC.out _ (KP.out _ (KX.out _ B5).2.2).2.2 j hjn
      rw [← hy] at zC
      have HY := Lib.hid (show M.c.getD (lvB M).toNat 0 = y by rw [HJ.out, hy]; simp)
      have HYB := Lib.hid (show 0 ≤ y ∧ y ≤ 2 from by rw [hy]; exact (hHW.out j (by have := HN.out; omega)).2.1)
      have HEB := Lib.hid ((hHW.out j (by have := HN.out; omega)).1)
      clear hy
      by_cases hy0 : y = 0
      case pos =>
        subst hy0
        obtain ⟨hG, hc⟩ : G = ersW M j ∧ cd = 0 := by
          rcases HG.out with ⟨e, a, c⟩ | ⟨e, n, a, c⟩ | ⟨e, n, m, k, a, c⟩ | ⟨e, n, m, a, c⟩
          · cases e
          · exact absurd (HNN.out.trans n) (by decide)
          · exact absurd HY.out m
          · refine ⟨?_, c⟩
            rw [a]; unfold lvM; rw [if_pos HY.out, HJ.out]; simp
        subst hc
        have HGG := Lib.hid hG
        clear hG HG HY HYB
        have HER := Lib.hid (show Calls Try.prog 84 #[.agg #[.slice (some ⟨gE, 0, none⟩) nC cE, .slice AB nB cB, .slice (some ⟨gC, 0, none⟩) nC cC, .int .i64 nb], .int .i64 (j : Int)] w5 (fun e w' => ∃ u, e = .returned u ∧ WeOwn w' lo w'.heap.size u (ersW M j) ∧ Below lo w5 w') from by
          rw [HNB.out]
          exact specErs_any M j lo g8 gE nC cE gC nC cC AB nB cB w5 ((KX.out _ B5).2.1) (by omega) (by omega) hjn rfl HEB.out.1 HEB.out.2 hn36)
        go_upto_region 12 with fail
        clear q0 q1 q2 q3 zC
        have zz := trivial
        clear zz
        obtain ⟨q0, q1, q2, q3⟩ := ((KX.out _ B5).1).four
        go_wp2_with fail
        refine (HER.out).mono ?_
        rintro e w9 ⟨u9, rfl, ho9, b9⟩
        clear q0 q1 q2 q3
        have B9 := ((KX.out _ B5).2.2).trans (b9.mono hlz)
        obtain ⟨A4, n4, k4, A5, n5, k5, A6, n6, k6, g7, rfl⟩ := ho9.agg_
        have HO9 := Lib.hid ho9
        clear ho9 b9 HER
        have R9 := Lib.hid (KP.out _ B9).2.1
        have L9 := Lib.hid (KP.out _ B9).2.2
        obtain ⟨d0, d1, d2, d3⟩ := R9.out.four
        obtain ⟨f0, f1, f2, f3, _, _, _, _⟩ := R9.out.frees
        go_wp2
        refine bodyPost_ret (results_row_tmp Try.results22 _ _ _ _ #[.slice A4 n4 k4, .slice A5 n5 k5, .slice A6 n6 k6, .int .i64 g7] _ _ rfl ((((R9.out.set_ 0 _).set_ 1 _).set_ 2 _).set_ 3 _) Try.underlying27 rfl infoWe) rfl ⟨_, rfl, ?_, ?_⟩
        · rw [HGG.out]
          refine WeOwn.wide (lo := lo) (hi := w9.heap.size) ?_ (by omega) (by simp)
          exact (((HO9.out.setLow (by omega)).setLow (by omega)).setLow (by omega)).setLow (by omega)
        · repeat refine bset ?_ (by omega) _
          exact L9.out
      have e2 : (y == 0) = false := by rw [beq_eq_false_iff_ne]; exact hy0
      have e3 : decide (y = 0) = false := by simp; exact hy0
      have H2 := Lib.hid hy0
      clear hy0
      go_upto_region 8 with fail
      have kA := (KP.out _ (KX.out _ B5.drew).2.2).1.four
      clear q0 q1 q2 q3
      go_region_held3 (fun W => W.cell? ⟨w.heap.size, 0, none⟩ = some (.slice (some ⟨pe, oe, none⟩) nC k1) ∧ W.cell? ⟨w.heap.size, 1, none⟩ = some (.slice A2 n2 k2) ∧ W.cell? ⟨w.heap.size, 2, none⟩ = some (.slice (some ⟨pc, oc, none⟩) nC k3) ∧ W.cell? ⟨w.heap.size, 3, none⟩ = some (.int .i64 nb))
        (first
          | with_reducible exact kA
          | with_reducible exact kB
          | with_reducible exact kC)
        (first
          | (go_at_call 91
             with_reducible refine (HFR.out _ (KP.out _ (KX.out _ B5.drew).2.2).2.2).mono ?_
             rintro e w6 ⟨v2, rfl, ho, q⟩
             have B6 := B5.drew.trans (q.mono Z5)
             have Z6 := Nat.le_trans Z5 q.size
             have N2 := Lib.hid (IO.reads ⟨ho, fun k e => (ho.blockOf e).2⟩)
             have kB := (KP.out _ (KX.out _ B6).2.2).1.four
             clear ho q)
          | (go_at_call 33
             with_reducible refine (HPF.out _ (KP.out _ (KX.out _ B6).2.2).2.2 _ N2.out).mono ?_
             rintro e w7 ⟨rfl, q⟩
             have B7 := B6.trans (q.mono Z6)
             have Z7 := Nat.le_trans Z6 q.size
             have kC := (KP.out _ (KX.out _ B7).2.2).1.four
             clear q))
      obtain ⟨v, hv⟩ : ∃ v, v = plcV M false := ⟨_, rfl⟩
      rw [← hv]
      have HV := Lib.hid hv
      clear hv kA kB kC HPF HFR zC
      have zC := HEC.out _ (KP.out _ (KX.out _ B7).2.2).2.2 j hjn
      rw [show M.c.getD j 0 = y by have := HY.out; rw [HJ.out] at this; simpa using this] at zC
      obtain ⟨q0, q1, q2, q3⟩ := (KP.out _ (KX.out _ B7).2.2).1.four
      rcases plc_in M false with ⟨_, hm⟩ | ⟨_, hm0, hm1⟩
      · rw [← HV.out] at hm
        subst hm
        have HM := Lib.hid HV.out
        obtain ⟨hG, hc⟩ : G = We.zero ∧ cd = 4 := by
          rcases HG.out with ⟨e, a, c⟩ | ⟨e, n, a, c⟩ | ⟨e, n, m, k, a, c⟩ | ⟨e, n, m, a, c⟩
          all_goals first
            | exact ⟨a, c⟩
            | (exfalso; first | (cases e; done) | exact absurd (HNN.out.trans n) (by decide) | (rcases m with m | ⟨_, m, _⟩; exact H2.out (HY.out.symm.trans m); have := HM.out; omega))
        subst hc
        have HGG := Lib.hid hG
        clear hG HG
        clear HEC HOK HM q0 q1 q2 q3 zC
        have R9 := Lib.hid (KP.out _ (KX.out _ B7).2.2).2.1
        have L9 := Lib.hid (KP.out _ (KX.out _ B7).2.2).2.2
        obtain ⟨d0, d1, d2, d3⟩ := R9.out.four
        obtain ⟨f0, f1, f2, f3, _, _, _, _⟩ := R9.out.frees
        go_wp2
        refine bodyPost_ret (results_row_tmp Try.results22 _ _ _ _ #[.slice none 0 0, .slice none 0 0, .slice none 0 0, .int .i64 0] _ _ rfl ((((R9.out.set_ 0 _).set_ 1 _).set_ 2 _).set_ 3 _) Try.underlying27 rfl infoWe) rfl ⟨_, rfl, by rw [HGG.out]; exact WeOwn.zero _ _ _, ?_⟩
        repeat refine bset ?_ (by omega) _
        exact L9.out
      · rw [← HV.out] at hm0 hm1
        obtain ⟨k, rfl⟩ : ∃ k : Nat, v = (k : Int) := ⟨v.toNat, by omega⟩
        have hk : k < nC := by have := HN.out; omega
        have hkI : (k : Int) < (nC : Int) := by omega
        have hk0 : (0 : Int) ≤ (k : Int) := by omega
        have hkn : ¬ (k : Int) < 0 := by omega
        have hkz : ((k : Int) == -1) = false := by rw [beq_eq_false_iff_ne]; omega
        obtain ⟨hG, hc⟩ : G = ersW (plcM M false y) j ∧ cd = 0 := by
          rcases HG.out with ⟨e, a, c⟩ | ⟨e, n, a, c⟩ | ⟨e, n, m, k, a, c⟩ | ⟨e, n, m, a, c⟩
          · cases e
          · exact absurd (HNN.out.trans n) (by decide)
          · rw [← HV.out] at k; omega
          · refine ⟨?_, c⟩
            rw [a]; unfold lvM; rw [if_neg (fun e => H2.out (HY.out.symm.trans e)), HJ.out, show M.c.getD (Int.toNat (j : Int)) 0 = y by rw [← HJ.out]; exact HY.out]; simp
        subst hc
        have HGG := Lib.hid hG
        clear hG HG
        have HPM := Lib.hid (show plcM M false y = ⟨M.e, M.b, M.c.set k y, M.n⟩ by unfold plcM; rw [← HV.out]; simp)
        rw [HPM.out] at HGG
        obtain ⟨V, hV⟩ : ∃ V, V = (w7.setCell ⟨gC, k, none⟩ (.int .i64 y)).drew := ⟨_, rfl⟩
        have WV := ((KX.out _ B7).2.1.setC k y).same (w' := (w7.setCell ⟨gC, k, none⟩ (.int .i64 y)).drew) (fun _ _ _ => rfl)
        have tv := show Rw (w7.setCell ⟨gC, k, none⟩ (.int .i64 y)).drew _ _ _ from (KX.out _ B7).1.farA (g' := gC) (k := k) (by have := HLO.out; omega) (.int .i64 y)
        have BV := (bset (KX.out _ B7).2.2 (g := gC) (k := k) (by have := HLO.out; omega) (.int .i64 y)).drew
        obtain ⟨t0, t1, t2, t3⟩ := (KX.out _ B7).1.four
        have zS := (KX.out _ B7).2.1.cellC (j := k) hk
        have fS := (KX.out _ B7).2.1.freeC k
        have hzV : V.heap.size = w7.heap.size := by rw [hV]; simp
        rw [← hV] at WV tv BV
        clear hm0 hm1 HPM HV HEC HOK
        go_upto_region 11 with fail
        go_region
        go_upto_region 12 with fail
        rw [← hV]
        clear hV t0 t1 t2 t3 zS fS q0 q1 q2 q3 zC
        have HER := Lib.hid (show Calls Try.prog 84 #[.agg #[.slice (some ⟨gE, 0, none⟩) nC cE, .slice AB nB cB, .slice (some ⟨gC, 0, none⟩) nC cC, .int .i64 nb], .int .i64 (j : Int)] V (fun e w' => ∃ u, e = .returned u ∧ WeOwn w' lo w'.heap.size u (ersW (We.mk M.e M.b (M.c.set k y) M.n) j) ∧ Below lo V w') from by
          rw [HNB.out]
          exact specErs_any (We.mk M.e M.b (M.c.set k y) M.n) j lo g8 gE nC cE gC nC cC AB nB cB V (WV) (by omega) (by omega) hjn rfl HEB.out.1 HEB.out.2 hn36)
        have WVH := Lib.hid WV
        have TVH := Lib.hid tv
        clear WV tv
        have zz := trivial
        clear zz
        obtain ⟨q0, q1, q2, q3⟩ := (TVH.out).four
        go_wp2_with fail
        refine (HER.out).mono ?_
        rintro e w9 ⟨u9, rfl, ho9, b9⟩
        clear q0 q1 q2 q3
        have B9 := (BV).trans (b9.mono hlz)
        obtain ⟨A4, n4, k4, A5, n5, k5, A6, n6, k6, g7, rfl⟩ := ho9.agg_
        have HO9 := Lib.hid ho9
        clear ho9 b9 HER
        have R9 := Lib.hid (KP.out _ B9).2.1
        have L9 := Lib.hid (KP.out _ B9).2.2
        obtain ⟨d0, d1, d2, d3⟩ := R9.out.four
        obtain ⟨f0, f1, f2, f3, _, _, _, _⟩ := R9.out.frees
        go_wp2
        refine bodyPost_ret (results_row_tmp Try.results22 _ _ _ _ #[.slice A4 n4 k4, .slice A5 n5 k5, .slice A6 n6 k6, .int .i64 g7] _ _ rfl ((((R9.out.set_ 0 _).set_ 1 _).set_ 2 _).set_ 3 _) Try.underlying27 rfl infoWe) rfl ⟨_, rfl, ?_, ?_⟩
        · rw [HGG.out]
          refine WeOwn.wide (lo := lo) (hi := w9.heap.size) ?_ (by omega) (by simp)
          exact (((HO9.out.setLow (by omega)).setLow (by omega)).setLow (by omega)).setLow (by omega)
        · repeat refine bset ?_ (by omega) _
          exact L9.out
end Go.Proofs.Ytainlanblpccjaa
