/- The proof's own lemmas, part 30: WoP Lfsr. -/
import Derived.Test.YtainlanblpccjaaProg
import Derived.Test.YtainlanblpccjaaMg17
import Derived.Test.YtainlanblpccjaaMg14
import Derived.Test.YtainlanblpccjaaMg28
import Derived.Test.YtainlanblpccjaaMg21
import Derived.Deep.RegionHeld3
import Derived.Test.YtainlanblpccjaaMg15
import Derived.WalkKit
import Derived.Lib.Hide
import Derived.ProofKit
/- PlaceData, in the model: the contract. -/
namespace Go.Proofs.Ytainlanblpccjaa
open Go.RowKit
set_option linter.unusedVariables false
set_option linter.unusedSimpArgs false
theorem results_row_tmpW {P : Program} {fn : Func} {p u x : Tmp} {ty : TypeId} (h : fn.results = #[.cell p ty, .tmp u, .tmp x]) (tmps : Array Value) (w : World) (g : Nat) (t : TypeId) (cs : Array Value) (fr : Nat × Nat) (d : TypeDesc)
    (hp : tmps.getD p undef = .pointer (some ⟨g, 0, none⟩)) (hg : w.heap[g]? = some (.cells cs t fr))
    (hu : P.underlying ty = some d) (hd : (match d with | .struct _ | .array _ _ => true | _ => false) = true) (hi : (P.info? ty).map (·.size) = some cs.size) :
    (results fn tmps).run P w = .ok (.tuple #[.agg cs, tmps.getD u undef, tmps.getD x undef]) w := by
  have hp' : tmps[p]?.getD undef = .pointer (some ⟨g, 0, none⟩) := by simpa using hp
  simp [results, h, hp', asAddr, run_loadVar_row w g t ty cs fr d hg hu hd hi]
def WePost3 (G : We) (p c : Int) (w : World) (e : Ending) (w' : World) : Prop := ∃ u, e = .returned (.tuple #[u, .int .i64 p, .int .i64 c]) ∧ WeOwn w' w.heap.size w'.heap.size u G ∧ Below w.heap.size w w'
set_option maxHeartbeats 8000000 in
set_option maxRecDepth 100000 in
theorem specPlc_any (u : Value) (M : We) (hot r : Bool) (G : We) (p cd : Int) (w : World) (hi : Nat) (h : WeIn w hi u M) (hh : hi ≤ w.heap.size) (hr : r = true ↔ WeOk M) (hg : PlcIs M r hot G p cd) (hl : WeSz M) :
    Calls Try.prog 28 #[u, .bool hot] w (WePost3 G p cd w) := by
  have HSV := Lib.hid (fun (W : World) (b : Below w.heap.size w W) => specWeOk_any u M r W hi (h.below b hh) (Nat.le_trans hh b.size) hr hl)
  have HFR := Lib.hid (fun (W : World) (b : Below w.heap.size w W) (o : WeOk M) => specFree_any u M W hi (h.below b hh) (Nat.le_trans hh b.size) o.1.1 o.2.1 o.2.2.1 o.1.2)
  have HOW := Lib.hid (fun (W : World) (b : Below w.heap.size w W) (o : WeOk M) => specOwn12_any u M W hi (h.below b hh) (Nat.le_trans hh b.size) o.1.1 o.2.1 o.2.2.1 o.1.2)
  have HIN := Lib.hid (fun (W : World) (b : Below w.heap.size w W) => h.below b hh)
  obtain ⟨A1, n1, k1, A2, n2, k2, A3, n3, k3, nb, rfl⟩ := h.agg_
  have HPF := Lib.hid (fun (W : World) (b : Below w.heap.size w W) (v : Value) (hv : NI W W.heap.size v (freeW M)) (o : WeOk M) => specPfr_any (.slice A1 n1 k1) v M.e (freeW M) hot true W W.heap.size (by
    obtain ⟨a0, a1, a2, e, i1, _, _⟩ := HIN.out W b
    unfold wec at e
    injection e with e; injection e with e; injection e with e e'
    subst e
    exact i1.wide (Nat.le_trans hh b.size)) hv (Nat.le_refl _) ⟨fun _ => freeW_ok M, fun _ => rfl⟩ (by have := o.1.2; omega) (by have := freeL_le M.b M.c M.e.length; have := o.1.2; unfold freeW; omega))
  obtain ⟨r0, r1, bb⟩ := Rw.two_new w 27 27 #[.slice A1 n1 k1, .slice A2 n2 k2, .slice A3 n3 k3, .int .i64 nb] #[.slice none 0 0, .slice none 0 0, .slice none 0 0, .int .i64 0]
  obtain ⟨W0, hW0⟩ : ∃ W0, W0 = (w.alloc (.cells #[.slice A1 n1 k1, .slice A2 n2 k2, .slice A3 n3 k3, .int .i64 nb] 27)).alloc (.cells #[.slice none 0 0, .slice none 0 0, .slice none 0 0, .int .i64 0] 27) := ⟨_, rfl⟩
  have hz0 : W0.heap.size = w.heap.size + 2 := by rw [hW0]; simp
  rw [← hW0] at r0 r1 bb
  have KP := Lib.hid (fun (W : World) (b : Below (w.heap.size + 2) W0 W) => show Rw W w.heap.size 27 #[.slice A1 n1 k1, .slice A2 n2 k2, .slice A3 n3 k3, .int .i64 nb] ∧ Rw W (w.heap.size + 1) 27 #[.slice none 0 0, .slice none 0 0, .slice none 0 0, .int .i64 0] ∧ Below w.heap.size w W from
    ⟨r0.below b (by omega), r1.below b (by omega), bb.trans (b.mono (by omega))⟩)
  have BZ : Below (w.heap.size + 2) W0 W0 := Below.refl _ _
  have Z0 : w.heap.size + 2 ≤ W0.heap.size := by omega
  have HR := Lib.hid hr
  have HG := Lib.hid hg
  obtain ⟨q0, q1, q2, q3⟩ := r0.four
  clear r0 r1 bb h hh hr hg hl hz0
  go_enter Try.func28, Try.ntmps28
  go_wp2_with fail
  rw [← hW0]
  clear hW0 q0 q1 q2 q3
  refine (HSV.out _ (KP.out _ BZ).2.2).mono ?_
  rintro e w1 ⟨rfl, q⟩
  have B1 := BZ.trans (q.mono Z0)
  have Z1 := Nat.le_trans Z0 q.size
  clear q
  obtain ⟨q0, q1, q2, q3⟩ := (KP.out _ B1).1.four
  obtain ⟨d0, d1, d2, d3⟩ := (KP.out _ B1).2.1.four
  obtain ⟨f0, f1, f2, f3, _, _, _, _⟩ := (KP.out _ B1).2.1.frees
  have R1 := Lib.hid (KP.out _ B1).2.1
  have L1 := Lib.hid (KP.out _ B1).2.2
  cases r with
  | false =>
    obtain ⟨hG, hp, hc⟩ : G = We.zero ∧ p = 0 ∧ cd = 1 := by
      rcases HG.out with ⟨_, a, b, c⟩ | ⟨e, _⟩ | ⟨e, _⟩
      · exact ⟨a, b, c⟩
      · cases e
      · cases e
    subst hp; subst hc
    have HGG := Lib.hid hG
    clear hG HG
    go_wp2
    refine bodyPost_ret (results_row_tmpW Try.results28 _ _ _ _ #[.slice none 0 0, .slice none 0 0, .slice none 0 0, .int .i64 0] _ _ rfl ((((R1.out.set_ 0 _).set_ 1 _).set_ 2 _).set_ 3 _) Try.underlying27 rfl infoWe) rfl ⟨_, rfl, by rw [HGG.out]; exact WeOwn.zero _ _ _, ?_⟩
    repeat refine bset ?_ (by omega) _
    exact L1.out
  | true =>
    have HOK := Lib.hid (HR.out.1 rfl)
    go_upto_region 3 with fail
    have kA := (KP.out _ B1.drew).1.four
    clear q0 q1 q2 q3 d0 d1 d2 d3 f0 f1 f2 f3
    go_region_held3 (fun W => W.cell? ⟨w.heap.size, 0, none⟩ = some (.slice A1 n1 k1) ∧ W.cell? ⟨w.heap.size, 1, none⟩ = some (.slice A2 n2 k2) ∧ W.cell? ⟨w.heap.size, 2, none⟩ = some (.slice A3 n3 k3) ∧ W.cell? ⟨w.heap.size, 3, none⟩ = some (.int .i64 nb))
      (first
        | with_reducible exact kA
        | with_reducible exact kB
        | with_reducible exact kC)
      (first
        | (go_at_call 91
           with_reducible refine (HFR.out _ (KP.out _ B1.drew).2.2 HOK.out).mono ?_
           rintro e w2 ⟨v2, rfl, ho, q⟩
           have B2 := B1.drew.trans (q.mono Z1)
           have Z2 := Nat.le_trans Z1 q.size
           have N2 := Lib.hid (IO.reads ⟨ho, fun k e => (ho.blockOf e).2⟩)
           have kB := (KP.out _ B2).1.four
           clear ho q)
        | (go_at_call 33
           with_reducible refine (HPF.out _ (KP.out _ B2).2.2 _ N2.out HOK.out).mono ?_
           rintro e w3 ⟨rfl, q⟩
           have B3 := B2.trans (q.mono Z2)
           have Z3 := Nat.le_trans Z2 q.size
           have kC := (KP.out _ B3).1.four
           clear q))
    obtain ⟨v, hv⟩ : ∃ v, v = plcV M hot := ⟨_, rfl⟩
    have hv2 : pickV M.e (freeW M) hot true = v := hv.symm
    rw [hv2]
    have HV := Lib.hid hv
    clear hv hv2 kA kB kC HPF HFR HSV B1 B2 R1 L1
    rcases HG.out with ⟨e, _⟩ | ⟨_, hm, hG, hp, hc⟩ | ⟨_, hm0, hm1, hG, hp, hc⟩
    · cases e
    · rw [← HV.out] at hm
      subst hm; subst hp; subst hc
      have HGG := Lib.hid hG
      clear hG HG
      obtain ⟨d0, d1, d2, d3⟩ := (KP.out _ B3).2.1.four
      obtain ⟨f0, f1, f2, f3, _, _, _, _⟩ := (KP.out _ B3).2.1.frees
      have R3 := Lib.hid (KP.out _ B3).2.1
      have L3 := Lib.hid (KP.out _ B3).2.2
      go_wp2
      refine bodyPost_ret (results_row_tmpW Try.results28 _ _ _ _ #[.slice none 0 0, .slice none 0 0, .slice none 0 0, .int .i64 0] _ _ rfl ((((R3.out.set_ 0 _).set_ 1 _).set_ 2 _).set_ 3 _) Try.underlying27 rfl infoWe) rfl ⟨_, rfl, by rw [HGG.out]; exact WeOwn.zero _ _ _, ?_⟩
      repeat refine bset ?_ (by omega) _
      exact L3.out
    · rw [← HV.out] at hm0 hm1 hp
      obtain ⟨j, rfl⟩ : ∃ j : Nat, v = (j : Int) := ⟨v.toNat, by omega⟩
      subst hp; subst hc
      have hj : j < M.c.length := by have := HOK.out.2.2.1; omega
      have hGc : G = ⟨M.e, M.b, M.c.set j (heatV hot), M.n⟩ := by rw [hG]; unfold plcM; rw [← HV.out]; simp
      clear hm0 hm1 hG HG
      obtain ⟨q0, q1, q2, q3⟩ := (KP.out _ B3).1.four
      have hjn : ¬ (j : Int) < 0 := by omega
      go_wp2_with fail
      refine (HOW.out _ (KP.out _ B3).2.2 HOK.out).mono ?_
      rintro e w4 ⟨u4, rfl, ⟨a0, a1, a2, rfl, ⟨oE, lE⟩, ⟨oB, lB⟩, ⟨oC, lC⟩, x01, x02, x12⟩, q⟩
      clear q0 q1 q2 q3
      obtain ⟨AE, nE, cE, rfl⟩ := oE.sliceOf'
      obtain ⟨AB, nB, cB, rfl⟩ := oB.sliceOf
      obtain ⟨AC, nC, cC, rfl⟩ := oC.sliceOf'
      obtain ⟨gC, rfl⟩ := own_someC oC (by omega)
      have hnC : M.c.length = nC := by
        rcases oC.shape with ⟨e, _⟩ | ⟨g, cap, e, _⟩
        · cases e
        · injection e with _ e _; exact e.symm
      obtain ⟨Me, Mb, Mc, nb'⟩ := M
      unfold wec
      simp only at *
      have B4 := B3.trans (q.mono Z3)
      have Z4 := Nat.le_trans Z3 q.size
      have hgC := oC.blockOf (k := gC) rfl
      have HS4 := Lib.hid q.size
      obtain ⟨nb, hnb⟩ : ∃ n, n = nb' := ⟨_, rfl⟩
      rw [← hnb] at hGc ⊢
      clear q hnb
      have XD := Lib.hid (And.intro x01 (And.intro x02 x12))
      obtain ⟨X, hX⟩ : ∃ X, X = w4.alloc (.cells #[.slice AE nE cE, .slice AB nB cB, .slice (some ⟨gC, 0, none⟩) nC cC, .int .i64 nb] 27) := ⟨_, rfl⟩
      have bx : Below w4.heap.size w4 X := by rw [hX]; exact (Below.refl _ w4).alloc (Nat.le_refl _) _
      have t8 : Rw X w4.heap.size 27 #[.slice AE nE cE, .slice AB nB cB, .slice (some ⟨gC, 0, none⟩) nC cC, .int .i64 nb] := by rw [hX]; exact Rw.new w4 _ _
      have oE5 := oE.later bx (Nat.le_refl _)
      have oB5 := oB.later bx (Nat.le_refl _)
      have oC5 := oC.later bx (Nat.le_refl _)
      have B5 := B4.trans (bx.mono Z4)
      have hjI : (j : Int) < (nC : Int) := by omega
      have hj0 : (0 : Int) ≤ (j : Int) := by omega
      obtain ⟨g8, h8⟩ : ∃ g, g = w4.heap.size := ⟨_, rfl⟩
      have rr5 := (KP.out _ B5).2.1
      have bb5 := (KP.out _ B5).2.2
      have hjN : j < nC := by omega
      go_upto_region 7 with fail
      rw [← hX, ← h8]
      rw [← h8] at t8 hgC
      have t85 := t8
      have hlow : w.heap.size + 2 ≤ gC := by omega
      clear hX h8 bx t8 oE oB oC B5 B4 B3 lE lB lC x01 x02 x12
      obtain ⟨t0, t1, t2, t3⟩ := t85.four
      have c5 := oC5.cell (j := j) hnC hjN
      have f5 := oC5.free hnC j
      have st := oC5.stored hnC j 1
      have bst : Below gC X (X.setCell ⟨gC, j, none⟩ (.int .i64 1)) := bset (Below.refl _ _) (Nat.le_refl _) _
      have sE := oE5.sames (w' := X.setCell ⟨gC, j, none⟩ (.int .i64 1)) fun k e => Below.heap_setCell _ ⟨gC, j, none⟩ _ k (by
        show k ≠ gC
        rintro rfl
        rcases XD.out.2.1 with h | h
        · rw [h] at e; cases e
        · exact h e)
      have sB := oB5.sames (w' := X.setCell ⟨gC, j, none⟩ (.int .i64 1)) fun k e => Below.heap_setCell _ ⟨gC, j, none⟩ _ k (by
        show k ≠ gC
        rintro rfl
        rcases XD.out.2.2 with h | h
        · rw [h] at e; cases e
        · exact h e)
      have t8s := t85.farA (g' := gC) (k := j) (by omega) (.int .i64 1)
      have rrs := rr5.farA (g' := gC) (k := j) (by omega) (.int .i64 1)
      have bbs := bset bb5 (g := gC) (k := j) (by omega) (.int .i64 1)
      clear oC5 oE5 oB5 t85 rr5 bb5
      go_upto_region 8 with fail
      clear t0 t1 t2 t3 c5 f5
      obtain ⟨X2, hX2⟩ : ∃ W, W = X.setCell ⟨gC, j, none⟩ (.int .i64 1) := ⟨_, rfl⟩
      rw [← hX2] at st bst sE sB t8s rrs bbs ⊢
      clear hX2 bst
      have hnC6 : (Mc.set j 1).length = nC := by rw [List.length_set]; exact hnC
      cases hot with
      | false =>
        have oE6 := sE
        have oB6 := sB
        have oC6 := st
        have rr6 := rrs
        have bb6 := bbs
        have t86 := t8s
        clear sE sB st rrs bbs t8s
        have HE9 := Lib.hid oE6
        have HB9 := Lib.hid oB6
        have HC9 := Lib.hid oC6
        have R9 := Lib.hid rr6
        have B9 := Lib.hid bb6
        have HGG := Lib.hid hGc
        obtain ⟨t0, t1, t2, t3⟩ := t86.four
        obtain ⟨d0, d1, d2, d3⟩ := rr6.four
        obtain ⟨f0, f1, f2, f3, _, _, _, _⟩ := rr6.frees
        clear oE6 oB6 oC6 rr6 bb6 t86 hGc
        go_wp2
        refine bodyPost_ret (results_row_tmpW Try.results28 _ _ _ _ #[.slice AE nE cE, .slice AB nB cB, .slice (some ⟨gC, 0, none⟩) nC cC, .int .i64 nb] _ _ rfl ((((R9.out.set_ 0 _).set_ 1 _).set_ 2 _).set_ 3 _) Try.underlying27 rfl infoWe) rfl ⟨_, rfl, ?_, ?_⟩
        · rw [HGG.out]
          refine ⟨_, _, _, rfl, ⟨(HE9.out.sames fun k e => ?_).low (by omega), fun k e => ?_⟩, ⟨(HB9.out.sames fun k e => ?_).low (by omega), fun k e => ?_⟩, ⟨(HC9.out.sames fun k e => ?_).low (by omega), fun k e => ?_⟩, XD.out.1, XD.out.2.1, XD.out.2.2⟩
          · have := (HE9.out.blockOf e).1
            repeat rw [Below.heap_setCell _ ⟨_, _, none⟩ _ k (by simp; omega)]
          · have := (HE9.out.blockOf e).2; simpa using this
          · have := (HB9.out.blockOf e).1
            repeat rw [Below.heap_setCell _ ⟨_, _, none⟩ _ k (by simp; omega)]
          · have := (HB9.out.blockOf e).2; simpa using this
          · have := (HC9.out.blockOf e).1
            repeat rw [Below.heap_setCell _ ⟨_, _, none⟩ _ k (by simp; omega)]
          · have := (HC9.out.blockOf e).2; simpa using this
        · repeat refine bset ?_ (by omega) _
          exact B9.out
      | true =>
        have oE6 := sE
        have oB6 := sB
        have oC6 := st
        have rr6 := rrs
        have bb6 := bbs
        have t86 := t8s
        clear sE sB st rrs bbs t8s
        obtain ⟨t0, t1, t2, t3⟩ := t86.four
        have c5 := oC6.cell (j := j) hnC6 hjN
        have f5 := oC6.free hnC6 j
        have st := oC6.stored hnC6 j 2
        have bst : Below gC X2 (X2.setCell ⟨gC, j, none⟩ (.int .i64 2)) := bset (Below.refl _ _) (Nat.le_refl _) _
        have sE := oE6.sames (w' := X2.setCell ⟨gC, j, none⟩ (.int .i64 2)) fun k e => Below.heap_setCell _ ⟨gC, j, none⟩ _ k (by
          show k ≠ gC
          rintro rfl
          rcases XD.out.2.1 with h | h
          · rw [h] at e; cases e
          · exact h e)
        have sB := oB6.sames (w' := X2.setCell ⟨gC, j, none⟩ (.int .i64 2)) fun k e => Below.heap_setCell _ ⟨gC, j, none⟩ _ k (by
          show k ≠ gC
          rintro rfl
          rcases XD.out.2.2 with h | h
          · rw [h] at e; cases e
          · exact h e)
        have t8s := t86.farA (g' := gC) (k := j) (by omega) (.int .i64 2)
        have rrs := rr6.farA (g' := gC) (k := j) (by omega) (.int .i64 2)
        have bbs := bset bb6 (g := gC) (k := j) (by omega) (.int .i64 2)
        clear oE6 oB6 oC6 rr6 bb6 t86
        go_upto_region 10 with fail
        clear t0 t1 t2 t3 c5 f5
        obtain ⟨X3, hX3⟩ : ∃ W, W = X2.setCell ⟨gC, j, none⟩ (.int .i64 2) := ⟨_, rfl⟩
        rw [← hX3] at st bst sE sB t8s rrs bbs ⊢
        clear hX3 bst
        rw [List.set_set] at st
        have oE6 := sE
        have oB6 := sB
        have oC6 := st
        have rr6 := rrs
        have bb6 := bbs
        have t86 := t8s
        clear sE sB st rrs bbs t8s
        have HE9 := Lib.hid oE6
        have HB9 := Lib.hid oB6
        have HC9 := Lib.hid oC6
        have R9 := Lib.hid rr6
        have B9 := Lib.hid bb6
        have HGG := Lib.hid hGc
        obtain ⟨t0, t1, t2, t3⟩ := t86.four
        obtain ⟨d0, d1, d2, d3⟩ := rr6.four
        obtain ⟨f0, f1, f2, f3, _, _, _, _⟩ := rr6.frees
        clear oE6 oB6 oC6 rr6 bb6 t86 hGc
        go_wp2
        refine bodyPost_ret (results_row_tmpW Try.results28 _ _ _ _ #[.slice AE nE cE, .slice AB nB cB, .slice (some ⟨gC, 0, none⟩) nC cC, .int .i64 nb] _ _ rfl ((((R9.out.set_ 0 _).set_ 1 _).set_ 2 _).set_ 3 _) Try.underlying27 rfl infoWe) rfl ⟨_, rfl, ?_, ?_⟩
        · rw [HGG.out]
          refine ⟨_, _, _, rfl, ⟨(HE9.out.sames fun k e => ?_).low (by omega), fun k e => ?_⟩, ⟨(HB9.out.sames fun k e => ?_).low (by omega), fun k e => ?_⟩, ⟨(HC9.out.sames fun k e => ?_).low (by omega), fun k e => ?_⟩, XD.out.1, XD.out.2.1, XD.out.2.2⟩
          · have := (HE9.out.blockOf e).1
            repeat rw [Below.heap_setCell _ ⟨_, _, none⟩ _ k (by simp; omega)]
          · have := (HE9.out.blockOf e).2; simpa using this
          · have := (HB9.out.blockOf e).1
            repeat rw [Below.heap_setCell _ ⟨_, _, none⟩ _ k (by simp; omega)]
          · have := (HB9.out.blockOf e).2; simpa using this
          · have := (HC9.out.blockOf e).1
            repeat rw [Below.heap_setCell _ ⟨_, _, none⟩ _ k (by simp; omega)]
          · have := (HC9.out.blockOf e).2; simpa using this
        · repeat refine bset ?_ (by omega) _
          exact B9.out
end Go.Proofs.Ytainlanblpccjaa
/- The register's functions, in the model and in the program: their contracts. -/
namespace Go.Proofs.Ytainlanblpccjaa
open Go.RowKit


theorem l00In_any (n lo hi : Int) (w : World) :
    Calls Try.prog 83 #[.int .i64 n, .int .i64 lo, .int .i64 hi] w fun e w' => e = .returned (.bool (decide (lo ≤ n ∧ n ≤ hi))) ∧ w = w' := by
  by_cases h1 : lo ≤ n
  all_goals by_cases h2 : n ≤ hi
  all_goals
    go_enter Try.func83, Try.ntmps83
    go_wp2
    go_ret
    exact ⟨ret_bool (by simp [h1, h2]), rfl⟩


theorem l00In_yes (n lo hi : Int) (w : World) (h1 : lo ≤ n) (h2 : n ≤ hi) :
    Calls Try.prog 83 #[.int .i64 n, .int .i64 lo, .int .i64 hi] w fun e w' => e = .returned (.bool true) ∧ w = w' :=
  (l00In_any n lo hi w).mono fun _ _ ⟨he, hw⟩ => ⟨by rw [he]; exact ret_bool (by simp [h1, h2]), hw⟩
theorem l00In_no (n lo hi : Int) (w : World) (h : n < lo ∨ hi < n) :
    Calls Try.prog 83 #[.int .i64 n, .int .i64 lo, .int .i64 hi] w fun e w' => e = .returned (.bool false) ∧ w = w' :=
  (l00In_any n lo hi w).mono fun _ _ ⟨he, hw⟩ => ⟨by rw [he]; exact ret_bool (by simp; omega), hw⟩
end Go.Proofs.Ytainlanblpccjaa
