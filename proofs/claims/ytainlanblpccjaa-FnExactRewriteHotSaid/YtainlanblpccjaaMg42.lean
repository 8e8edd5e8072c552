/- The proof's own lemmas, part 43: WoT. -/
import Derived.Test.YtainlanblpccjaaProg
import Derived.Test.YtainlanblpccjaaMg36
import Derived.Test.YtainlanblpccjaaMg38
import Derived.Test.YtainlanblpccjaaMg29
import Derived.Test.YtainlanblpccjaaMg39
/- PlaceData, in the program: the contract. -/
namespace Go.Proofs.Ytainlanblpccjaa
open Go.RowKit
set_option linter.unusedVariables false
set_option linter.unusedSimpArgs false
set_option maxHeartbeats 8000000 in
set_option maxRecDepth 100000 in
theorem implPlc_any (u : Value) (M : We) (hot r : Bool) (G : We) (p cd : Int) (w : World) (hi : Nat) (h : WeIn w hi u M) (hh : hi ≤ w.heap.size) (hr : r = true ↔ WeOk M) (hg : PlcIs M r hot G p cd) (hl : WeSz M) :
    Calls Try.prog 27 #[u, .bool hot] w (WePost3 G p cd w) := by
  have HSV := Lib.hid (fun (W : World) (b : Below w.heap.size w W) => implWeOk_any u M r W hi (h.below b hh) (Nat.le_trans hh b.size) hr hl)
  have HIN := Lib.hid (fun (W : World) (b : Below w.heap.size w W) => h.below b hh)
  obtain ⟨A1, n1, k1, A2, n2, k2, A3, n3, k3, nb, rfl⟩ := h.agg_
  obtain ⟨r0, r1, bb⟩ := Rw.two_new w 27 27 #[.slice A1 n1 k1, .slice A2 n2 k2, .slice A3 n3 k3, .int .i64 nb] #[.slice none 0 0, .slice none 0 0, .slice none 0 0, .int .i64 0]
  obtain ⟨W0, hW0⟩ : ∃ W0, W0 = (w.alloc (.cells #[.slice A1 n1 k1, .slice A2 n2 k2, .slice A3 n3 k3, .int .i64 nb] 27)).alloc (.cells #[.slice none 0 0, .slice none 0 0, .slice none 0 0, .int .i64 0] 27) := ⟨_, rfl⟩
  have hz0 : W0.heap.size = w.heap.size + 2 := by rw [hW0]; simp
  rw [← hW0] at r0 r1 bb
  have KP := Lib.hid (fun (W : World) (b : Below (w.heap.size + 2) W0 W) => show Rw W w.heap.size 27 #[.slice A1 n1 k1, .slice A2 n2 k2, .slice A3 n3 k3, .int .i64 nb] ∧ Rw W (w.heap.size + 1) 27 #[.slice none 0 0, .slice none 0 0, .slice none 0 0, .int .i64 0] ∧ Below w.heap.size w W from
    ⟨r0.below b (by omega), r1.below b (by omega), bb.trans (b.mono (by omega))⟩)
  have BZ : Below (w.heap.size + 2) W0 W0 := Below.refl _ _
  have Z0 : w.heap.size + 2 ≤ W0.heap.size := by omega
  have HR := Lib.hid hr
  have HG := Lib.hid hg
  have HHH := Lib.hid hh
  obtain ⟨q0, q1, q2, q3⟩ := r0.four
  clear r0 r1 bb h hh hr hg hl hz0
  go_enter Try.func27, Try.ntmps27
  go_wp2_with fail
  rw [← hW0]
  clear hW0 q0 q1 q2 q3
  refine (HSV.out _ (KP.out _ BZ).2.2).mono ?_
  rintro e w1 ⟨rfl, q⟩
  have B1 := BZ.trans (q.mono Z0)
  have Z1 := Nat.le_trans Z0 q.size
  clear q
  cases r with
  | false =>
    obtain ⟨d0, d1, d2, d3⟩ := (KP.out _ B1).2.1.four
    obtain ⟨f0, f1, f2, f3, _, _, _, _⟩ := (KP.out _ B1).2.1.frees
    have R1 := Lib.hid (KP.out _ B1).2.1
    have L1 := Lib.hid (KP.out _ B1).2.2
    obtain ⟨hG, hp, hc⟩ : G = We.zero ∧ p = 0 ∧ cd = 1 := by
      rcases HG.out with ⟨_, a, b, c⟩ | ⟨e, _⟩ | ⟨e, _⟩
      · exact ⟨a, b, c⟩
      · cases e
      · cases e
    subst hp; subst hc
    have HGG := Lib.hid hG
    clear hG HG
    go_wp2
    refine bodyPost_ret (results_row_tmpW Try.results27 _ _ _ _ #[.slice none 0 0, .slice none 0 0, .slice none 0 0, .int .i64 0] _ _ rfl ((((R1.out.set_ 0 _).set_ 1 _).set_ 2 _).set_ 3 _) Try.underlying27 rfl infoWe) rfl ⟨_, rfl, by rw [HGG.out]; exact WeOwn.zero _ _ _, ?_⟩
    repeat refine bset ?_ (by omega) _
    exact L1.out
  | true =>
    have HOK := Lib.hid (HR.out.1 rfl)
    have HCL := Lib.hid (show Calls Try.prog 92 #[.pointer (some ⟨w.heap.size, 0, none⟩)] w1 (WePost1 M w1) from by
      have hI := HIN.out _ (KP.out _ B1).2.2
      have o := HOK.out
      obtain ⟨a0, a1, a2, e, i1, i2, i3⟩ := hI
      have e' := e
      unfold wec at e'
      injection e' with e'; injection e' with e'; injection e' with e1 e'; injection e' with e2 e'; injection e' with e3 e'; injection e' with e4 _
      injection e4 with _ e4
      subst e1; subst e2; subst e3; subst e4
      exact implClone12_any w.heap.size M _ _ _ w1 hi (KP.out _ B1).1 i1 i2 i3 (Nat.le_trans HHH.out (KP.out _ B1).2.2.size) o.1.1 o.2.1 o.2.2.1 o.1.2)
    rcases hot with _ | _
    · skip
      go_wp2_with fail
      refine HCL.out.mono ?_
      rintro e w4 ⟨u4, rfl, ⟨a0, a1, a2, rfl, ⟨oE, lE⟩, ⟨oB, lB⟩, ⟨oC, lC⟩, x01, x02, x12⟩, q⟩
      obtain ⟨AE, nE, cE, rfl⟩ := oE.sliceOf'
      obtain ⟨AB, nB, cB, rfl⟩ := oB.sliceOf
      obtain ⟨AC, nC, cC, rfl⟩ := oC.sliceOf'
      obtain ⟨gC, rfl⟩ := own_someC oC (by have := HOK.out; have := this.2.2.1; have := HOK.out.1; omega)
      have hnC : M.c.length = nC := by
        rcases oC.shape with ⟨e, _⟩ | ⟨g, cap, e, _⟩
        · cases e
        · injection e with _ e _; exact e.symm
      have B4 := B1.trans (q.mono Z1)
      have Z4 := Nat.le_trans Z1 q.size
      have hgC := oC.blockOf (k := gC) rfl
      have XD := Lib.hid (And.intro x01 (And.intro x02 x12))
      obtain ⟨X, hX⟩ : ∃ X, X = w4.alloc (.cells #[.slice AE nE cE, .slice AB nB cB, .slice (some ⟨gC, 0, none⟩) nC cC, .int .i64 M.n] 27) := ⟨_, rfl⟩
      have bx : Below w4.heap.size w4 X := by rw [hX]; exact (Below.refl _ w4).alloc (Nat.le_refl _) _
      have t8 : Rw X w4.heap.size 27 #[.slice AE nE cE, .slice AB nB cB, .slice (some ⟨gC, 0, none⟩) nC cC, .int .i64 M.n] := by rw [hX]; exact Rw.new w4 _ _
      have oE5 := oE.later bx (Nat.le_refl _)
      have oB5 := oB.later bx (Nat.le_refl _)
      have oC5 := oC.later bx (Nat.le_refl _)
      have B5 := B4.trans (bx.mono Z4)
      have hXs := bx.size
      clear HCL HSV HIN q oE oB oC lE lB lC x01 x02 x12
      unfold wec
      go_wp2_with fail
      rw [← hX]
      obtain ⟨g8, h8⟩ : ∃ g, g = w4.heap.size := ⟨_, rfl⟩
      obtain ⟨lo, hlo⟩ : ∃ g, g = w1.heap.size := ⟨_, rfl⟩
      have hlZ : w.heap.size + 2 ≤ lo := by rw [hlo]; exact Z1
      rw [← h8]
      rw [← h8] at t8 hgC hXs
      rw [← hlo] at oE5 oB5 oC5 hgC
      have hlow : w.heap.size + 2 ≤ gC := by omega
      have hXg : g8 < X.heap.size := t8.lt
      obtain ⟨v, hv⟩ : ∃ v, v = plcV M false := ⟨_, rfl⟩
      have HPL := Lib.hid (show Calls Try.prog 93 #[.pointer (some ⟨g8, 0, none⟩), .int .i64 1, .bool false] X (fun e w' => e = .returned (.int .i64 v) ∧ ((v = -1 ∧ Below X.heap.size X w') ∨ ((0 ≤ v ∧ v < (M.e.length : Int)) ∧ ∃ w2, Below X.heap.size X w2 ∧ w' = w2.setCell ⟨gC, v.toNat, none⟩ (.int .i64 1)))) from by
        rw [hv]
        exact implPlace_any g8 M false 1 AE AB nE cE nB cB gC nC cC M.n lo X t8 (IO.reads ⟨oE5, fun k e => (oE5.blockOf e).2⟩) (BW.reads ⟨oB5, fun k e => (oB5.blockOf e).2⟩) oC5 HOK.out trivial)
      have HV := Lib.hid hv
      clear hX h8 hlo bx hv
      refine HPL.out.mono ?_
      rintro e w5 ⟨rfl, hor⟩
      rcases hor with ⟨hm, b5⟩ | ⟨⟨hm0, hm1⟩, w2, b2, rfl⟩
      · obtain ⟨hG, hp, hc⟩ : G = We.zero ∧ p = 0 ∧ cd = 4 := by
          rcases HG.out with ⟨e, _⟩ | ⟨_, _, a, b, c⟩ | ⟨_, e, _⟩
          · cases e
          · exact ⟨a, b, c⟩
          · rw [← HV.out] at e; omega
        subst hm; subst hp; subst hc
        have HGG := Lib.hid hG
        have B6 := B5.trans (b5.mono (by omega))
        obtain ⟨d0, d1, d2, d3⟩ := (KP.out _ B6).2.1.four
        obtain ⟨f0, f1, f2, f3, _, _, _, _⟩ := (KP.out _ B6).2.1.frees
        have R3 := Lib.hid (KP.out _ B6).2.1
        have L3 := Lib.hid (KP.out _ B6).2.2
        clear hG HG HPL HV
        go_wp2
        refine bodyPost_ret (results_row_tmpW Try.results27 _ _ _ _ #[.slice none 0 0, .slice none 0 0, .slice none 0 0, .int .i64 0] _ _ rfl ((((R3.out.set_ 0 _).set_ 1 _).set_ 2 _).set_ 3 _) Try.underlying27 rfl infoWe) rfl ⟨_, rfl, by rw [HGG.out]; exact WeOwn.zero _ _ _, ?_⟩
        repeat refine bset ?_ (by omega) _
        exact L3.out
      · obtain ⟨hG, hp, hc⟩ : G = plcM M false (heatV false) ∧ p = v ∧ cd = 0 := by
          rcases HG.out with ⟨e, _⟩ | ⟨_, e, _⟩ | ⟨_, _, _, a, b, c⟩
          · cases e
          · rw [← HV.out] at e; omega
          · exact ⟨a, b.trans HV.out.symm, c⟩
        obtain ⟨j, rfl⟩ : ∃ j : Nat, v = (j : Int) := ⟨v.toNat, by omega⟩
        subst hp; subst hc
        have hGc : G = ⟨M.e, M.b, M.c.set j 1, M.n⟩ := by rw [hG]; unfold plcM; rw [← HV.out]; rfl
        have hjN : j < nC := by have := HOK.out.2.2.1; omega
        have b2X := B5.trans (b2.mono (by omega))
        have oE6 := (oE5.later b2 (Nat.le_refl _)).sames (w' := w2.setCell ⟨gC, j, none⟩ (.int .i64 1)) fun k e => Below.heap_setCell _ ⟨gC, j, none⟩ _ k (by
          show k ≠ gC
          rintro rfl
          rcases XD.out.2.1 with h | h
          · rw [h] at e; cases e
          · exact h e)
        have oB6 := (oB5.later b2 (Nat.le_refl _)).sames (w' := w2.setCell ⟨gC, j, none⟩ (.int .i64 1)) fun k e => Below.heap_setCell _ ⟨gC, j, none⟩ _ k (by
          show k ≠ gC
          rintro rfl
          rcases XD.out.2.2 with h | h
          · rw [h] at e; cases e
          · exact h e)
        have oC6 := (oC5.later b2 (Nat.le_refl _)).stored hnC j 1
        have t86 := (t8.below b2 hXg).farA (g' := gC) (k := j) (by omega) (.int .i64 1)
        have rr6 := (KP.out _ b2X).2.1.farA (g' := gC) (k := j) (by omega) (.int .i64 1)
        have bb6 := bset (KP.out _ b2X).2.2 (g := gC) (k := j) (by omega) (.int .i64 1)
        have hjz : ((j : Int) == -1) = false := by rw [beq_eq_false_iff_ne]; omega
        simp only [Int.toNat_natCast]
        obtain ⟨X6, hX6⟩ : ∃ W, W = w2.setCell ⟨gC, j, none⟩ (.int .i64 1) := ⟨_, rfl⟩
        rw [← hX6] at oE6 oB6 oC6 t86 rr6 bb6 ⊢
        clear hX6 b2X b2 hG HG HPL HV hm0 hm1 oE5 oB5 oC5 t8 B5
        have HE9 := Lib.hid oE6
        have HB9 := Lib.hid oB6
        have HC9 := Lib.hid oC6
        have R9 := Lib.hid rr6
        have B9 := Lib.hid bb6
        have HGG := Lib.hid hGc
        obtain ⟨t0, t1, t2, t3⟩ := t86.four
        obtain ⟨d0, d1, d2, d3⟩ := rr6.four
        obtain ⟨f0, f1, f2, f3, _, _, _, _⟩ := rr6.frees
        clear oE6 oB6 oC6 rr6 bb6 t86 hGc
        go_wp2
        refine bodyPost_ret (results_row_tmpW Try.results27 _ _ _ _ #[.slice AE nE cE, .slice AB nB cB, .slice (some ⟨gC, 0, none⟩) nC cC, .int .i64 M.n] _ _ rfl ((((R9.out.set_ 0 _).set_ 1 _).set_ 2 _).set_ 3 _) Try.underlying27 rfl infoWe) rfl ⟨_, rfl, ?_, ?_⟩
        · rw [HGG.out]
          refine ⟨_, _, _, rfl, ⟨(HE9.out.sames fun k e => ?_).low (by omega), fun k e => ?_⟩, ⟨(HB9.out.sames fun k e => ?_).low (by omega), fun k e => ?_⟩, ⟨(HC9.out.sames fun k e => ?_).low (by omega), fun k e => ?_⟩, XD.out.1, XD.out.2.1, XD.out.2.2⟩
          · have := (HE9.out.blockOf e).1
            repeat rw [Below.heap_setCell _ ⟨_, _, none⟩ _ k (by simp; omega)]
          · have := (HE9.out.blockOf e).2; simpa using this
          · have := (HB9.out.blockOf e).1
            repeat rw [Below.heap_setCell _ ⟨_, _, none⟩ _ k (by simp; omega)]
          · have := (HB9.out.blockOf e).2; simpa using this
          · have := (HC9.out.blockOf e).1
            repeat rw [Below.heap_setCell _ ⟨_, _, none⟩ _ k (by simp; omega)]
          · have := (HC9.out.blockOf e).2; simpa using this
        · repeat refine bset ?_ (by omega) _
          exact B9.out
    · skip
      go_wp2_with fail
      refine HCL.out.mono ?_
      rintro e w4 ⟨u4, rfl, ⟨a0, a1, a2, rfl, ⟨oE, lE⟩, ⟨oB, lB⟩, ⟨oC, lC⟩, x01, x02, x12⟩, q⟩
      obtain ⟨AE, nE, cE, rfl⟩ := oE.sliceOf'
      obtain ⟨AB, nB, cB, rfl⟩ := oB.sliceOf
      obtain ⟨AC, nC, cC, rfl⟩ := oC.sliceOf'
      obtain ⟨gC, rfl⟩ := own_someC oC (by have := HOK.out; have := this.2.2.1; have := HOK.out.1; omega)
      have hnC : M.c.length = nC := by
        rcases oC.shape with ⟨e, _⟩ | ⟨g, cap, e, _⟩
        · cases e
        · injection e with _ e _; exact e.symm
      have B4 := B1.trans (q.mono Z1)
      have Z4 := Nat.le_trans Z1 q.size
      have hgC := oC.blockOf (k := gC) rfl
      have XD := Lib.hid (And.intro x01 (And.intro x02 x12))
      obtain ⟨X, hX⟩ : ∃ X, X = w4.alloc (.cells #[.slice AE nE cE, .slice AB nB cB, .slice (some ⟨gC, 0, none⟩) nC cC, .int .i64 M.n] 27) := ⟨_, rfl⟩
      have bx : Below w4.heap.size w4 X := by rw [hX]; exact (Below.refl _ w4).alloc (Nat.le_refl _) _
      have t8 : Rw X w4.heap.size 27 #[.slice AE nE cE, .slice AB nB cB, .slice (some ⟨gC, 0, none⟩) nC cC, .int .i64 M.n] := by rw [hX]; exact Rw.new w4 _ _
      have oE5 := oE.later bx (Nat.le_refl _)
      have oB5 := oB.later bx (Nat.le_refl _)
      have oC5 := oC.later bx (Nat.le_refl _)
      have B5 := B4.trans (bx.mono Z4)
      have hXs := bx.size
      clear HCL HSV HIN q oE oB oC lE lB lC x01 x02 x12
      unfold wec
      go_wp2_with fail
      rw [← hX]
      obtain ⟨g8, h8⟩ : ∃ g, g = w4.heap.size := ⟨_, rfl⟩
      obtain ⟨lo, hlo⟩ : ∃ g, g = w1.heap.size := ⟨_, rfl⟩
      have hlZ : w.heap.size + 2 ≤ lo := by rw [hlo]; exact Z1
      rw [← h8]
      rw [← h8] at t8 hgC hXs
      rw [← hlo] at oE5 oB5 oC5 hgC
      have hlow : w.heap.size + 2 ≤ gC := by omega
      have hXg : g8 < X.heap.size := t8.lt
      obtain ⟨v, hv⟩ : ∃ v, v = plcV M true := ⟨_, rfl⟩
      have HPL := Lib.hid (show Calls Try.prog 93 #[.pointer (some ⟨g8, 0, none⟩), .int .i64 2, .bool true] X (fun e w' => e = .returned (.int .i64 v) ∧ ((v = -1 ∧ Below X.heap.size X w') ∨ ((0 ≤ v ∧ v < (M.e.length : Int)) ∧ ∃ w2, Below X.heap.size X w2 ∧ w' = w2.setCell ⟨gC, v.toNat, none⟩ (.int .i64 2)))) from by
        rw [hv]
        exact implPlace_any g8 M true 2 AE AB nE cE nB cB gC nC cC M.n lo X t8 (IO.reads ⟨oE5, fun k e => (oE5.blockOf e).2⟩) (BW.reads ⟨oB5, fun k e => (oB5.blockOf e).2⟩) oC5 HOK.out trivial)
      have HV := Lib.hid hv
      clear hX h8 hlo bx hv
      refine HPL.out.mono ?_
      rintro e w5 ⟨rfl, hor⟩
      rcases hor with ⟨hm, b5⟩ | ⟨⟨hm0, hm1⟩, w2, b2, rfl⟩
      · obtain ⟨hG, hp, hc⟩ : G = We.zero ∧ p = 0 ∧ cd = 4 := by
          rcases HG.out with ⟨e, _⟩ | ⟨_, _, a, b, c⟩ | ⟨_, e, _⟩
          · cases e
          · exact ⟨a, b, c⟩
          · rw [← HV.out] at e; omega
        subst hm; subst hp; subst hc
        have HGG := Lib.hid hG
        have B6 := B5.trans (b5.mono (by omega))
        obtain ⟨d0, d1, d2, d3⟩ := (KP.out _ B6).2.1.four
        obtain ⟨f0, f1, f2, f3, _, _, _, _⟩ := (KP.out _ B6).2.1.frees
        have R3 := Lib.hid (KP.out _ B6).2.1
        have L3 := Lib.hid (KP.out _ B6).2.2
        clear hG HG HPL HV
        go_wp2
        refine bodyPost_ret (results_row_tmpW Try.results27 _ _ _ _ #[.slice none 0 0, .slice none 0 0, .slice none 0 0, .int .i64 0] _ _ rfl ((((R3.out.set_ 0 _).set_ 1 _).set_ 2 _).set_ 3 _) Try.underlying27 rfl infoWe) rfl ⟨_, rfl, by rw [HGG.out]; exact WeOwn.zero _ _ _, ?_⟩
        repeat refine bset ?_ (by omega) _
        exact L3.out
      · obtain ⟨hG, hp, hc⟩ : G = plcM M true (heatV true) ∧ p = v ∧ cd = 0 := by
          rcases HG.out with ⟨e, _⟩ | ⟨_, e, _⟩ | ⟨_, _, _, a, b, c⟩
          · cases e
          · rw [← HV.out] at e; omega
          · exact ⟨a, b.trans HV.out.symm, c⟩
        obtain ⟨j, rfl⟩ : ∃ j : Nat, v = (j : Int) := ⟨v.toNat, by omega⟩
        subst hp; subst hc
        have hGc : G = ⟨M.e, M.b, M.c.set j 2, M.n⟩ := by rw [hG]; unfold plcM; rw [← HV.out]; rfl
        have hjN : j < nC := by have := HOK.out.2.2.1; omega
        have b2X := B5.trans (b2.mono (by omega))
        have oE6 := (oE5.later b2 (Nat.le_refl _)).sames (w' := w2.setCell ⟨gC, j, none⟩ (.int .i64 2)) fun k e => Below.heap_setCell _ ⟨gC, j, none⟩ _ k (by
          show k ≠ gC
          rintro rfl
          rcases XD.out.2.1 with h | h
          · rw [h] at e; cases e
          · exact h e)
        have oB6 := (oB5.later b2 (Nat.le_refl _)).sames (w' := w2.setCell ⟨gC, j, none⟩ (.int .i64 2)) fun k e => Below.heap_setCell _ ⟨gC, j, none⟩ _ k (by
          show k ≠ gC
          rintro rfl
          rcases XD.out.2.2 with h | h
          · rw [h] at e; cases e
          · exact h e)
        have oC6 := (oC5.later b2 (Nat.le_refl _)).stored hnC j 2
        have t86 := (t8.below b2 hXg).farA (g' := gC) (k := j) (by omega) (.int .i64 2)
        have rr6 := (KP.out _ b2X).2.1.farA (g' := gC) (k := j) (by omega) (.int .i64 2)
        have bb6 := bset (KP.out _ b2X).2.2 (g := gC) (k := j) (by omega) (.int .i64 2)
        have hjz : ((j : Int) == -1) = false := by rw [beq_eq_false_iff_ne]; omega
        simp only [Int.toNat_natCast]
        obtain ⟨X6, hX6⟩ : ∃ W, W = w2.setCell ⟨gC, j, none⟩ (.int .i64 2) := ⟨_, rfl⟩
        rw [← hX6] at oE6 oB6 oC6 t86 rr6 bb6 ⊢
        clear hX6 b2X b2 hG HG HPL HV hm0 hm1 oE5 oB5 oC5 t8 B5
        have HE9 := Lib.hid oE6
        have HB9 := Lib.hid oB6
        have HC9 := Lib.hid oC6
        have R9 := Lib.hid rr6
        have B9 := Lib.hid bb6
        have HGG := Lib.hid hGc
        obtain ⟨t0, t1, t2, t3⟩ := t86.four
        obtain ⟨d0, d1, d2, d3⟩ := rr6.four
        obtain ⟨f0, f1, f2, f3, _, _, _, _⟩ := rr6.frees
        clear oE6 oB6 oC6 rr6 bb6 t86 hGc
        go_wp2
        refine bodyPost_ret (results_row_tmpW Try.results27 _ _ _ _ #[.slice AE nE cE, .slice AB nB cB, .slice (some ⟨gC, 0, none⟩) nC cC, .int .i64 M.n] _ _ rfl ((((R9.out.set_ 0 _).set_ 1 _).set_ 2 _).set_ 3 _) Try.underlying27 rfl infoWe) rfl ⟨_, rfl, ?_, ?_⟩
        · rw [HGG.out]
          refine ⟨_, _, _, rfl, ⟨(HE9.out.sames fun k e => ?_).low (by omega), fun k e => ?_⟩, ⟨(HB9.out.sames fun k e => ?_).low (by omega), fun k e => ?_⟩, ⟨(HC9.out.sames fun k e => ?_).low (by omega), fun k e => ?_⟩, XD.out.1, XD.out.2.1, XD.out.2.2⟩
          · have := (HE9.out.blockOf e).1
            repeat rw [Below.heap_setCell _ ⟨_, _, none⟩ _ k (by simp; omega)]
          · have := (HE9.out.blockOf e).2; simpa using this
          · have := (HB9.out.blockOf e).1
            repeat rw [Below.heap_setCell _ ⟨_, _, none⟩ _ k (by simp; omega)]
          · have := (HB9.out.blockOf e).2; simpa using this
          · have := (HC9.out.blockOf e).1
            repeat rw [Below.heap_setCell _ ⟨_, _, none⟩ _ k (by simp; omega)]
          · have := (HC9.out.blockOf e).2; simpa using this
        · repeat refine bset ?_ (by omega) _
          exact B9.out
end Go.Proofs.Ytainlanblpccjaa
