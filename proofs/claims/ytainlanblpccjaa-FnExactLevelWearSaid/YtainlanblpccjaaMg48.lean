/- The proof's own lemmas, part 49: WnX. -/
import Derived.Test.YtainlanblpccjaaProg
import Derived.Test.YtainlanblpccjaaMg46
import Derived.Test.YtainlanblpccjaaMg40
import Derived.Test.YtainlanblpccjaaMg47
import Derived.WalkMore
import Derived.ScopeJumps
/- LevelWear, in the program (a goto back to a label): the contract. -/
namespace Go.Proofs.Ytainlanblpccjaa
open Go.RowKit
set_option linter.unusedVariables false
set_option linter.unusedSimpArgs false
set_option maxHeartbeats 16000000 in
set_option maxRecDepth 100000 in
theorem implLvw_any (u : Value) (M : We) (r : Bool) (G : We) (p cd : Int) (w : World) (hi : Nat) (h : WeIn w hi u M) (hh : hi ≤ w.heap.size) (hr : r = true ↔ WeOk M) (hg : LvwIs M r G p cd) (hl : WeSz M) :
    Calls Try.prog 25 #[u] w (WePost3 G p cd w) := by
  obtain ⟨ae, ab, ac, rfl, i1, i2, i3⟩ := h
  have HOW := Lib.hid (fun (W : World) (b : Below w.heap.size w W) (hR : Rw W w.heap.size 27 (wec M ae ab ac)) => implCloneW_any w.heap.size M ae ab ac W hi hR (i1.below b hh) (i2.below b hh) (i3.below b hh) (Nat.le_trans hh b.size) hl)
  obtain ⟨A1, n1, k1, rfl⟩ := i1.slice
  obtain ⟨A2, n2, k2, rfl⟩ := i2.slice
  obtain ⟨A3, n3, k3, rfl⟩ := i3.slice
  obtain ⟨nb, hnb⟩ : ∃ n, n = M.n := ⟨_, rfl⟩
  unfold wec at HOW ⊢
  rw [← hnb] at HOW ⊢
  have HNB := Lib.hid hnb
  obtain ⟨r0, r1, bb⟩ := Rw.two_new w 27 27 #[.slice A1 n1 k1, .slice A2 n2 k2, .slice A3 n3 k3, .int .i64 nb] #[.slice none 0 0, .slice none 0 0, .slice none 0 0, .int .i64 0]
  obtain ⟨W0, hW0⟩ : ∃ W0, W0 = (w.alloc (.cells #[.slice A1 n1 k1, .slice A2 n2 k2, .slice A3 n3 k3, .int .i64 nb] 27)).alloc (.cells #[.slice none 0 0, .slice none 0 0, .slice none 0 0, .int .i64 0] 27) := ⟨_, rfl⟩
  have hz0 : W0.heap.size = w.heap.size + 2 := by rw [hW0]; simp
  rw [← hW0] at r0 r1 bb
  have KP := Lib.hid (fun (W : World) (b : Below (w.heap.size + 2) W0 W) => show Rw W w.heap.size 27 #[.slice A1 n1 k1, .slice A2 n2 k2, .slice A3 n3 k3, .int .i64 nb] ∧ Rw W (w.heap.size + 1) 27 #[.slice none 0 0, .slice none 0 0, .slice none 0 0, .int .i64 0] ∧ Below w.heap.size w W from
    ⟨r0.below b (by omega), r1.below b (by omega), bb.trans (b.mono (by omega))⟩)
  have BZ : Below (w.heap.size + 2) W0 W0 := Below.refl _ _
  have Z0 : w.heap.size + 2 ≤ W0.heap.size := by omega
  have HR := Lib.hid hr
  have HG := Lib.hid hg
  have HSZ := Lib.hid hl
  clear r0 r1 bb hh hr hg hl hz0 i1 i2 i3 hnb
  go_enter Try.func25, Try.ntmps25
  go_wp2
  rw [← hW0]
  clear hW0
  refine wp_scope_jumps 0 (fun a' wr => ∃ (g k : Nat) (Mc : We) (E1 E2 E3 : Option Addr) (m1 j1 m2 j2 m3 j3 : Nat) (u7 u8 u9 u10 u11 u12 u13 u14 u15 u16 u17 u18 u19 u20 u21 u22 u23 u24 u25 u26 : Value), a' = { tmps := #[.agg #[.slice A1 n1 k1, .slice A2 n2 k2, .slice A3 n3 k3, .int .i64 nb], .pointer (some ⟨w.heap.size, 0, none⟩), .pointer (some ⟨w.heap.size + 1, 0, none⟩), .int .i64 0, .int .i64 0, .pointer (some ⟨g, 0, none⟩), .int .i64 (k : Int), u7, u8, u9, u10, u11, u12, u13, u14, u15, u16, u17, u18, u19, u20, u21, u22, u23, u24, u25, u26], defers := [] } ∧ Hid (r = true) ∧ Hid (LvS w wr g E1 E2 E3 m1 j1 m2 j2 m3 j3 Mc) ∧ Hid (LvRun M Mc k G p cd)) (fun a' _ => 40000 - (intOf (a'.tmps.getD 6 undef)).toNat) rfl ?_ ?_
  · skip
    obtain ⟨q0, q1, q2, q3⟩ := (KP.out _ BZ).1.four
    go_wp2_with fail
    refine (HOW.out _ (KP.out _ BZ).2.2 (KP.out _ BZ).1).mono ?_
    rintro e w2 ⟨u2, rfl, ho, q⟩
    clear q0 q1 q2 q3 HOW
    have B2 := BZ.trans (q.mono Z0)
    have Z2 := Nat.le_trans Z0 q.size
    obtain ⟨a0, a1, a2, e, _⟩ := id ho
    obtain ⟨E1, m1, j1, E2, m2, j2, E3, m3, j3, g3, rfl⟩ := ho.agg_
    have e4 : g3 = M.n := by
      unfold wec at e
      injection e with e; injection e with e; injection e with _ e; injection e with _ e; injection e with _ e; injection e with e _; injection e
    subst e4
    clear e
    obtain ⟨wr, hX⟩ : ∃ X, X = w2.alloc (.cells #[.slice E1 m1 j1, .slice E2 m2 j2, .slice E3 m3 j3, .int .i64 M.n] 27) := ⟨_, rfl⟩
    have bx : Below w2.heap.size w2 wr := by rw [hX]; exact (Below.refl _ w2).alloc (Nat.le_refl _) _
    have t8 : Rw wr w2.heap.size 27 #[.slice E1 m1 j1, .slice E2 m2 j2, .slice E3 m3 j3, .int .i64 M.n] := by rw [hX]; exact Rw.new w2 _ _
    have B3 := B2.trans (bx.mono Z2)
    have hXs : w2.heap.size + 1 = wr.heap.size := by rw [hX]; simp
    have S1 := Lib.hid (show LvS w wr w2.heap.size E1 E2 E3 m1 j1 m2 j2 m3 j3 M from ⟨(KP.out _ B3).2, t8, Z2, W0.heap.size, w2.heap.size, ho.same (sm bx _ (Nat.le_refl _)), Z0, by omega, .inl (Nat.le_refl _)⟩)
    obtain ⟨g, hgg⟩ : ∃ g, g = w2.heap.size := ⟨_, rfl⟩
    rw [← hgg] at S1
    obtain ⟨Mc, hMc⟩ : ∃ m, m = M := ⟨_, rfl⟩
    clear ho q bx t8 B3 hXs KP B2 BZ Z2
    rw [← hMc] at S1 hX ⊢
    have HMc := Lib.hid hMc
    clear hMc
    go_upto_region 2 with fail
    rw [← hX, ← hgg]
    clear hX hgg
    go_step3
    rcases r with _ | _
    · obtain ⟨hG, hp, hc⟩ : G = We.zero ∧ p = 0 ∧ cd = 1 := by
        rcases HG.out with ⟨_, a, b, c⟩ | ⟨e, _⟩
        · exact ⟨a, b, c⟩
        · cases e
      subst hp; subst hc
      have HGG := Lib.hid hG
      clear hG HG
      have HLM := Lib.hid (implLvm_any _ Mc false We.zero 1 wr wr.heap.size S1.out.reads (Nat.le_refl _) (by rw [HMc.out]; exact HR.out) (.inl ⟨rfl, rfl, rfl⟩) (by rw [HMc.out]; exact HSZ.out))
      obtain ⟨q0, q1, q2, q3⟩ := S1.out.row.four
      have HG1 := trivial
      obtain ⟨nc, hnc⟩ : ∃ n, n = Mc.n := ⟨_, rfl⟩
      rw [← hnc] at q3 HLM
      clear hnc
      go_wp2_with fail
      refine HLM.out.mono ?_
      rintro e w3 ⟨u3, rfl, ho, q⟩
      clear q0 q1 q2 q3 HLM
      have S2 := Lib.hid (S1.out.later q)
      obtain ⟨A4, n4, k4, A5, n5, k5, A6, n6, k6, g7, rfl⟩ := ho.agg_
      obtain ⟨X, hX⟩ : ∃ X, X = w3.alloc (.cells #[.slice A4 n4 k4, .slice A5 n5 k5, .slice A6 n6 k6, .int .i64 g7] 27) := ⟨_, rfl⟩
      have S3 := Lib.hid (show LvS w X g E1 E2 E3 m1 j1 m2 j2 m3 j3 Mc by rw [hX]; exact S2.out.later ((Below.refl _ w3).alloc (Nat.le_refl _) _))
      clear ho q HG1
      go_upto_region 3 with fail
      rw [← hX]
      clear hX
      have R9 := Lib.hid S3.out.res
      have L9 := Lib.hid S3.out.bel
      obtain ⟨d0, d1, d2, d3⟩ := R9.out.four
      obtain ⟨f0, f1, f2, f3, _, _, _, _⟩ := R9.out.frees
      go_wp2
      simp only [Exit.jump]
      refine bodyPost_ret (results_row_tmpW Try.results25 _ _ _ _ #[.slice none 0 0, .slice none 0 0, .slice none 0 0, .int .i64 0] _ _ rfl ((((R9.out.set_ 0 _).set_ 1 _).set_ 2 _).set_ 3 _) Try.underlying27 rfl infoWe) rfl ⟨_, rfl, ?_, ?_⟩
      · rw [HGG.out]; exact WeOwn.zero _ _ _
      · repeat refine bset ?_ (by omega) _
        exact L9.out
    · have hrun : (G, p, cd) = lvRun (leftW M.e) M 0 := by
        rcases HG.out with ⟨e, _⟩ | ⟨_, h⟩
        · cases e
        · exact h
      have HRT := Lib.hid (show (true : Bool) = true from rfl)
      obtain ⟨k, hk0⟩ : ∃ k : Nat, k = 0 := ⟨0, rfl⟩
      have RU : Hid (LvRun M Mc k G p cd) := Lib.hid (by rw [hk0, HMc.out]; exact LvRun.start (HR.out.1 rfl) HSZ.out hrun)
      clear hrun HG
      have hk : k ≤ 36000 := by have := RU.out.left; omega
      obtain ⟨G1, c1, hG1⟩ := lvmIs Mc true
      have HLM := Lib.hid (implLvm_any _ Mc true G1 c1 wr wr.heap.size S1.out.reads (Nat.le_refl _) ⟨fun _ => RU.out.ok, fun _ => rfl⟩ hG1 RU.out.sz)
      have HG1 := Lib.hid hG1
      obtain ⟨q0, q1, q2, q3⟩ := S1.out.row.four
      obtain ⟨nc, hnc⟩ : ∃ n, n = Mc.n := ⟨_, rfl⟩
      rw [← hnc] at q3 HLM
      have HNC := Lib.hid hnc
      clear hnc hG1
      go_wp2_with fail
      refine HLM.out.mono ?_
      rintro e w3 ⟨u3, rfl, ho, q⟩
      clear q0 q1 q2 q3 HLM
      have S2 := Lib.hid (S1.out.later q)
      rcases HG1.out with ⟨e, _⟩ | ⟨_, n, hG1, hc1⟩ | ⟨_, n, f1, f2, hG1, hc1⟩ | ⟨_, n, f1, hG1, hc1⟩
      · cases e
      · subst hc1
        obtain ⟨hG, hp, hc⟩ := RU.out.stop n
        subst hp; subst hc
        have HGG := Lib.hid hG
        clear hG n hG1
        obtain ⟨A4, n4, k4, A5, n5, k5, A6, n6, k6, g7, rfl⟩ := ho.agg_
        obtain ⟨X, hX⟩ : ∃ X, X = w3.alloc (.cells #[.slice A4 n4 k4, .slice A5 n5 k5, .slice A6 n6 k6, .int .i64 g7] 27) := ⟨_, rfl⟩
        have S3 := Lib.hid (show LvS w X g E1 E2 E3 m1 j1 m2 j2 m3 j3 Mc by rw [hX]; exact S2.out.later ((Below.refl _ w3).alloc (Nat.le_refl _) _))
        clear ho q HG1
        go_upto_region 3 with fail
        rw [← hX]
        clear hX
        have R9 := Lib.hid S3.out.res
        have L9 := Lib.hid S3.out.bel
        obtain ⟨q0, q1, q2, q3⟩ := S3.out.row.four
        rw [← HNC.out] at q3
        obtain ⟨d0, d1, d2, d3⟩ := R9.out.four
        obtain ⟨f0, f1, f2, f3, _, _, _, _⟩ := R9.out.frees
        go_wp2
        simp only [Exit.jump]
        refine bodyPost_ret (results_row_tmpW Try.results25 _ _ _ _ #[.slice E1 m1 j1, .slice E2 m2 j2, .slice E3 m3 j3, .int .i64 nc] _ _ rfl ((((R9.out.set_ 0 _).set_ 1 _).set_ 2 _).set_ 3 _) Try.underlying27 rfl infoWe) rfl ⟨_, rfl, ?_, ?_⟩
        · rw [HGG.out, HNC.out]
          simpa using S3.out.fin
        · repeat refine bset ?_ (by omega) _
          exact L9.out
      · subst hc1
        obtain ⟨hG, hp, hc⟩ := RU.out.full n ⟨f1, f2⟩
        subst hp; subst hc
        have HGG := Lib.hid hG
        clear hG n f1 f2 hG1
        obtain ⟨A4, n4, k4, A5, n5, k5, A6, n6, k6, g7, rfl⟩ := ho.agg_
        obtain ⟨X, hX⟩ : ∃ X, X = w3.alloc (.cells #[.slice A4 n4 k4, .slice A5 n5 k5, .slice A6 n6 k6, .int .i64 g7] 27) := ⟨_, rfl⟩
        have S3 := Lib.hid (show LvS w X g E1 E2 E3 m1 j1 m2 j2 m3 j3 Mc by rw [hX]; exact S2.out.later ((Below.refl _ w3).alloc (Nat.le_refl _) _))
        clear ho q HG1
        go_upto_region 3 with fail
        rw [← hX]
        clear hX
        have R9 := Lib.hid S3.out.res
        have L9 := Lib.hid S3.out.bel
        obtain ⟨d0, d1, d2, d3⟩ := R9.out.four
        obtain ⟨f0, f1, f2, f3, _, _, _, _⟩ := R9.out.frees
        go_wp2
        simp only [Exit.jump]
        refine bodyPost_ret (results_row_tmpW Try.results25 _ _ _ _ #[.slice none 0 0, .slice none 0 0, .slice none 0 0, .int .i64 0] _ _ rfl ((((R9.out.set_ 0 _).set_ 1 _).set_ 2 _).set_ 3 _) Try.underlying27 rfl infoWe) rfl ⟨_, rfl, ?_, ?_⟩
        · rw [HGG.out]; exact WeOwn.zero _ _ _
        · repeat refine bset ?_ (by omega) _
          exact L9.out
      · subst hc1
        have RU2 := Lib.hid (RU.out.move n f1)
        obtain ⟨M2, hM2⟩ : ∃ m, m = lvM Mc := ⟨_, rfl⟩
        rw [← hM2] at RU2 hG1
        subst hG1
        obtain ⟨a0, a1, a2, e, _⟩ := id ho
        obtain ⟨A4, n4, k4, A5, n5, k5, A6, n6, k6, g7, rfl⟩ := ho.agg_
        have e4 : g7 = G1.n := by
          unfold wec at e
          injection e with e; injection e with e; injection e with _ e; injection e with _ e; injection e with _ e; injection e with e _; injection e
        subst e4
        clear e
        obtain ⟨X, hX⟩ : ∃ X, X = w3.alloc (.cells #[.slice A4 n4 k4, .slice A5 n5 k5, .slice A6 n6 k6, .int .i64 G1.n] 27) := ⟨_, rfl⟩
        have bx : Below w3.heap.size w3 X := by rw [hX]; exact (Below.refl _ w3).alloc (Nat.le_refl _) _
        have t8 : Rw X w3.heap.size 27 #[.slice A4 n4 k4, .slice A5 n5 k5, .slice A6 n6 k6, .int .i64 G1.n] := by rw [hX]; exact Rw.new w3 _ _
        have SN := S1.out.next (q.trans (bx.mono q.size)) w3.heap.size bx.size (ho.same (sm bx _ (Nat.le_refl _)))
        have s4 := (S2.out.later bx).row
        obtain ⟨g8, h8⟩ : ∃ g, g = w3.heap.size := ⟨_, rfl⟩
        rw [← h8] at t8
        have SNH := Lib.hid SN
        have hw8 : IntKind.i64.wrap ((k : Int) + 1) = ((k + 1 : Nat) : Int) := by rw [IntWalk.i64_in _ (by omega)]; omega
        obtain ⟨nn, hnn⟩ : ∃ n, n = G1.n := ⟨_, rfl⟩
        rw [← hnn] at t8 hX SNH ⊢
        obtain ⟨t0, t1, t2, t3⟩ := t8.four
        obtain ⟨v0, v1, v2, v3⟩ := s4.four
        obtain ⟨y0, y1, y2, y3, _, _, _, _⟩ := s4.frees
        clear SN n f1 ho q HG1 bx t8 s4 hnn hM2
        go_upto_region 3 with fail
        rw [← hX, ← h8]
        clear hX h8
        go_wp2
        go_step3
        have RU3 := Lib.hid (show LvRun M G1 1 G p cd by have := RU2.out; rw [hk0] at this; exact this)
        exact ⟨rfl, g, 1, G1, A4, A5, A6, n4, k4, n5, k5, n6, k6, _, _, _, _, _, _, _, _, _, _, _, _, _, _, _, _, _, _, _, _, rfl, Lib.hid rfl, SNH, RU3⟩
  · skip
    clear HOW KP BZ Z0 HG HR
    rintro a' wr ⟨g, k, Mc, E1, E2, E3, m1, j1, m2, j2, m3, j3, u7, u8, u9, u10, u11, u12, u13, u14, u15, u16, u17, u18, u19, u20, u21, u22, u23, u24, u25, u26, rfl, HRT, S1, RU⟩
    have hk : k ≤ 36000 := by have := RU.out.left; omega
    obtain ⟨G1, c1, hG1⟩ := lvmIs Mc true
    have HLM := Lib.hid (implLvm_any _ Mc true G1 c1 wr wr.heap.size S1.out.reads (Nat.le_refl _) ⟨fun _ => RU.out.ok, fun _ => rfl⟩ hG1 RU.out.sz)
    have HG1 := Lib.hid hG1
    obtain ⟨q0, q1, q2, q3⟩ := S1.out.row.four
    obtain ⟨nc, hnc⟩ : ∃ n, n = Mc.n := ⟨_, rfl⟩
    rw [← hnc] at q3 HLM
    have HNC := Lib.hid hnc
    clear hnc hG1
    go_wp2_with fail
    refine HLM.out.mono ?_
    rintro e w3 ⟨u3, rfl, ho, q⟩
    clear q0 q1 q2 q3 HLM
    have S2 := Lib.hid (S1.out.later q)
    rcases HG1.out with ⟨e, _⟩ | ⟨_, n, hG1, hc1⟩ | ⟨_, n, f1, f2, hG1, hc1⟩ | ⟨_, n, f1, hG1, hc1⟩
    · cases e
    · subst hc1
      obtain ⟨hG, hp, hc⟩ := RU.out.stop n
      subst hp; subst hc
      have HGG := Lib.hid hG
      clear hG n hG1
      obtain ⟨A4, n4, k4, A5, n5, k5, A6, n6, k6, g7, rfl⟩ := ho.agg_
      obtain ⟨X, hX⟩ : ∃ X, X = w3.alloc (.cells #[.slice A4 n4 k4, .slice A5 n5 k5, .slice A6 n6 k6, .int .i64 g7] 27) := ⟨_, rfl⟩
      have S3 := Lib.hid (show LvS w X g E1 E2 E3 m1 j1 m2 j2 m3 j3 Mc by rw [hX]; exact S2.out.later ((Below.refl _ w3).alloc (Nat.le_refl _) _))
      clear ho q HG1
      go_upto_region 3 with fail
      rw [← hX]
      clear hX
      have R9 := Lib.hid S3.out.res
      have L9 := Lib.hid S3.out.bel
      obtain ⟨q0, q1, q2, q3⟩ := S3.out.row.four
      rw [← HNC.out] at q3
      obtain ⟨d0, d1, d2, d3⟩ := R9.out.four
      obtain ⟨f0, f1, f2, f3, _, _, _, _⟩ := R9.out.frees
      go_wp2
      simp only [Exit.jump]
      refine bodyPost_ret (results_row_tmpW Try.results25 _ _ _ _ #[.slice E1 m1 j1, .slice E2 m2 j2, .slice E3 m3 j3, .int .i64 nc] _ _ rfl ((((R9.out.set_ 0 _).set_ 1 _).set_ 2 _).set_ 3 _) Try.underlying27 rfl infoWe) rfl ⟨_, rfl, ?_, ?_⟩
      · rw [HGG.out, HNC.out]
        simpa using S3.out.fin
      · repeat refine bset ?_ (by omega) _
        exact L9.out
    · subst hc1
      obtain ⟨hG, hp, hc⟩ := RU.out.full n ⟨f1, f2⟩
      subst hp; subst hc
      have HGG := Lib.hid hG
      clear hG n f1 f2 hG1
      obtain ⟨A4, n4, k4, A5, n5, k5, A6, n6, k6, g7, rfl⟩ := ho.agg_
      obtain ⟨X, hX⟩ : ∃ X, X = w3.alloc (.cells #[.slice A4 n4 k4, .slice A5 n5 k5, .slice A6 n6 k6, .int .i64 g7] 27) := ⟨_, rfl⟩
      have S3 := Lib.hid (show LvS w X g E1 E2 E3 m1 j1 m2 j2 m3 j3 Mc by rw [hX]; exact S2.out.later ((Below.refl _ w3).alloc (Nat.le_refl _) _))
      clear ho q HG1
      go_upto_region 3 with fail
      rw [← hX]
      clear hX
      have R9 := Lib.hid S3.out.res
      have L9 := Lib.hid S3.out.bel
      obtain ⟨d0, d1, d2, d3⟩ := R9.out.four
      obtain ⟨f0, f1, f2, f3, _, _, _, _⟩ := R9.out.frees
      go_wp2
      simp only [Exit.jump]
      refine bodyPost_ret (results_row_tmpW Try.results25 _ _ _ _ #[.slice none 0 0, .slice none 0 0, .slice none 0 0, .int .i64 0] _ _ rfl ((((R9.out.set_ 0 _).set_ 1 _).set_ 2 _).set_ 3 _) Try.underlying27 rfl infoWe) rfl ⟨_, rfl, ?_, ?_⟩
      · rw [HGG.out]; exact WeOwn.zero _ _ _
      · repeat refine bset ?_ (by omega) _
        exact L9.out
    · subst hc1
      have RU2 := Lib.hid (RU.out.move n f1)
      obtain ⟨M2, hM2⟩ : ∃ m, m = lvM Mc := ⟨_, rfl⟩
      rw [← hM2] at RU2 hG1
      subst hG1
      obtain ⟨a0, a1, a2, e, _⟩ := id ho
      obtain ⟨A4, n4, k4, A5, n5, k5, A6, n6, k6, g7, rfl⟩ := ho.agg_
      have e4 : g7 = G1.n := by
        unfold wec at e
        injection e with e; injection e with e; injection e with _ e; injection e with _ e; injection e with _ e; injection e with e _; injection e
      subst e4
      clear e
      obtain ⟨X, hX⟩ : ∃ X, X = w3.alloc (.cells #[.slice A4 n4 k4, .slice A5 n5 k5, .slice A6 n6 k6, .int .i64 G1.n] 27) := ⟨_, rfl⟩
      have bx : Below w3.heap.size w3 X := by rw [hX]; exact (Below.refl _ w3).alloc (Nat.le_refl _) _
      have t8 : Rw X w3.heap.size 27 #[.slice A4 n4 k4, .slice A5 n5 k5, .slice A6 n6 k6, .int .i64 G1.n] := by rw [hX]; exact Rw.new w3 _ _
      have SN := S1.out.next (q.trans (bx.mono q.size)) w3.heap.size bx.size (ho.same (sm bx _ (Nat.le_refl _)))
      have s4 := (S2.out.later bx).row
      obtain ⟨g8, h8⟩ : ∃ g, g = w3.heap.size := ⟨_, rfl⟩
      rw [← h8] at t8
      have SNH := Lib.hid SN
      have hw8 : IntKind.i64.wrap ((k : Int) + 1) = ((k + 1 : Nat) : Int) := by rw [IntWalk.i64_in _ (by omega)]; omega
      obtain ⟨nn, hnn⟩ : ∃ n, n = G1.n := ⟨_, rfl⟩
      rw [← hnn] at t8 hX SNH ⊢
      obtain ⟨t0, t1, t2, t3⟩ := t8.four
      obtain ⟨v0, v1, v2, v3⟩ := s4.four
      obtain ⟨y0, y1, y2, y3, _, _, _, _⟩ := s4.frees
      clear SN n f1 ho q HG1 bx t8 s4 hnn hM2
      go_upto_region 3 with fail
      rw [← hX, ← h8]
      clear hX h8
      go_wp2
      go_step3
      refine ⟨rfl, ⟨g, k + 1, G1, A4, A5, A6, n4, k4, n5, k5, n6, k6, _, _, _, _, _, _, _, _, _, _, _, _, _, _, _, _, _, _, _, _, rfl, HRT, SNH, RU2⟩, ?_⟩
      simp [intOf]
      omega
end Go.Proofs.Ytainlanblpccjaa
