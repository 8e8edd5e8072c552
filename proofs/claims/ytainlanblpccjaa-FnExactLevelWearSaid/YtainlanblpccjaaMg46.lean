/- The proof's own lemmas, part 47: WnW. -/
import Derived.Test.YtainlanblpccjaaProg
import Derived.Test.YtainlanblpccjaaMg45
import Derived.Test.YtainlanblpccjaaMg31
/- LevelWear: the state in the midst of the moves; in the model: the contract. -/
namespace Go.Proofs.Ytainlanblpccjaa
open Go.RowKit
set_option linter.unusedVariables false
set_option linter.unusedSimpArgs false
/-- A world in the midst of the moves: the state M lies in the variable g. -/
def LvS (w W : World) (g : Nat) (A1 A2 A3 : Option Addr) (n1 k1 n2 k2 n3 k3 : Nat) (M : We) : Prop :=
  (Rw W (w.heap.size + 1) 27 #[.slice none 0 0, .slice none 0 0, .slice none 0 0, .int .i64 0] ∧ Below w.heap.size w W) ∧
  Rw W g 27 #[.slice A1 n1 k1, .slice A2 n2 k2, .slice A3 n3 k3, .int .i64 M.n] ∧ w.heap.size + 2 ≤ g ∧
  ∃ lo hi, WeOwn W lo hi (.agg #[.slice A1 n1 k1, .slice A2 n2 k2, .slice A3 n3 k3, .int .i64 M.n]) M ∧ w.heap.size + 2 ≤ lo ∧ hi ≤ W.heap.size ∧ (hi ≤ g ∨ g < lo)
section
variable {w W W' : World} {g : Nat} {A1 A2 A3 B1 B2 B3 : Option Addr} {n1 k1 n2 k2 n3 k3 m1 j1 m2 j2 m3 j3 : Nat} {M M' : We}
theorem LvS.later (h : LvS w W g A1 A2 A3 n1 k1 n2 k2 n3 k3 M) (b : Below W.heap.size W W') : LvS w W' g A1 A2 A3 n1 k1 n2 k2 n3 k3 M := by
  obtain ⟨⟨h1, h2⟩, h3, h4, lo, hi, h5, h6, h7, h8⟩ := h
  exact ⟨⟨h1.below b h1.lt, h2.trans (b.mono h2.size)⟩, h3.below b h3.lt, h4, lo, hi, h5.same (sm b lo h7), h6, Nat.le_trans h7 b.size, h8⟩
theorem LvS.row (h : LvS w W g A1 A2 A3 n1 k1 n2 k2 n3 k3 M) : Rw W g 27 #[.slice A1 n1 k1, .slice A2 n2 k2, .slice A3 n3 k3, .int .i64 M.n] := h.2.1
theorem LvS.res (h : LvS w W g A1 A2 A3 n1 k1 n2 k2 n3 k3 M) : Rw W (w.heap.size + 1) 27 #[.slice none 0 0, .slice none 0 0, .slice none 0 0, .int .i64 0] := h.1.1
theorem LvS.bel (h : LvS w W g A1 A2 A3 n1 k1 n2 k2 n3 k3 M) : Below w.heap.size w W := h.1.2
theorem LvS.reads (h : LvS w W g A1 A2 A3 n1 k1 n2 k2 n3 k3 M) : WeIn W W.heap.size (.agg #[.slice A1 n1 k1, .slice A2 n2 k2, .slice A3 n3 k3, .int .i64 M.n]) M := by
  obtain ⟨_, _, _, lo, hi, h5, h6, h7, h8⟩ := h
  exact h5.reads.wide h7
theorem LvS.two (h : LvS w W g A1 A2 A3 n1 k1 n2 k2 n3 k3 M) : NI W W.heap.size (.slice A1 n1 k1) M.e ∧ NB W W.heap.size (.slice A2 n2 k2) M.b := by
  obtain ⟨a0, a1, a2, e, i1, i2, i3⟩ := h.reads
  unfold wec at e
  injection e with e; injection e with e; injection e with e1 e; injection e with e2 e
  subst e1; subst e2
  exact ⟨i1, i2⟩
/-- The variable takes the state that a move handed back. -/
theorem LvS.next (h : LvS w W g A1 A2 A3 n1 k1 n2 k2 n3 k3 M) (b : Below W.heap.size W W') (hi : Nat) (hh : hi ≤ W'.heap.size) (ho : WeOwn W' W.heap.size hi (.agg #[.slice B1 m1 j1, .slice B2 m2 j2, .slice B3 m3 j3, .int .i64 M'.n]) M') :
    LvS w ((((W'.setCell ⟨g, 0, none⟩ (.slice B1 m1 j1)).setCell ⟨g, 1, none⟩ (.slice B2 m2 j2)).setCell ⟨g, 2, none⟩ (.slice B3 m3 j3)).setCell ⟨g, 3, none⟩ (.int .i64 M'.n)) g B1 B2 B3 m1 j1 m2 j2 m3 j3 M' := by
  obtain ⟨⟨h1, h2⟩, h3, h4, lo, hi0, h5, h6, h7, h8⟩ := h
  have hg := h3.lt
  have hw := h2.size
  refine ⟨⟨((((h1.below b h1.lt).farA (by omega) _).farA (by omega) _).farA (by omega) _).farA (by omega) _, bset (bset (bset (bset (h2.trans (b.mono hw)) (by omega) _) (by omega) _) (by omega) _) (by omega) _⟩, (((((h3.below b hg).set_ 0 _).set_ 1 _).set_ 2 _).set_ 3 _), h4, W.heap.size, hi, (((ho.setLow hg).setLow hg).setLow hg).setLow hg, by have := h1.lt; omega, by simpa using hh, .inr hg⟩
/-- The state returned. -/
theorem LvS.fin (h : LvS w W g A1 A2 A3 n1 k1 n2 k2 n3 k3 M) : WeOwn ((((W.setCell ⟨w.heap.size + 1, 0, none⟩ (.slice A1 n1 k1)).setCell ⟨w.heap.size + 1, 1, none⟩ (.slice A2 n2 k2)).setCell ⟨w.heap.size + 1, 2, none⟩ (.slice A3 n3 k3)).setCell ⟨w.heap.size + 1, 3, none⟩ (.int .i64 M.n)) w.heap.size W.heap.size (.agg #[.slice A1 n1 k1, .slice A2 n2 k2, .slice A3 n3 k3, .int .i64 M.n]) M := by
  obtain ⟨_, _, _, lo, hi, h5, h6, h7, h8⟩ := h
  exact ((((h5.setLow (by omega)).setLow (by omega)).setLow (by omega)).setLow (by omega)).wide (by omega) h7
end
/-- What is kept of a run of moves. -/
structure LvRun (M0 M : We) (k : Nat) (G : We) (p c : Int) : Prop where
  ok : WeOk M
  sz : WeSz M
  run : (G, p, c) = lvRun (leftW M.e) M k
  left : k + leftW M.e ≤ 36000
theorem LvRun.start {M G : We} {p c : Int} (o : WeOk M) (z : WeSz M) (h : (G, p, c) = lvRun (leftW M.e) M 0) : LvRun M M 0 G p c :=
  ⟨o, z, h, by have := leftW_le M.e (fun i hi => (o.2.2.2.2 i hi).1); have := o.1.2; omega⟩
theorem LvRun.stop {M0 M G : We} {k : Nat} {p c : Int} (h : LvRun M0 M k G p c) (hn : lvNeed M = false) : G = M ∧ p = (k : Int) ∧ c = 0 := by
  have := h.run
  rw [lvRun_stop hn] at this
  injection this with e1 e2; injection e2 with e2 e3
  exact ⟨e1, e2, e3⟩
theorem LvRun.pos {M0 M G : We} {k : Nat} {p c : Int} (h : LvRun M0 M k G p c) (hn : lvNeed M = true) : leftW M.e = leftW (lvM M).e + 1 := (lvM_left h.ok hn).symm
theorem LvRun.full {M0 M G : We} {k : Nat} {p c : Int} (h : LvRun M0 M k G p c) (hn : lvNeed M = true) (hf : M.c.getD (lvB M).toNat 0 ≠ 0 ∧ plcV M false = -1) : G = We.zero ∧ p = 0 ∧ c = 4 := by
  have := h.run
  rw [h.pos hn, lvRun_full hn hf] at this
  injection this with e1 e2; injection e2 with e2 e3
  exact ⟨e1, e2, e3⟩
theorem LvRun.move {M0 M G : We} {k : Nat} {p c : Int} (h : LvRun M0 M k G p c) (hn : lvNeed M = true) (hf : M.c.getD (lvB M).toNat 0 = 0 ∨ M.c.getD (lvB M).toNat 0 ≠ 0 ∧ 0 ≤ plcV M false ∧ plcV M false < (M.e.length : Int)) : LvRun M0 (lvM M) (k + 1) G p c := by
  refine ⟨lvM_ok h.ok hn hf, lvM_sz h.sz, ?_, ?_⟩
  · have := h.run
    rw [h.pos hn, lvRun_move hn hf] at this
    rw [this]; simp
  · have := h.left; have := h.pos hn; omega
set_option maxHeartbeats 8000000 in
set_option maxRecDepth 100000 in
theorem specLvw_any (u : Value) (M : We) (r : Bool) (G : We) (p cd : Int) (w : World) (hi : Nat) (h : WeIn w hi u M) (hh : hi ≤ w.heap.size) (hr : r = true ↔ WeOk M) (hg : LvwIs M r G p cd) (hl : WeSz M) :
    Calls Try.prog 24 #[u] w (WePost3 G p cd w) := by
  have HSV := Lib.hid (fun (W : World) (b : Below w.heap.size w W) => specWeOk_any u M r W hi (h.below b hh) (Nat.le_trans hh b.size) hr hl)
  have HOW := Lib.hid (fun (W : World) (b : Below w.heap.size w W) (o : WeOk M) => specOwn12_any u M W hi (h.below b hh) (Nat.le_trans hh b.size) o.1.1 o.2.1 o.2.2.1 o.1.2)
  obtain ⟨A1, n1, k1, A2, n2, k2, A3, n3, k3, nb, rfl⟩ := h.agg_
  obtain ⟨r0, r1, bb⟩ := Rw.two_new w 27 27 #[.slice A1 n1 k1, .slice A2 n2 k2, .slice A3 n3 k3, .int .i64 nb] #[.slice none 0 0, .slice none 0 0, .slice none 0 0, .int .i64 0]
  obtain ⟨W0, hW0⟩ : ∃ W0, W0 = (w.alloc (.cells #[.slice A1 n1 k1, .slice A2 n2 k2, .slice A3 n3 k3, .int .i64 nb] 27)).alloc (.cells #[.slice none 0 0, .slice none 0 0, .slice none 0 0, .int .i64 0] 27) := ⟨_, rfl⟩
  have hz0 : W0.heap.size = w.heap.size + 2 := by rw [hW0]; simp
  rw [← hW0] at r0 r1 bb
  have KP := Lib.hid (fun (W : World) (b : Below (w.heap.size + 2) W0 W) => show Rw W w.heap.size 27 #[.slice A1 n1 k1, .slice A2 n2 k2, .slice A3 n3 k3, .int .i64 nb] ∧ Rw W (w.heap.size + 1) 27 #[.slice none 0 0, .slice none 0 0, .slice none 0 0, .int .i64 0] ∧ Below w.heap.size w W from
    ⟨r0.below b (by omega), r1.below b (by omega), bb.trans (b.mono (by omega))⟩)
  have BZ : Below (w.heap.size + 2) W0 W0 := Below.refl _ _
  have Z0 : w.heap.size + 2 ≤ W0.heap.size := by omega
  have HR := Lib.hid hr
  have HG := Lib.hid hg
  have HSZ := Lib.hid hl
  obtain ⟨q0, q1, q2, q3⟩ := r0.four
  clear r0 r1 bb h hh hr hg hl hz0
  go_enter Try.func24, Try.ntmps24
  go_wp2_with fail
  rw [← hW0]
  clear hW0 q0 q1 q2 q3
  refine (HSV.out _ (KP.out _ BZ).2.2).mono ?_
  rintro e w1 ⟨rfl, q⟩
  have B1 := BZ.trans (q.mono Z0)
  have Z1 := Nat.le_trans Z0 q.size
  clear q HSV
  cases r with
  | false =>
    obtain ⟨hG, hp, hc⟩ : G = We.zero ∧ p = 0 ∧ cd = 1 := by
      rcases HG.out with ⟨_, a, b, c⟩ | ⟨e, _⟩
      · exact ⟨a, b, c⟩
      · cases e
    subst hp; subst hc
    have HGG := Lib.hid hG
    clear hG HG HOW
    obtain ⟨d0, d1, d2, d3⟩ := (KP.out _ B1).2.1.four
    obtain ⟨f0, f1, f2, f3, _, _, _, _⟩ := (KP.out _ B1).2.1.frees
    have R1 := Lib.hid (KP.out _ B1).2.1
    have L1 := Lib.hid (KP.out _ B1).2.2
    go_wp2
    refine bodyPost_ret (results_row_tmpW Try.results24 _ _ _ _ #[.slice none 0 0, .slice none 0 0, .slice none 0 0, .int .i64 0] _ _ rfl ((((R1.out.set_ 0 _).set_ 1 _).set_ 2 _).set_ 3 _) Try.underlying27 rfl infoWe) rfl ⟨_, rfl, by rw [HGG.out]; exact WeOwn.zero _ _ _, ?_⟩
    repeat refine bset ?_ (by omega) _
    exact L1.out
  | true =>
    have hrun : (G, p, cd) = lvRun (leftW M.e) M 0 := by
      rcases HG.out with ⟨e, _⟩ | ⟨_, h⟩
      · cases e
      · exact h
    have HOK := Lib.hid (HR.out.1 rfl)
    have HRU := Lib.hid (LvRun.start HOK.out HSZ.out hrun)
    obtain ⟨q0, q1, q2, q3⟩ := (KP.out _ B1).1.four
    clear hrun HG
    go_wp2_with fail
    refine (HOW.out _ (KP.out _ B1).2.2 HOK.out).mono ?_
    rintro e w2 ⟨u2, rfl, ho, q⟩
    clear q0 q1 q2 q3 HOW HR HOK
    have B2 := B1.trans (q.mono Z1)
    have Z2 := Nat.le_trans Z1 q.size
    obtain ⟨a0, a1, a2, e, _⟩ := id ho
    obtain ⟨E1, m1, j1, E2, m2, j2, E3, m3, j3, g3, rfl⟩ := ho.agg_
    have e4 : g3 = M.n := by
      unfold wec at e
      injection e with e; injection e with e; injection e with _ e; injection e with _ e; injection e with _ e; injection e with e _; injection e
    subst e4
    clear e
    obtain ⟨X, hX⟩ : ∃ X, X = w2.alloc (.cells #[.slice E1 m1 j1, .slice E2 m2 j2, .slice E3 m3 j3, .int .i64 M.n] 27) := ⟨_, rfl⟩
    have bx : Below w2.heap.size w2 X := by rw [hX]; exact (Below.refl _ w2).alloc (Nat.le_refl _) _
    have t8 : Rw X w2.heap.size 27 #[.slice E1 m1 j1, .slice E2 m2 j2, .slice E3 m3 j3, .int .i64 M.n] := by rw [hX]; exact Rw.new w2 _ _
    have B3 := B2.trans (bx.mono Z2)
    have hXs : w2.heap.size + 1 = X.heap.size := by rw [hX]; simp
    have S0 := Lib.hid (show LvS w X w2.heap.size E1 E2 E3 m1 j1 m2 j2 m3 j3 M from ⟨(KP.out _ B3).2, t8, Z2, w1.heap.size, w2.heap.size, ho.same (sm bx _ (Nat.le_refl _)), Z1, by omega, .inl (Nat.le_refl _)⟩)
    obtain ⟨g, hgg⟩ : ∃ g, g = w2.heap.size := ⟨_, rfl⟩
    rw [← hgg] at S0
    clear ho q bx t8 B3 hXs KP B1 B2
    go_upto_region 4 with fail
    rw [← hX, ← hgg]
    clear hX hgg
    go_wp2_with fail
    go_loopw [6] (fun kk wr => ∃ (k : Nat) (Mc : We) (E1 E2 E3 : Option Addr) (m1 j1 m2 j2 m3 j3 : Nat), kk = .int .i64 (k : Int) ∧ Hid (LvS w wr g E1 E2 E3 m1 j1 m2 j2 m3 j3 Mc) ∧ Hid (LvRun M Mc k G p cd)) (fun kk _ => 40000 - (intOf kk).toNat)
    case atStart => exact ⟨0, M, E1, E2, E3, m1, j1, m2, j2, m3, j3, rfl, S0, HRU⟩
    case round =>
      clear S0 HRU
      obtain ⟨k, Mc, E1, E2, E3, m1, j1, m2, j2, m3, j3, rfl, S1, RU⟩ := hrel
      have hk : k ≤ 36000 := by have := RU.out.left; omega
      have hCO : true = true ↔ CountsOk Mc.e := ⟨fun _ i hi => (RU.out.ok.2.2.2.2 i hi).1, fun _ => rfl⟩
      have hz1 := RU.out.ok.1.2
      have hz2 := RU.out.ok.2.1
      have HND := Lib.hid (show Calls Try.prog 89 #[.slice E1 m1 j1, .slice E2 m2 j2, .int .i64 Mc.n] wr (fun e w' => e = .returned (.bool (lvNeed Mc)) ∧ wr = w') from specNeed_any _ _ Mc.e Mc.b Mc.n true wr wr.heap.size S1.out.two.1 S1.out.two.2 hCO (by omega) (by omega))
      obtain ⟨q0, q1, q2, q3⟩ := S1.out.row.four
      obtain ⟨nd, hnd⟩ : ∃ b, b = lvNeed Mc := ⟨_, rfl⟩
      rw [← hnd] at HND
      have HNN := Lib.hid hnd
      clear hnd hCO hz1 hz2
      obtain ⟨nc, hnc⟩ : ∃ n, n = Mc.n := ⟨_, rfl⟩
      rw [← hnc] at q3 HND
      have HNC := Lib.hid hnc
      clear hnc
      go_wp2_with fail
      refine HND.out.mono ?_
      rintro e w' ⟨rfl, rfl⟩
      clear HND
      cases nd with
      | false =>
        obtain ⟨hG, hp, hc⟩ := RU.out.stop HNN.out.symm
        subst hp; subst hc
        have HGG := Lib.hid hG
        clear hG
        have R9 := Lib.hid S1.out.res
        have L9 := Lib.hid S1.out.bel
        obtain ⟨d0, d1, d2, d3⟩ := R9.out.four
        obtain ⟨f0, f1, f2, f3, _, _, _, _⟩ := R9.out.frees
        go_wp2
        refine bodyPost_ret (results_row_tmpW Try.results24 _ _ _ _ #[.slice E1 m1 j1, .slice E2 m2 j2, .slice E3 m3 j3, .int .i64 nc] _ _ rfl ((((R9.out.set_ 0 _).set_ 1 _).set_ 2 _).set_ 3 _) Try.underlying27 rfl infoWe) rfl ⟨_, rfl, ?_, ?_⟩
        · rw [HGG.out, HNC.out]
          simpa using S1.out.fin
        · repeat refine bset ?_ (by omega) _
          exact L9.out
      | true =>
        obtain ⟨G1, c1, hG1⟩ := lvmIs Mc true
        have HLM := Lib.hid (specLvm_any _ Mc true G1 c1 wr wr.heap.size S1.out.reads (Nat.le_refl _) ⟨fun _ => RU.out.ok, fun _ => rfl⟩ hG1 RU.out.sz)
        rw [← HNC.out] at HLM
        have HG1 := Lib.hid hG1
        clear hG1
        go_wp2_with fail
        refine HLM.out.mono ?_
        rintro e w3 ⟨u3, rfl, ho, q⟩
        clear q0 q1 q2 q3 HLM
        have S2 := Lib.hid (S1.out.later q)
        have Q3 := Lib.hid q
        rcases HG1.out with ⟨e, _⟩ | ⟨_, n, _⟩ | ⟨_, n, f1, f2, hG1, hc1⟩ | ⟨_, n, f1, hG1, hc1⟩
        · cases e
        · exact absurd (HNN.out.trans n) (by decide)
        · subst hc1
          obtain ⟨hG, hp, hc⟩ := RU.out.full n ⟨f1, f2⟩
          subst hp; subst hc
          have HGG := Lib.hid hG
          obtain ⟨A4, n4, k4, A5, n5, k5, A6, n6, k6, g7, rfl⟩ := ho.agg_
          have R9 := Lib.hid S2.out.res
          have L9 := Lib.hid S2.out.bel
          obtain ⟨X, hX⟩ : ∃ X, X = w3.alloc (.cells #[.slice A4 n4 k4, .slice A5 n5 k5, .slice A6 n6 k6, .int .i64 g7] 27) := ⟨_, rfl⟩
          have S3 := Lib.hid (show LvS w X g E1 E2 E3 m1 j1 m2 j2 m3 j3 Mc by rw [hX]; exact S2.out.later ((Below.refl _ w3).alloc (Nat.le_refl _) _))
          clear hG n f1 f2 hG1 ho q HG1 Q3
          go_upto_region 7 with fail
          rw [← hX]
          clear hX
          have R9 := Lib.hid S3.out.res
          have L9 := Lib.hid S3.out.bel
          obtain ⟨d0, d1, d2, d3⟩ := R9.out.four
          obtain ⟨f0, f1, f2, f3, _, _, _, _⟩ := R9.out.frees
          go_wp2
          refine bodyPost_ret (results_row_tmpW Try.results24 _ _ _ _ #[.slice none 0 0, .slice none 0 0, .slice none 0 0, .int .i64 0] _ _ rfl ((((R9.out.set_ 0 _).set_ 1 _).set_ 2 _).set_ 3 _) Try.underlying27 rfl infoWe) rfl ⟨_, rfl, by rw [HGG.out]; exact WeOwn.zero _ _ _, ?_⟩
          repeat refine bset ?_ (by omega) _
          exact L9.out
        · subst hc1
          have RU2 := Lib.hid (RU.out.move n f1)
          obtain ⟨M2, hM2⟩ : ∃ m, m = lvM Mc := ⟨_, rfl⟩
          rw [← hM2] at RU2 hG1
          subst hG1
          obtain ⟨a0, a1, a2, e, _⟩ := id ho
          obtain ⟨A4, n4, k4, A5, n5, k5, A6, n6, k6, g7, rfl⟩ := ho.agg_
          have e4 : g7 = G1.n := by
            unfold wec at e
            injection e with e; injection e with e; injection e with _ e; injection e with _ e; injection e with _ e; injection e with e _; injection e
          subst e4
          clear e
          obtain ⟨X, hX⟩ : ∃ X, X = w3.alloc (.cells #[.slice A4 n4 k4, .slice A5 n5 k5, .slice A6 n6 k6, .int .i64 G1.n] 27) := ⟨_, rfl⟩
          have bx : Below w3.heap.size w3 X := by rw [hX]; exact (Below.refl _ w3).alloc (Nat.le_refl _) _
          have t8 : Rw X w3.heap.size 27 #[.slice A4 n4 k4, .slice A5 n5 k5, .slice A6 n6 k6, .int .i64 G1.n] := by rw [hX]; exact Rw.new w3 _ _
          have SN := S1.out.next (q.trans (bx.mono q.size)) w3.heap.size bx.size (ho.same (sm bx _ (Nat.le_refl _)))
          have s4 := (S2.out.later bx).row
          obtain ⟨g8, h8⟩ : ∃ g, g = w3.heap.size := ⟨_, rfl⟩
          rw [← h8] at t8
          have SNH := Lib.hid SN
          have HW8 := Lib.hid (show wr.heap.size ≤ g8 by rw [h8]; exact q.size)
          have hw8 : IntKind.i64.wrap ((k : Int) + 1) = ((k + 1 : Nat) : Int) := by rw [IntWalk.i64_in _ (by omega)]; omega
          obtain ⟨nn, hnn⟩ : ∃ n, n = G1.n := ⟨_, rfl⟩
          rw [← hnn] at t8 hX SNH ⊢
          obtain ⟨t0, t1, t2, t3⟩ := t8.four
          obtain ⟨v0, v1, v2, v3⟩ := s4.four
          obtain ⟨y0, y1, y2, y3, _, _, _, _⟩ := s4.frees
          clear SN n f1 ho q HG1 bx t8 s4 hnn hM2
          go_upto_region 7 with fail
          rw [← hX, ← h8]
          clear hX h8
          go_wp2
          go_roundw
          case rel => exact ⟨k + 1, G1, A4, A5, A6, n4, k4, n5, k5, n6, k6, by go_num, SNH, RU2⟩
          case measure => simp [intOf]; omega
end Go.Proofs.Ytainlanblpccjaa
