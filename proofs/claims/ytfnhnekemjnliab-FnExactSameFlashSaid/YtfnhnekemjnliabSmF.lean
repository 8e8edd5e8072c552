/- Two arrays compared, by the program: the contracts. -/
import Derived.Test.YtfnhnekemjnliabProg
import Derived.Test.YtfnhnekemjnliabSmI
import Derived.Test.YtfnhnekemjnliabFlSz
import Derived.Test.YtfnhnekemjnliabFlG
namespace Go.Proofs.Ytfnhnekemjnliab
open Go.RowKit
set_option linter.unusedVariables false
set_option maxHeartbeats 1000000 in
set_option maxRecDepth 100000 in
theorem eqFn_any (u v : Value) (L M : List Blk) (r : Bool) (w : World) (lo hi lo' hi' : Nat) (hu : BksIn w lo hi u L) (hv : BksIn w lo' hi' v M) (h1 : hi ≤ w.heap.size) (h2 : hi' ≤ w.heap.size) (hr : r = true ↔ L = M) (hl : L.length ≤ 1048576)
    (hp : ∀ i, i < L.length → (L.getD i Blk.zero).pg.length ≤ 1048576) (hp' : ∀ i, i < M.length → (M.getD i Blk.zero).pg.length ≤ 1048576) (hl2 : M.length ≤ 1048576) :
    Calls Try.prog 18 #[u, v, .func (.func 19) #[] #[]] w fun e w' => e = .returned (.bool r) ∧ Below w.heap.size w w' := by
  obtain ⟨A, n, cp, rfl, _, _, hn3, hc⟩ := hu
  obtain ⟨A', n', cp', rfl, _, _, hm3, hc'⟩ := hv
  by_cases h : n = n'
  case neg =>
    obtain rfl : r = false := not_true hr (fun e => h (by rw [← hn3, ← hm3, e]))
    have n4 : ((n : Int) != (n' : Int)) = true := cast_ne h
    clear hc hc' hr h
    go_enter Try.func18, Try.ntmps18
    go_wp2
    go_ret
    exact ⟨rfl, Below.refl _ _⟩
  subst h
  have n4 : ((n : Int) != (n : Int)) = false := by simp
  have HR := Lib.hid hr
  have HL := Lib.hid (show L.length = n ∧ M.length = n from ⟨hn3, hm3⟩)
  have HC := Lib.hid hc
  have HC' := Lib.hid hc'
  have HP := Lib.hid hp
  have HP' := Lib.hid hp'
  have hnm : (n : Int) ≤ 1048576 := by omega
  clear hc hc' hr hl hl2 hn3 hm3 hp hp'
  go_enter Try.func18, Try.ntmps18
  go_wp2
  go_loopw [17] (fun i wr => ∃ k : Nat, k ≤ n ∧ i = .int .i64 k ∧ (∀ j, j < k → L.getD j Blk.zero = M.getD j Blk.zero) ∧ Below w.heap.size w wr) (fun i _ => n - (intOf i).toNat)
  case atStart => exact ⟨0, by omega, rfl, fun j hj => by omega, Below.refl _ _⟩
  case round =>
    obtain ⟨k, hk, rfl, hal, hb⟩ := hrel
    have HAL := Lib.hid hal
    clear hal
    by_cases hlt : k < n
    · have hki : (k : Int) < (n : Int) := by omega
      obtain ⟨g, o, rfl, hg1, hg2, hx⟩ := HC.out (by omega)
      obtain ⟨g', o', rfl, hg1', hg2', hx'⟩ := HC'.out (by omega)
      obtain ⟨pu, ⟨c0, c1, c2, c3⟩, hpu⟩ := hx k hlt
      obtain ⟨pv, ⟨d0, d1, d2, d3⟩, hpv⟩ := hx' k hlt
      obtain ⟨Au, nu, cu, rfl⟩ : ∃ A n c, pu = .slice A n c := by obtain ⟨A, n, c, e, _⟩ := hpu; exact ⟨A, n, c, e⟩
      obtain ⟨Av, nv, cv, rfl⟩ : ∃ A n c, pv = .slice A n c := by obtain ⟨A, n, c, e, _⟩ := hpv; exact ⟨A, n, c, e⟩
      have q0 := (hb.cell (p := ⟨g, o + k * 4, none⟩) (by simp; omega)).trans c0
      have q1 := (hb.cell (p := ⟨g, o + k * 4 + 1, none⟩) (by simp; omega)).trans c1
      have q2 := (hb.cell (p := ⟨g, o + k * 4 + 2, none⟩) (by simp; omega)).trans c2
      have q3 := (hb.cell (p := ⟨g, o + k * 4 + 3, none⟩) (by simp; omega)).trans c3
      have t0 := (hb.cell (p := ⟨g', o' + k * 4, none⟩) (by simp; omega)).trans d0
      have t1 := (hb.cell (p := ⟨g', o' + k * 4 + 1, none⟩) (by simp; omega)).trans d1
      have t2 := (hb.cell (p := ⟨g', o' + k * 4 + 2, none⟩) (by simp; omega)).trans d2
      have t3 := (hb.cell (p := ⟨g', o' + k * 4 + 3, none⟩) (by simp; omega)).trans d3
      have HU := Lib.hid (hpu.same (sm hb lo h1))
      have HV := Lib.hid (hpv.same (sm hb lo' h2))
      have hl1 := HP.out k (by have := HL.out; omega)
      have hl3 := HP'.out k (by have := HL.out; omega)
      obtain ⟨q, hq⟩ := prop_dec (L.getD k Blk.zero = M.getD k Blk.zero)
      have HQ := Lib.hid hq
      have hsz := hb.size
      have HNE : Hid (L.getD k Blk.zero ≠ M.getD k Blk.zero → r = false) := Lib.hid (fun e => not_true HR.out (fun e2 => e (by rw [e2])))
      obtain ⟨x, hx0⟩ : ∃ x, x = L.getD k Blk.zero := ⟨_, rfl⟩
      obtain ⟨y, hy0⟩ : ∃ y, y = M.getD k Blk.zero := ⟨_, rfl⟩
      rw [← hx0] at q0 q1 q2 HU hl1 hq HNE hpu c0 c1 c2 HQ
      rw [← hy0] at t0 t1 t2 HV hl3 hq HNE hpv d0 d1 d2 HQ
      have HX := Lib.hid hx0.symm
      have HY := Lib.hid hy0.symm
      clear hx0 hy0
      have HS := Lib.hid (fun (W : World) (a : PgIn W lo hi (.slice Au nu cu) x.pg) (b : PgIn W lo' hi' (.slice Av nv cv) y.pg) (c : hi ≤ W.heap.size) (d : hi' ≤ W.heap.size) => implSameBlk_any x y _ _ q W lo hi lo' hi' a b c d hq hl1 hl3)
      have HB := Lib.hid hb
      have hgs : g < wr.heap.size := by omega
      have hgs' : g' < wr.heap.size := by omega
      clear c0 c1 c2 c3 d0 d1 d2 d3 hpu hpv hb hx hx' hq hl1 hl3 HC HC' HP HP'
      have hb2 := ((Below.refl wr.heap.size wr).alloc (Nat.le_refl _) (.cells #[.int .i64 x.er, .int .i64 x.nx, .bool x.bad, .slice Au nu cu] 44)).alloc (by simp) (.cells #[.int .i64 y.er, .int .i64 y.nx, .bool y.bad, .slice Av nv cv] 44)
      have HB2 := Lib.hid hb2
      clear hb2
      go_wp2_with fail
      refine (HS.out _ (HU.out.same (sm HB2.out lo (by omega))) (HV.out.same (sm HB2.out lo' (by omega))) (by simp; omega) (by simp; omega)).mono ?_
      rintro e w1 ⟨rfl, b1⟩
      have HB1 := Lib.hid (HB.out.trans ((HB2.out.mono hsz).trans (b1.mono (by simp; omega))))
      clear b1 HB HB2 HU HV HS
      by_cases hxy : x = y
      · obtain rfl : q = true := HQ.out.2 hxy
        have HXY := Lib.hid hxy
        clear hxy HQ HNE
        go_wp2
        go_roundw
        case rel => exact ⟨k + 1, by omega, by go_num, fun j hj => by
          by_cases e : j = k
          · subst e; rw [HX.out, HY.out]; exact HXY.out
          · exact HAL.out j (by omega), HB1.out⟩
        case measure => simp [intOf]; omega
      · obtain rfl : q = false := not_true HQ.out hxy
        obtain rfl := HNE.out hxy
        clear hxy HQ HNE
        go_wp2
        go_ret
        exact ⟨rfl, HB1.out⟩
    · obtain rfl : k = n := by omega
      have hf : r = true := HR.out.2 (list_same (d := Blk.zero) (by have := HL.out; omega) fun i hi => HAL.out i (by have := HL.out; omega))
      subst hf
      clear HR
      go_wp2
      go_ret
      exact ⟨rfl, hb⟩
/-- Two arrays differ, or their heads are alike. -/
theorem fl_eq {d b p fu ke op d' b' p' fu' ke' op' : Int} {off off' : Bool} {L M : List Blk} : (⟨d, b, p, L, fu, ke, off, op⟩ : Fl) = ⟨d', b', p', M, fu', ke', off', op'⟩ ↔ (d = d' ∧ b = b' ∧ p = p') ∧ L = M ∧ fu = fu' ∧ ke = ke' ∧ off = off' ∧ op = op' := by
  constructor
  · intro e; injection e; simp_all
  · rintro ⟨⟨rfl, rfl, rfl⟩, rfl, rfl, rfl, rfl, rfl⟩; rfl
set_option maxHeartbeats 4000000 in
set_option maxRecDepth 100000 in
theorem implSame_any (u v : Value) (F G : Fl) (r : Bool) (w : World) (lo hi lo' hi' : Nat) (hu : FlIn w lo hi u F) (hv : FlIn w lo' hi' v G) (h1 : hi ≤ w.heap.size) (h2 : hi' ≤ w.heap.size) (hr : r = true ↔ F = G) (hl : FlLen F) (hl' : FlLen G) :
    Calls Try.prog 8 #[u, v] w fun e w' => e = .returned (.bool r) ∧ Below w.heap.size w w' := by
  obtain ⟨u, rfl, hu⟩ := hu
  obtain ⟨v, rfl, hv⟩ := hv
  obtain ⟨q, hq⟩ := prop_dec (F.bs = G.bs)
  have HS := Lib.hid (fun (W : World) (a : BksIn W lo hi u F.bs) (b : BksIn W lo' hi' v G.bs) (c : hi ≤ W.heap.size) (d : hi' ≤ W.heap.size) => eqFn_any u v F.bs G.bs q W lo hi lo' hi' a b c d hq hl.1 hl.2 hl'.2 hl'.1)
  obtain ⟨A, n, c, rfl⟩ := hu.slice
  obtain ⟨A', n', c', rfl⟩ := hv.slice
  obtain ⟨d, b, p, L, fu, ke, off, op⟩ := F
  obtain ⟨d', b', p', M, fu', ke', off', op'⟩ := G
  unfold flc
  rw [fl_eq] at hr
  simp only at *
  obtain ⟨_, _, b0⟩ := Rw.two_new w 32 32 #[.int .i64 d, .int .i64 b, .int .i64 p, .slice A n c, .int .i64 fu, .int .i64 ke, .bool off, .int .i64 op] #[.int .i64 d', .int .i64 b', .int .i64 p', .slice A' n' c', .int .i64 fu', .int .i64 ke', .bool off', .int .i64 op']
  have HB := Lib.hid b0
  have HU := Lib.hid (hu.same (sm b0 lo h1))
  have HV := Lib.hid (hv.same (sm b0 lo' h2))
  have HR := Lib.hid hr
  have HQ := Lib.hid hq
  clear hu hv hr hq hl hl' b0
  by_cases e1 : d = d'
  case neg =>
    obtain rfl : r = false := not_true HR.out (fun e => e1 e.1.1)
    have n1 : (d == d') = false := by simpa using e1
    clear e1 HS HR HU HV
    go_enter Try.func8, Try.ntmps8
    go_wp2
    go_ret
    exact ⟨rfl, HB.out⟩
  subst e1
  by_cases e1 : b = b'
  case neg =>
    obtain rfl : r = false := not_true HR.out (fun e => e1 e.1.2.1)
    have n0 : (d == d) = true := by simp
    have n1 : (b == b') = false := by simpa using e1
    clear e1 HS HR HU HV
    go_enter Try.func8, Try.ntmps8
    go_wp2
    go_ret
    exact ⟨rfl, HB.out⟩
  subst e1
  by_cases e1 : p = p'
  case neg =>
    obtain rfl : r = false := not_true HR.out (fun e => e1 e.1.2.2)
    have n0 : (d == d) = true := by simp
    have n1 : (b == b) = true := by simp
    have n2 : (p == p') = false := by simpa using e1
    clear e1 HS HR HU HV
    go_enter Try.func8, Try.ntmps8
    go_wp2
    go_ret
    exact ⟨rfl, HB.out⟩
  subst e1
  have n0 : (d == d) = true := by simp
  have n1 : (b == b) = true := by simp
  have n2 : (p == p) = true := by simp
  by_cases e1 : L = M
  case neg =>
    obtain rfl : r = false := not_true HR.out (fun e => e1 e.2.1)
    obtain rfl : q = false := not_true HQ.out e1
    clear e1 HR HQ
    go_enter Try.func8, Try.ntmps8
    go_wp2_with fail
    refine (HS.out _ HU.out HV.out (by simp; omega) (by simp; omega)).mono ?_
    rintro e w1 ⟨rfl, b1⟩
    have B1 := Lib.hid (HB.out.trans (b1.mono (by simp; omega)))
    clear b1 HS HU HV HB
    go_wp2
    go_ret
    exact ⟨rfl, B1.out⟩
  subst e1
  obtain rfl : q = true := HQ.out.2 rfl
  have HRR := Lib.hid (show r = true ↔ fu = fu' ∧ ke = ke' ∧ off = off' ∧ op = op' from by rw [HR.out]; simp)
  clear HR HQ
  go_enter Try.func8, Try.ntmps8
  go_wp2_with fail
  refine (HS.out _ HU.out HV.out (by simp; omega) (by simp; omega)).mono ?_
  rintro e w1 ⟨rfl, b1⟩
  have B1 := Lib.hid (HB.out.trans (b1.mono (by simp; omega)))
  obtain ⟨r0, r1, _⟩ := Rw.two_new w 32 32 #[.int .i64 d, .int .i64 b, .int .i64 p, .slice A n c, .int .i64 fu, .int .i64 ke, .bool off, .int .i64 op] #[.int .i64 d, .int .i64 b, .int .i64 p, .slice A' n' c', .int .i64 fu', .int .i64 ke', .bool off', .int .i64 op']
  have s0 := r0.below b1 (by simp; omega)
  have s1 := r1.below b1 (by simp)
  obtain ⟨a0, a1, a2, a3, a4, a5, a6, a7⟩ := s0.eight
  obtain ⟨g0, g1, g2, g3, g4, g5, g6, g7⟩ := s1.eight
  clear b1 HS HU HV HB r0 r1 s0 s1
  by_cases e1 : fu = fu'
  case neg =>
    obtain rfl : r = false := not_true HRR.out (fun e => e1 e.1)
    have m1 : (fu == fu') = false := by simpa using e1
    clear e1 HRR
    go_wp2
    go_ret
    exact ⟨rfl, B1.out⟩
  subst e1
  have m1 : (fu == fu) = true := by simp
  by_cases e1 : ke = ke'
  case neg =>
    obtain rfl : r = false := not_true HRR.out (fun e => e1 e.2.1)
    have m2 : (ke == ke') = false := by simpa using e1
    clear e1 HRR
    go_wp2
    go_ret
    exact ⟨rfl, B1.out⟩
  subst e1
  have m2 : (ke == ke) = true := by simp
  by_cases e1 : off = off'
  case neg =>
    obtain rfl : r = false := not_true HRR.out (fun e => e1 e.2.2.1)
    clear HRR
    cases off <;> cases off'
    · exact absurd rfl e1
    · clear e1
      go_wp2
      go_ret
      exact ⟨rfl, B1.out⟩
    · clear e1
      go_wp2
      go_ret
      exact ⟨rfl, B1.out⟩
    · exact absurd rfl e1
  subst e1
  have m3 : (off == off) = true := by simp
  by_cases e1 : op = op'
  case neg =>
    obtain rfl : r = false := not_true HRR.out (fun e => e1 e.2.2.2)
    have m4 : (op == op') = false := by simpa using e1
    clear e1 HRR
    go_wp2
    go_ret
    exact ⟨rfl, B1.out⟩
  subst e1
  have m4 : (op == op) = true := by simp
  obtain rfl : r = true := HRR.out.2 ⟨rfl, rfl, rfl, rfl⟩
  clear HRR
  go_wp2
  go_ret
  exact ⟨rfl, B1.out⟩
end Go.Proofs.Ytfnhnekemjnliab
