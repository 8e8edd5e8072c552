/- Two arrays compared, by the model: the contract. -/
import Derived.Test.YtfnhnekemjnliabProg
import Derived.Test.YtfnhnekemjnliabSmF
import Derived.StillTailTactics
namespace Go.Proofs.Ytfnhnekemjnliab
open Go.RowKit
set_option linter.unusedVariables false
theorem not_true' {r : Bool} {P : Prop} (hr : r = true ↔ P) (h : ¬ P) : r = false := not_true hr h
set_option maxHeartbeats 4000000 in
set_option maxRecDepth 100000 in
theorem specSame_any (u v : Value) (F G : Fl) (r : Bool) (w : World) (lo hi lo' hi' : Nat) (hu : FlIn w lo hi u F) (hv : FlIn w lo' hi' v G) (h1 : hi ≤ w.heap.size) (h2 : hi' ≤ w.heap.size) (hr : r = true ↔ F = G) (hl : FlLen F) (hl' : FlLen G) :
    Calls Try.prog 6 #[u, v] w fun e w' => e = .returned (.bool r) ∧ Below w.heap.size w w' := by
  obtain ⟨u, rfl, hu⟩ := hu
  obtain ⟨v, rfl, hv⟩ := hv
  obtain ⟨A, n, c, rfl, _, _, hn3, hc⟩ := hu
  obtain ⟨A', n', c', rfl, _, _, hm3, hc'⟩ := hv
  have hnm : (n : Int) ≤ 1048576 := by have := hl.1; omega
  have hnm' : (n' : Int) ≤ 1048576 := by have := hl'.1; omega
  have HP := Lib.hid hl.2
  have HP' := Lib.hid hl'.2
  obtain ⟨d, b, p, L, fu, ke, off, op⟩ := F
  obtain ⟨d', b', p', M, fu', ke', off', op'⟩ := G
  unfold flc
  rw [fl_eq] at hr
  simp only at *
  obtain ⟨r0, r1, b0⟩ := Rw.two_new w 32 32 #[.int .i64 d, .int .i64 b, .int .i64 p, .slice A n c, .int .i64 fu, .int .i64 ke, .bool off, .int .i64 op] #[.int .i64 d', .int .i64 b', .int .i64 p', .slice A' n' c', .int .i64 fu', .int .i64 ke', .bool off', .int .i64 op']
  have HB := Lib.hid b0
  have HR := Lib.hid hr
  have R0 := Lib.hid r0
  have R1 := Lib.hid r1
  have HC := Lib.hid hc
  have HC' := Lib.hid hc'
  have HL := Lib.hid (And.intro hn3 hm3)
  clear hr hl hl' b0 hc hc' hn3 hm3 r0 r1
  by_cases e1 : d = d'
  case neg =>
    obtain rfl : r = false := not_true HR.out (fun e => e1 e.1.1)
    have n1 : (d == d') = false := by simpa using e1
    clear e1 HR
    go_enter Try.func6, Try.ntmps6
    go_wp2
    go_ret
    exact ⟨rfl, HB.out⟩
  subst e1
  by_cases e1 : b = b'
  case neg =>
    obtain rfl : r = false := not_true HR.out (fun e => e1 e.1.2.1)
    have n0 : (d == d) = true := by simp
    have n1 : (b == b') = false := by simpa using e1
    clear e1 HR
    go_enter Try.func6, Try.ntmps6
    go_wp2
    go_ret
    exact ⟨rfl, HB.out⟩
  subst e1
  by_cases e1 : p = p'
  case neg =>
    obtain rfl : r = false := not_true HR.out (fun e => e1 e.1.2.2)
    have n0 : (d == d) = true := by simp
    have n1 : (b == b) = true := by simp
    have n2 : (p == p') = false := by simpa using e1
    clear e1 HR
    go_enter Try.func6, Try.ntmps6
    go_wp2
    go_ret
    exact ⟨rfl, HB.out⟩
  subst e1
  have n0 : (d == d) = true := by simp
  have n1 : (b == b) = true := by simp
  have n2 : (p == p) = true := by simp
  by_cases e1 : n = n'
  case neg =>
    obtain rfl : r = false := not_true HR.out (fun e => e1 (by have := HL.out; rw [← this.1, ← this.2, e.2.1]))
    have m0 : ((n : Int) != (n' : Int)) = true := cast_ne e1
    clear e1 HR
    go_enter Try.func6, Try.ntmps6
    go_wp2
    go_ret
    exact ⟨rfl, HB.out⟩
  subst e1
  have m0 : ((n : Int) != (n : Int)) = false := by simp
  by_cases e1 : fu = fu'
  case neg =>
    obtain rfl : r = false := not_true HR.out (fun e => e1 e.2.2.1)
    have m1 : (fu != fu') = true := by simpa using e1
    clear e1 HR
    go_enter Try.func6, Try.ntmps6
    go_wp2
    go_ret
    exact ⟨rfl, HB.out⟩
  subst e1
  have m1 : (fu != fu) = false := by simp
  by_cases e1 : ke = ke'
  case neg =>
    obtain rfl : r = false := not_true HR.out (fun e => e1 e.2.2.2.1)
    have m2 : (ke != ke') = true := by simpa using e1
    clear e1 HR
    go_enter Try.func6, Try.ntmps6
    go_wp2
    go_ret
    exact ⟨rfl, HB.out⟩
  subst e1
  have m2 : (ke != ke) = false := by simp
  by_cases e1 : off = off'
  case neg =>
    obtain rfl : r = false := not_true HR.out (fun e => e1 e.2.2.2.2.1)
    clear HR
    cases off <;> cases off'
    · exact absurd rfl e1
    · clear e1
      go_enter Try.func6, Try.ntmps6
      go_wp2
      go_ret
      exact ⟨rfl, HB.out⟩
    · clear e1
      go_enter Try.func6, Try.ntmps6
      go_wp2
      go_ret
      exact ⟨rfl, HB.out⟩
    · exact absurd rfl e1
  subst e1
  have m3 : (off != off) = false := by simp
  by_cases e1 : op = op'
  case neg =>
    obtain rfl : r = false := not_true HR.out (fun e => e1 e.2.2.2.2.2)
    have m4 : (op != op') = true := by simpa using e1
    clear e1 HR
    go_enter Try.func6, Try.ntmps6
    go_wp2
    go_ret
    exact ⟨rfl, HB.out⟩
  subst e1
  have m4 : (op != op) = false := by simp
  have HRR := Lib.hid (show r = true ↔ L = M from by rw [HR.out]; simp)
  clear HR
  go_enter Try.func6, Try.ntmps6
  go_wp2
  obtain ⟨W0, hW0⟩ : ∃ W, W = (w.alloc (.cells #[.int .i64 d, .int .i64 b, .int .i64 p, .slice A n c, .int .i64 fu, .int .i64 ke, .bool off, .int .i64 op] 32)).alloc (.cells #[.int .i64 d, .int .i64 b, .int .i64 p, .slice A' n c', .int .i64 fu, .int .i64 ke, .bool off, .int .i64 op] 32) := ⟨_, rfl⟩
  have hz0 : W0.heap.size = w.heap.size + 2 := by rw [hW0]; simp
  rw [← hW0] at R0 R1 HB ⊢
  clear hW0
  go_loopw [5] (fun i wr => ∃ k : Nat, k ≤ n ∧ i = .int .i64 k ∧ (∀ j, j < k → L.getD j Blk.zero = M.getD j Blk.zero) ∧ Below W0.heap.size W0 wr) (fun i _ => n - (intOf i).toNat)
  case atStart => exact ⟨0, by omega, rfl, fun j hj => by omega, Below.refl _ _⟩
  case round =>
    obtain ⟨k, hk, rfl, hal, hb⟩ := hrel
    have HAL := Lib.hid hal
    have S0 := Lib.hid (R0.out.below hb (by omega))
    have S1 := Lib.hid (R1.out.below hb (by omega))
    obtain ⟨a0, a1, a2, a3, a4, a5, a6, a7⟩ := S0.out.eight
    obtain ⟨g0, g1, g2, g3, g4, g5, g6, g7⟩ := S1.out.eight
    have hbb := HB.out.trans (hb.mono (by omega))
    have HB0 := Lib.hid hb
    have HBB := Lib.hid hbb
    clear hal hb
    by_cases hlt : k < n
    · have hki : (k : Int) < (n : Int) := by omega
      obtain ⟨g, o, rfl, hg1, hg2, hx⟩ := HC.out (by omega)
      obtain ⟨g', o', rfl, hg1', hg2', hx'⟩ := HC'.out (by omega)
      obtain ⟨pu, ⟨c0, c1, c2, c3⟩, hpu⟩ := hx k hlt
      obtain ⟨pv, ⟨d0, d1, d2, d3⟩, hpv⟩ := hx' k hlt
      obtain ⟨Au, nu, cu, rfl⟩ : ∃ A n c, pu = .slice A n c := by obtain ⟨A, n, c, e, _⟩ := hpu; exact ⟨A, n, c, e⟩
      obtain ⟨Av, nv, cv, rfl⟩ : ∃ A n c, pv = .slice A n c := by obtain ⟨A, n, c, e, _⟩ := hpv; exact ⟨A, n, c, e⟩
      have q0 := (hbb.cell (p := ⟨g, o + k * 4, none⟩) (by simp; omega)).trans c0
      have q1 := (hbb.cell (p := ⟨g, o + k * 4 + 1, none⟩) (by simp; omega)).trans c1
      have q2 := (hbb.cell (p := ⟨g, o + k * 4 + 2, none⟩) (by simp; omega)).trans c2
      have q3 := (hbb.cell (p := ⟨g, o + k * 4 + 3, none⟩) (by simp; omega)).trans c3
      have t0 := (hbb.cell (p := ⟨g', o' + k * 4, none⟩) (by simp; omega)).trans d0
      have t1 := (hbb.cell (p := ⟨g', o' + k * 4 + 1, none⟩) (by simp; omega)).trans d1
      have t2 := (hbb.cell (p := ⟨g', o' + k * 4 + 2, none⟩) (by simp; omega)).trans d2
      have t3 := (hbb.cell (p := ⟨g', o' + k * 4 + 3, none⟩) (by simp; omega)).trans d3
      have HU := Lib.hid (hpu.same (sm hbb lo h1))
      have HV := Lib.hid (hpv.same (sm hbb lo' h2))
      have hl1 := HP.out k (by have := HL.out; omega)
      have hl3 := HP'.out k (by have := HL.out; omega)
      change (L.getD k Blk.zero).pg.length ≤ _ at hl1
      change (M.getD k Blk.zero).pg.length ≤ _ at hl3
      obtain ⟨q, hq⟩ := prop_dec (L.getD k Blk.zero = M.getD k Blk.zero)
      have hsz := hbb.size
      have hsz0 := HB0.out.size
      have HNE : Hid (L.getD k Blk.zero ≠ M.getD k Blk.zero → r = false) := Lib.hid (fun e => not_true HRR.out (fun e2 => e (by rw [e2])))
      obtain ⟨x, hx0⟩ : ∃ x, x = L.getD k Blk.zero := ⟨_, rfl⟩
      obtain ⟨y, hy0⟩ : ∃ y, y = M.getD k Blk.zero := ⟨_, rfl⟩
      rw [← hx0] at q0 q1 q2 HU hl1 hq HNE
      rw [← hy0] at t0 t1 t2 HV hl3 hq HNE
      have HQ := Lib.hid hq
      have HX := Lib.hid hx0.symm
      have HY := Lib.hid hy0.symm
      have HS := Lib.hid (fun (W : World) (a : PgIn W lo hi (.slice Au nu cu) x.pg) (b : PgIn W lo' hi' (.slice Av nv cv) y.pg) (c : hi ≤ W.heap.size) (d : hi' ≤ W.heap.size) => specSameBlk_any x y _ _ q W lo hi lo' hi' a b c d hq hl1 hl3)
      clear hx0 hy0 c0 c1 c2 c3 d0 d1 d2 d3 hpu hpv hbb hx hx' hq hl1 hl3 HC HC' HP HP'
      go_wp2_with fail
      go_still_tail 10, (by kernel_rfl)
      change wpList _ _ _ _ _ wr.drew
      go_wp2_with fail
      refine (HS.out _ (show PgIn wr.drew lo hi _ x.pg from HU.out) (show PgIn wr.drew lo' hi' _ y.pg from HV.out) (by simp; omega) (by simp; omega)).mono ?_
      rintro e w1 ⟨rfl, b1⟩
      have b2 := HB0.out.drew.trans (b1.mono (by simpa using hsz0))
      have HB1 := Lib.hid b2
      have HB2 := Lib.hid (HB.out.trans (b2.mono (by omega)))
      clear b1 b2 HB0 HBB HU HV HS
      by_cases hxy : x = y
      · obtain rfl : q = true := HQ.out.2 hxy
        have HXY := Lib.hid hxy
        clear hxy HQ HNE
        go_wp2
        go_roundw
        case rel => exact ⟨k + 1, by omega, by go_num, fun j hj => by
          by_cases e : j = k
          · subst e; rw [HX.out, HY.out]; exact HXY.out
          · exact HAL.out j (by omega), HB1.out⟩
        case measure => simp [intOf]; omega
      · obtain rfl : q = false := not_true HQ.out hxy
        obtain rfl := HNE.out hxy
        clear hxy HQ HNE
        go_wp2
        go_ret
        exact ⟨rfl, HB2.out⟩
    · obtain rfl : k = n := by omega
      have hf : r = true := HRR.out.2 (list_same (d := Blk.zero) (by have := HL.out; omega) fun i hi => HAL.out i (by have := HL.out; omega))
      subst hf
      clear HRR
      go_wp2
      go_ret
      exact ⟨rfl, HBB.out⟩
end Go.Proofs.Ytfnhnekemjnliab
