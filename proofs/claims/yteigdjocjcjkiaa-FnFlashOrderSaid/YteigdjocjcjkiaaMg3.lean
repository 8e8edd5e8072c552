/- The proof's own lemmas, part 4: FlD FlH Hb FlS FlT FlEr DrN SrcK FlU Mn FlEs. -/
import Derived.Test.YteigdjocjcjkiaaProg
import Derived.Test.YteigdjocjcjkiaaMg2
import Derived.Test.YteigdjocjcjkiaaMg0
import Derived.Lib.SliceRun
import Derived.BigFrame
import Derived.Test.YteigdjocjcjkiaaMg1
import Derived.WalkKit
import Derived.ProofKit
import Derived.Lib.Hide
/- l06Own and cloneFlash: the contracts. -/
namespace Go.Proofs.Yteigdjocjcjkiaa
open Go.RowKit
set_option linter.unusedVariables false
theorem wpList_append_pages {Q : Exit → Act → World → Prop} {ops : Array Oper} {rest : List Oper} {o : Oper} {a : Act} {w0 wr : World} {B : Nat} (hgd : o.guard = none) (s x : Operand)
    (ho : o.op = .call { callee := .builtin .append, args := #[s, x], argTypes := #[49, 49] })
    (v : Value) (l : List ByteArray) (hs : a.eval s = v) (hown : StrsOwn wr B v l) (hb : Below B w0 wr) (hB : B ≤ wr.heap.size)
    (L : List ByteArray) (b off m c : Nat) (hm : L.length = m) (hx : a.eval x = .slice (some ⟨b, off, none⟩) m c) (hc : ∀ i, i < m → wr.cell? ⟨b, off + i, none⟩ = some (.string (L.getD i ByteArray.empty))) (hl : l.length + m ≤ 1000000)
    (h : ∀ v' w', StrsOwn w' B v' (l ++ L) → Below B w0 w' → wr.grownBy w' v.ownBlock → wpList Try.prog ops Q rest (a.put o.dst v') w') :
    wpList Try.prog ops Q (o :: rest) a wr := by
  obtain ⟨i0, hi, hz0, hz1, hz2⟩ := info_parts infoStr
  refine wpList_append_own _ hgd s x _ ho B 9 i0 (.string ByteArray.empty) 1 16 Try.underlying49 hi hz0 hz1 hz2 rfl (by decide) v l.length (l.map Value.string) hs hown ⟨b, off, none⟩ m c (L.map Value.string) hx (by simp [hm]) ?_ ?_ (by unfold maxLen; omega) (by omega) hB ?_
  · intro j u hj
    have hjl : j < L.length := by
      rcases Nat.lt_or_ge j L.length with hlt | hge
      · exact hlt
      · rw [List.getElem?_eq_none (by simpa using hge)] at hj; cases hj
    have := hc j (by omega)
    rw [List.getElem?_map, List.getElem?_eq_getElem hjl] at hj
    simp at hj
    subst hj
    rw [List.getD_eq_getElem?_getD, List.getElem?_eq_getElem hjl] at this
    have e : (⟨b, off, none⟩ : Addr).add j = ⟨b, off + j, none⟩ := by unfold Addr.add; split <;> simp_all
    rw [e]
    simpa using this
  · intro u hu
    simp at hu
    obtain ⟨s, _, rfl⟩ := hu
    rfl
  · intro v' w' h1 h2 _
    refine h v' w' ?_ (hb.grown h2 hB fun k hk => (World.ownsRow.lt hown k hk).1) h2
    unfold StrsOwn
    rw [List.length_append, hm, List.map_append]
    exact h1
theorem infoFl8 : (Try.prog.info? 31).map (·.size) = some 8 := by kernel_rfl
theorem infoBlkZ : (Try.prog.info? 51).map (fun i => (i.zero, i.size, i.bytes)) = some (some (.agg #[.int .i64 0, .int .i64 0, .bool false, .slice none 0 0]), 4, 48) := by kernel_rfl
theorem wpList_append_block {Q : Exit → Act → World → Prop} {ops : Array Oper} {rest : List Oper} {o : Oper} {a : Act} {wr : World} {B : Nat} (hgd : o.guard = none) (s x : Operand)
    (ho : o.op = .call { callee := .builtin .append, args := #[s, x], argTypes := #[29, 29] })
    (v : Value) (L : List Blk) (pv : Nat → Value) (hs : a.eval s = v) (hown : wr.ownsRow B 51 4 v L.length (rowC L pv)) (hB : B ≤ wr.heap.size)
    (y : Blk) (u : Value) (hu : u.oneCell' = true) (g m c : Nat) (hg : g = wr.heap.size) (hx : a.eval x = .slice (some ⟨g, 0, none⟩) 1 c) (hl : L.length + 1 ≤ 1000000)
    (h : ∀ v' w', w'.ownsRow B 51 4 v' (L.length + 1) (rowC L pv ++ bkCells y u) → (wr.alloc (.cells #[.int .i64 y.er, .int .i64 y.nx, .bool y.bad, u] 51)).grownBy w' v.ownBlock → (v'.ownBlock = v.ownBlock ∨ v'.ownBlock = some (wr.heap.size + 1)) → wpList Try.prog ops Q rest (a.put o.dst v') w') :
    wpList Try.prog ops Q (o :: rest) a (wr.alloc (.cells #[.int .i64 y.er, .int .i64 y.nx, .bool y.bad, u] 51)) := by
  obtain ⟨i0, hi, hz0, hz1, hz2⟩ := info_parts infoBlkZ
  subst hg
  refine wpList_append_own_at _ hgd s x _ ho B 51 i0 (.agg #[.int .i64 0, .int .i64 0, .bool false, .slice none 0 0]) 4 48 Try.underlying29 hi hz0 hz1 hz2 rfl (by decide) v L.length (rowC L pv) hs (World.ownsRow.alloc hown _) ⟨wr.heap.size, 0, none⟩ 1 c (bkCells y u) hx rfl ?_ ?_ (by unfold maxLen; omega) (by omega) (by simp; omega) ?_
  · intro j t hj
    rw [Addr.add_lit, Nat.zero_add, World.cell?_alloc_new]
    simpa [bkCells] using hj
  · intro t ht
    simp [bkCells] at ht
    rcases ht with rfl | rfl | rfl | rfl
    · rfl
    · rfl
    · rfl
    · exact hu
  · intro v' w' h1 h2 _ h4
    exact h v' w' h1 h2 (by simpa using h4)
set_option maxHeartbeats 4000000 in
theorem l06Own_any (v : Value) (F : Fl) (w : World) (lo hi : Nat) (h : FlIn w lo hi v F) (hh : hi ≤ w.heap.size) (hl : F.bs.length ≤ 1000) (hp : ∀ i, i < F.bs.length → 0 < (F.blk i).pg.length ∧ (F.blk i).pg.length ≤ 1000) :
    Calls Try.prog 31 #[v] w fun e w' => ∃ u, e = .returned u ∧ FlOwn w' w.heap.size w'.heap.size u F ∧ Below w.heap.size w w' := by
  obtain ⟨u, rfl, h⟩ := h
  obtain ⟨d, b, p, bs, fu, ke, off, op⟩ := F
  obtain ⟨A, n, cap, rfl, hlc, hcm, hlen, hA⟩ := h
  unfold flc
  simp only at hl hp hlen hA
  rw [hlen] at hl
  have hnm : (n : Int) ≤ 1000 := by omega
  go_enter Try.func31, Try.ntmps31
  have HA := Lib.hid hA
  have HP := Lib.hid hp
  have HN := Lib.hid hlen
  clear hA hp hlen
  go_wp2_with fail
  obtain ⟨r0, r1, r2, b0⟩ := Rw.three_new w 31 31 31 #[.int .i64 d, .int .i64 b, .int .i64 p, .slice A n cap, .int .i64 fu, .int .i64 ke, .bool off, .int .i64 op]
    #[.int .i64 0, .int .i64 0, .int .i64 0, .slice none 0 0, .int .i64 0, .int .i64 0, .bool false, .int .i64 0] #[.int .i64 d, .int .i64 b, .int .i64 p, .slice (some ⟨w.heap.size + 1 + 1 + 1, 0, none⟩) 0 0, .int .i64 fu, .int .i64 ke, .bool off, .int .i64 op]
  have R0 := Lib.hid (r0.alloc (.cells #[] 51))
  have R1 := Lib.hid (r1.alloc (.cells #[] 51))
  have R2 := Lib.hid (r2.alloc (.cells #[] 51))
  have HB0 := Lib.hid (b0.alloc (by simp; omega) (.cells #[] 51))
  have g0 := Grow.start (((w.alloc (.cells #[.int .i64 d, .int .i64 b, .int .i64 p, .slice A n cap, .int .i64 fu, .int .i64 ke, .bool off, .int .i64 op] 31)).alloc (.cells #[.int .i64 0, .int .i64 0, .int .i64 0, .slice none 0 0, .int .i64 0, .int .i64 0, .bool false, .int .i64 0] 31)).alloc (.cells #[.int .i64 d, .int .i64 b, .int .i64 p, .slice (some ⟨w.heap.size + 1 + 1 + 1, 0, none⟩) 0 0, .int .i64 fu, .int .i64 ke, .bool off, .int .i64 op] 31)) (B := w.heap.size + 3) (by simp) (fun _ => .slice none 0 0)
  simp only [World.size_alloc] at g0
  have G0 := Lib.hid g0
  have hz0 : w.heap.size + 4 ≤ ((((w.alloc (.cells #[.int .i64 d, .int .i64 b, .int .i64 p, .slice A n cap, .int .i64 fu, .int .i64 ke, .bool off, .int .i64 op] 31)).alloc (.cells #[.int .i64 0, .int .i64 0, .int .i64 0, .slice none 0 0, .int .i64 0, .int .i64 0, .bool false, .int .i64 0] 31)).alloc (.cells #[.int .i64 d, .int .i64 b, .int .i64 p, .slice (some ⟨w.heap.size + 1 + 1 + 1, 0, none⟩) 0 0, .int .i64 fu, .int .i64 ke, .bool off, .int .i64 op] 31)).alloc (.cells #[] 51)).heap.size := by simp
  clear r0 r1 r2 b0 g0
  go_loopw [4] (fun i wr => ∃ (k : Nat) (pv : Nat → Value) (vo : Value), k ≤ n ∧ i = .int .i64 k ∧ Hid (Grow wr (w.heap.size + 3) vo (bs.take k) pv) ∧ Hid (Rw wr w.heap.size 31 #[.int .i64 d, .int .i64 b, .int .i64 p, .slice A n cap, .int .i64 fu, .int .i64 ke, .bool off, .int .i64 op]) ∧
      Hid (Rw wr (w.heap.size + 1) 31 #[.int .i64 0, .int .i64 0, .int .i64 0, .slice none 0 0, .int .i64 0, .int .i64 0, .bool false, .int .i64 0]) ∧ Hid (Rw wr (w.heap.size + 1 + 1) 31 #[.int .i64 d, .int .i64 b, .int .i64 p, vo, .int .i64 fu, .int .i64 ke, .bool off, .int .i64 op]) ∧
      Hid (Below w.heap.size w wr) ∧ w.heap.size + 4 ≤ wr.heap.size) (fun i _ => n - (intOf i).toNat)
  case atStart => exact ⟨0, _, _, by omega, rfl, G0, R0, R1, R2, HB0, hz0⟩
  case round =>
    clear R0 R1 R2 HB0 G0 hz0
    obtain ⟨k, pv, vo, hk, rfl, GG, R0, R1, R2, HB, hz⟩ := hrel
    obtain ⟨Av, cv, hvo⟩ := owns_slice GG.out.own
    obtain ⟨a0, a1, a2, a3, a4, a5, a6, a7⟩ := R0.out.eight
    obtain ⟨z0, z1, z2, z3, z4, z5, z6, z7⟩ := R1.out.eight
    obtain ⟨o0, o1, o2, o3, o4, o5, o6, o7⟩ := R2.out.eight
    by_cases hlt : k < n
    · have hki : (k : Int) < (n : Int) := by omega
      have hkl : (bs.take k).length = k := by rw [List.length_take, HN.out]; omega
      rw [hkl] at hvo
      subst hvo
      obtain ⟨g, o, hAe, hg1, hg2, hx⟩ := HA.out (by omega)
      obtain ⟨pu, hat, hpu⟩ := hx k hlt
      have hp := HP.out k (by have := HN.out; omega)
      have hs1 := sm HB.out lo hh
      obtain ⟨q0, q1, q2, q3⟩ := hat.same hs1 hg1 hg2
      obtain ⟨Ap, m, cp, rfl, hm1, hm2, hm3, hm4, hpc⟩ := hpu.same hs1
      have hy : bs.take (k + 1) = bs.take k ++ [bs.getD k Blk.zero] := by
        rw [List.take_succ_eq_append_getElem (by have := HN.out; omega), List.getD_eq_getElem?_getD, List.getElem?_eq_getElem (by have := HN.out; omega)]; rfl
      have HY := Lib.hid hy
      have hpe : (Fl.blk { d := d, b := b, p := p, bs := bs, fu := fu, ke := ke, off := off, op := op } k) = bs.getD k Blk.zero := rfl
      rw [hpe] at hp
      generalize bs.getD k Blk.zero = y at *
      obtain ⟨er, nx, bad, pg⟩ := y
      simp only at q0 q1 q2 hm3 hm4 hp hpc
      obtain ⟨pb, po, rfl, hb1, hb2, hpx⟩ := hpc (by omega)
      subst hAe
      have HPX := Lib.hid hpx
      have HM3 := Lib.hid hm3
      have HM4 := Lib.hid hm4
      have hmm : m ≤ 1000 := by omega
      have hm0 : 0 < m := by omega
      have HKL := Lib.hid hkl
      clear hx hat hpu hpx hs1 hpc hpe hy hm3 hm4 hp hkl
      have hpw : pb < wr.heap.size := by omega
      have hq0 : w.heap.size ≠ wr.heap.size := by omega
      have hq1 : w.heap.size + 1 ≠ wr.heap.size := by omega
      have hq2 : w.heap.size + 1 + 1 ≠ wr.heap.size := by omega
      have hq3 : ¬ wr.heap.size = w.heap.size + 1 + 1 := by omega
      have hq4 : ¬ wr.heap.size = w.heap.size + 1 := by omega
      have hq5 : ¬ wr.heap.size = w.heap.size := by omega
      have own0 := StrsOwn.fresh (wr.alloc (.cells #[.int .i64 er, .int .i64 nx, .bool bad, .slice (some ⟨pb, po, none⟩) m cp] 51)) (B := wr.heap.size + 1) (by simp)
      simp only [World.size_alloc] at own0
      have OWN0 := Lib.hid own0
      have BL0 := Lib.hid ((Below.refl (wr.heap.size + 1) (wr.alloc (.cells #[.int .i64 er, .int .i64 nx, .bool bad, .slice (some ⟨pb, po, none⟩) m cp] 51))).alloc (by simp) (.cells #[] 9))
      have CL0 := Lib.hid (show ∀ i, i < m → ((wr.alloc (.cells #[.int .i64 er, .int .i64 nx, .bool bad, .slice (some ⟨pb, po, none⟩) m cp] 51)).alloc (.cells #[] 9)).cell? ⟨pb, po + i, none⟩ = some (.string (pg.getD i ByteArray.empty)) from
        fun i hi => (World.cell?_alloc_lt _ _ _ (by simp; omega)).trans ((World.cell?_alloc_lt _ _ _ hpw).trans (HPX.out i hi)))
      clear own0
      go_wp2_with (first
        | (with_reducible show wpList _ _ _ (⟨some 24, _, _, _, _, _⟩ :: _) _ _
           go_must (refine wpList_append_pages rfl _ _ rfl _ [] rfl OWN0.out BL0.out (by simp) pg pb po m cp HM3.out rfl CL0.out (by simp; omega) ?_)
           intro v1 w1 own1 hb1 gr1
           obtain ⟨g1, c1, rfl, u1, u2, u3, u4, own1'⟩ := own1.someOf HM3.out hm0
           have bb := ((Below.refl wr.heap.size wr).alloc (Nat.le_refl _) (.cells #[.int .i64 er, .int .i64 nx, .bool bad, .slice (some ⟨pb, po, none⟩) m cp] 51)).trans (hb1.mono (by omega))
           have rb := (Rw.new wr 51 #[.int .i64 er, .int .i64 nx, .bool bad, .slice (some ⟨pb, po, none⟩) m cp]).below hb1 (by omega)
           have s0 := R0.out.below bb (by omega)
           have s2 := R2.out.below bb (by omega)
           have PG := Lib.hid (own1'.pagesOf HM3.out u1 u2 u3 u4 (k := wr.heap.size) (by omega) (fun i hi => HM4.out i (by have := HM3.out; omega)))
           obtain ⟨x0, x1, x2, x3⟩ := rb.four
           obtain ⟨fx0, fx1, fx2, fx3, _⟩ := rb.frees
           obtain ⟨y0, y1, y2, y3, y4, y5, y6, y7⟩ := s2.eight
           obtain ⟨fy0, fy1, fy2, fy3, fy4, fy5, fy6, fy7⟩ := s2.frees
           have hsz1 := hb1.size
           simp only [World.size_alloc] at hsz1
           have BB := Lib.hid bb
           have S0 := Lib.hid s0
           have S1 := Lib.hid (R1.out.below bb (by omega))
           have S2 := Lib.hid s2
           have G1 := Lib.hid (GG.out.later (bb.setCell (p := ⟨wr.heap.size, 3, none⟩) (Nat.le_refl _) (.slice (some ⟨g1, 0, none⟩) m c1)))
           clear own1 own1' hb1 gr1 bb rb s0 s2)
        | (with_reducible show wpList _ _ _ (⟨some 30, _, _, _, _, _⟩ :: _) _ _
           go_must (refine wpList_append_block rfl _ _ rfl (.slice Av k cv) (bs.take k) pv rfl G1.out.own (by simp; omega) ⟨er, nx, bad, pg⟩ (.slice (some ⟨g1, 0, none⟩) m c1) rfl w1.heap.size 0 1 (by simp) rfl (by rw [HKL.out]; omega) ?_)
           intro v2 w2 own2 gr2 hat2
           obtain ⟨A2, c2, hv2⟩ := owns_slice own2
           rw [HKL.out] at hv2
           subst hv2
           go_must (have bb2 := (BB.out.setCell (p := ⟨wr.heap.size, 3, none⟩) (Nat.le_refl _) (.slice (some ⟨g1, 0, none⟩) m c1)).alloc (by simp; omega) (.cells #[.int .i64 er, .int .i64 nx, .bool bad, .slice (some ⟨g1, 0, none⟩) m c1] 51))
           have pg2 : PgOwn ((w1.setCell ⟨wr.heap.size, 3, none⟩ (.slice (some ⟨g1, 0, none⟩) m c1)).alloc (.cells #[.int .i64 er, .int .i64 nx, .bool bad, .slice (some ⟨g1, 0, none⟩) m c1] 51)) wr.heap.size ((w1.setCell ⟨wr.heap.size, 3, none⟩ (.slice (some ⟨g1, 0, none⟩) m c1)).alloc (.cells #[.int .i64 er, .int .i64 nx, .bool bad, .slice (some ⟨g1, 0, none⟩) m c1] 51)).heap.size ((w1.setCell ⟨wr.heap.size, 3, none⟩ (.slice (some ⟨g1, 0, none⟩) m c1)).alloc (.cells #[.int .i64 er, .int .i64 nx, .bool bad, .slice (some ⟨g1, 0, none⟩) m c1] 51)).heap.size (.slice (some ⟨g1, 0, none⟩) m c1) pg := by
             have p1 := (PG.out.far 3 (.slice (some ⟨g1, 0, none⟩) m c1)).same (sm ((Below.refl w1.heap.size (w1.setCell ⟨wr.heap.size, 3, none⟩ (.slice (some ⟨g1, 0, none⟩) m c1))).alloc (by simp) (.cells #[.int .i64 er, .int .i64 nx, .bool bad, .slice (some ⟨g1, 0, none⟩) m c1] 51)) (wr.heap.size + 1) (Nat.le_refl _))
             exact (p1.wide (by omega) (by simp)).beside fun a n c e h0 => by have := p1.blk e h0; simp; omega
           go_must (have G2 := Lib.hid (GG.out.push bb2 (x := ⟨er, nx, bad, pg⟩) pg2 own2 gr2 (by simpa using hat2) (by omega)))
           have low : ∀ j, j < w.heap.size + 3 → w2.heap[j]? = ((w1.setCell ⟨wr.heap.size, 3, none⟩ (.slice (some ⟨g1, 0, none⟩) m c1)).alloc (.cells #[.int .i64 er, .int .i64 nx, .bool bad, .slice (some ⟨g1, 0, none⟩) m c1] 51)).heap[j]? := fun j hj =>
             gr2.block j (by simp; omega) fun e => by have := (GG.out.rowLt (k := j) e.symm).1; omega
           go_must (have T0 := Lib.hid (show Rw w2 w.heap.size _ _ from (low _ (by omega)).trans ((S0.out.farA hq0 (k := 3) (.slice (some ⟨g1, 0, none⟩) m c1)).alloc _)))
           go_must (have T1 := Lib.hid (show Rw w2 (w.heap.size + 1) _ _ from (low _ (by omega)).trans ((S1.out.farA hq1 (k := 3) (.slice (some ⟨g1, 0, none⟩) m c1)).alloc _)))
           go_must (have T2 := Lib.hid (show Rw w2 (w.heap.size + 1 + 1) _ _ from (low _ (by omega)).trans ((S2.out.farA hq2 (k := 3) (.slice (some ⟨g1, 0, none⟩) m c1)).alloc _)))
           obtain ⟨n0, n1, n2, n3, n4, n5, n6, n7⟩ := T2.out.eight
           obtain ⟨fn0, fn1, fn2, fn3, fn4, fn5, fn6, fn7⟩ := T2.out.frees
           go_must (have B2 := Lib.hid (((HB.out.trans (bb2.mono (by omega))).grown gr2 (by simp; omega) fun j hj => by have := (GG.out.rowLt hj).1; omega)))
           have hsz2 := gr2.size
           simp only [World.size_alloc, World.size_setCell] at hsz2
           clear own2 gr2 hat2 bb2 pg2 low x0 x1 x2 x3 fx0 fx1 fx2 fx3 y0 y1 y2 y3 y4 y5 y6 y7))
      go_roundw
      case rel =>
        have g3 := G2.out.same (w1 := w2.setCell ⟨w.heap.size + 1 + 1, 3, none⟩ (.slice A2 (k + 1) c2)) (fun j a b => Below.heap_setCell w2 _ _ j (by show j ≠ w.heap.size + 1 + 1; omega)) (by simp)
        rw [← HY.out] at g3
        exact ⟨k + 1, _, _, by omega, by go_num, Lib.hid g3, Lib.hid (T0.out.farA (by omega) _), Lib.hid (T1.out.farA (by omega) _), Lib.hid (T2.out.set_ 3 _), Lib.hid (bset B2.out (by omega) _), by simp; omega⟩
      case measure => simp [intOf]; omega
    · obtain rfl : k = n := by omega
      have hkl : (bs.take k).length = k := by rw [List.length_take, HN.out]; omega
      rw [hkl] at hvo
      subst hvo
      obtain ⟨fo0, fo1, fo2, fo3, fo4, fo5, fo6, fo7⟩ := R1.out.frees
      have GO := Lib.hid GG.out.owns
      clear GG
      go_wp2
      refine bodyPost_ret (results_cell_row Try.results31 _ _ _ _ #[.int .i64 d, .int .i64 b, .int .i64 p, .slice Av k cv, .int .i64 fu, .int .i64 ke, .bool off, .int .i64 op] _ _ rfl
        ((((((((R1.out.set_ 0 _).set_ 1 _).set_ 2 _).set_ 3 _).set_ 4 _).set_ 5 _).set_ 6 _).set_ 7 _) Try.underlying31 rfl infoFl8) rfl ?_
      refine ⟨_, rfl, ⟨_, rfl, ?_⟩, ?_⟩
      · have := GO.out
        rw [List.take_of_length_le (by have := HN.out; omega)] at this
        refine (this.same ?_).wide (by omega) (by simp)
        repeat refine sset ?_ (.inl (by omega)) _
        exact Same.refl _ _ _
      · repeat refine bset ?_ (by omega) _
        exact HB.out
end Go.Proofs.Yteigdjocjcjkiaa
/- cloneFlash: the contract. -/
namespace Go.Proofs.Yteigdjocjcjkiaa
open Go.RowKit
set_option linter.unusedVariables false
/-- Block g is a row of the blocks L whose pages' slices are pv 0, pv 1, ..; nothing of it is frozen. -/
structure RB (w : World) (g : Nat) (pv : Nat → Value) (L : List Blk) : Prop where
  lt : g < w.heap.size
  free : ∀ k, w.frozen? ⟨g, k, none⟩ = false
  row : ∀ i, i < L.length → BkAt w g (i * 4) (L.getD i Blk.zero) (pv i)
section
variable {w w' : World} {g : Nat} {pv : Nat → Value} {L : List Blk}
theorem RB.same (h : RB w g pv L) (hs : w'.heap[g]? = w.heap[g]?) (hz : w.heap.size ≤ w'.heap.size) : RB w' g pv L := by
  have hsm : Same g (g + 1) w w' := fun j a b => by obtain rfl : j = g := by omega
                                                    exact hs
  exact ⟨Nat.lt_of_lt_of_le h.lt hz, fun k => (hsm.frozen (p := ⟨g, k, none⟩) (Nat.le_refl _) (by simp)).trans (h.free k), fun i hi => (h.row i hi).same hsm (Nat.le_refl _) (by simp)⟩
theorem RB.fill (h : RB w g pv L) {k : Nat} (hk : k < L.length) (x : Blk) (u : Value) :
    RB ((((w.setCell ⟨g, k * 4, none⟩ (.int .i64 x.er)).setCell ⟨g, k * 4 + 1, none⟩ (.int .i64 x.nx)).setCell ⟨g, k * 4 + 2, none⟩ (.bool x.bad)).setCell ⟨g, k * 4 + 3, none⟩ u) g (fun i => if i = k then u else pv i) (L.set k x) := by
  refine ⟨by simpa using h.lt, fun j => by simp only [World.frozen?_setCell]; exact h.free j, fun i hi' => ?_⟩
  rw [List.length_set] at hi'
  by_cases e : i = k
  · subst e
    rw [getD_set_eq _ _ _ _ hk, if_pos rfl]
    obtain ⟨r0, r1, r2, r3⟩ := h.row i hi'
    refine ⟨?_, ?_, ?_, ?_⟩
    · rw [World.cell?_setCell_other _ _ _ _ (addr_ne fun _ => by omega), World.cell?_setCell_other _ _ _ _ (addr_ne fun _ => by omega), World.cell?_setCell_other _ _ _ _ (addr_ne fun _ => by omega)]
      exact World.cell?_setCell_same w _ _ r0
    · rw [World.cell?_setCell_other _ _ _ _ (addr_ne fun _ => by omega), World.cell?_setCell_other _ _ _ _ (addr_ne fun _ => by omega)]
      exact World.cell?_setCell_same _ _ _ ((World.cell?_setCell_other w _ _ _ (addr_ne fun _ => by omega)).trans r1)
    · rw [World.cell?_setCell_other _ _ _ _ (addr_ne fun _ => by omega)]
      exact World.cell?_setCell_same _ _ _ ((World.cell?_setCell_other _ _ _ _ (addr_ne fun _ => by omega)).trans ((World.cell?_setCell_other w _ _ _ (addr_ne fun _ => by omega)).trans r2))
    · exact World.cell?_setCell_same _ _ _ ((World.cell?_setCell_other _ _ _ _ (addr_ne fun _ => by omega)).trans ((World.cell?_setCell_other _ _ _ _ (addr_ne fun _ => by omega)).trans ((World.cell?_setCell_other w _ _ _ (addr_ne fun _ => by omega)).trans r3)))
  · rw [getD_set_ne _ _ _ _ _ (fun e' => e e'.symm), if_neg e]
    obtain ⟨r0, r1, r2, r3⟩ := h.row i hi'
    have o : ∀ j t, j < 4 → w.cell? ⟨g, i * 4 + j, none⟩ = some t → ((((w.setCell ⟨g, k * 4, none⟩ (.int .i64 x.er)).setCell ⟨g, k * 4 + 1, none⟩ (.int .i64 x.nx)).setCell ⟨g, k * 4 + 2, none⟩ (.bool x.bad)).setCell ⟨g, k * 4 + 3, none⟩ u).cell? ⟨g, i * 4 + j, none⟩ = some t := fun j t hj ht => by
      rw [World.cell?_setCell_other _ _ _ _ (addr_ne fun _ => by omega), World.cell?_setCell_other _ _ _ _ (addr_ne fun _ => by omega), World.cell?_setCell_other _ _ _ _ (addr_ne fun _ => by omega), World.cell?_setCell_other _ _ _ _ (addr_ne fun _ => by omega)]; exact ht
    exact ⟨o 0 _ (by omega) r0, o 1 _ (by omega) r1, o 2 _ (by omega) r2, o 3 _ (by omega) r3⟩
end
theorem RB.congr {w : World} {g : Nat} {pv pv' : Nat → Value} {L : List Blk} (h : RB w g pv L) (e : ∀ i, i < L.length → pv i = pv' i) : RB w g pv' L :=
  ⟨h.lt, h.free, fun i hi => by rw [← e i hi]; exact h.row i hi⟩
theorem StrsOwn.blk {w w' : World} {B g n c : Nat} {L : List ByteArray} (h : StrsOwn w B (.slice (some ⟨g, 0, none⟩) n c) L) (hs : w'.heap[g]? = w.heap[g]?) : StrsOwn w' B (.slice (some ⟨g, 0, none⟩) n c) L := by
  refine ⟨h.1, ?_⟩
  rcases h.2 with ⟨e, _⟩ | ⟨g', cap, cur, e1, e2, e3, e4⟩
  · cases e
  · have : g' = g := by injection e1 with e1; injection e1 with e1; injection e1 with e1; exact e1.symm
    subst this
    exact .inr ⟨g', cap, cur, e1, e2, hs.trans e3, e4⟩
/-- All pages of the blocks L, one behind the other. -/
def flat (L : List Blk) : List ByteArray := L.flatMap (·.pg)
theorem flat_len {L : List Blk} {P : Nat} (h : ∀ x ∈ L, x.pg.length = P) : (flat L).length = L.length * P := by
  unfold flat
  induction L with
  | nil => simp
  | cons x L ih => rw [List.flatMap_cons, List.length_append, ih (fun y hy => h y (List.mem_cons_of_mem _ hy)), h x (List.mem_cons_self ..), List.length_cons, Nat.succ_mul]; omega
theorem flat_push (L : List Blk) (x : Blk) : flat (L ++ [x]) = flat L ++ x.pg := by simp [flat]
theorem flat_at {P : Nat} : ∀ {L : List Blk}, (∀ x ∈ L, x.pg.length = P) → ∀ {i j : Nat}, i < L.length → j < P → (flat L).getD (i * P + j) ByteArray.empty = (L.getD i Blk.zero).pg.getD j ByteArray.empty
  | [], _, i, j, hi, _ => by simp at hi
  | x :: L, h, i, j, hi, hj => by
    have hx := h x (List.mem_cons_self ..)
    have e : flat (x :: L) = x.pg ++ flat L := by simp [flat]
    rw [e]
    match i with
    | 0 =>
      rw [Nat.zero_mul, Nat.zero_add, List.getD_eq_getElem?_getD, List.getElem?_append_left (by omega)]
      rfl
    | i + 1 =>
      have ih := flat_at (L := L) (fun y hy => h y (List.mem_cons_of_mem _ hy)) (i := i) (j := j) (by simpa using hi) hj
      have e2 : (i + 1) * P + j - x.pg.length = i * P + j := by rw [hx, Nat.succ_mul]; omega
      rw [List.getD_eq_getElem?_getD, List.getElem?_append_right (by rw [hx, Nat.succ_mul]; omega), e2, ← List.getD_eq_getElem?_getD, ih]
      rfl
/-- Off a row and one block of pages: the blocks are the call's own. -/
theorem BO.split {w : World} {B g h P : Nat} {L : List Blk} {cap : Nat} (hb : RB w g (fun i => .slice (some ⟨h, i * P, none⟩) P P) L) (hp : StrsOwn w B (.slice (some ⟨h, 0, none⟩) (L.length * P) cap) (flat L)) (hL : ∀ x ∈ L, x.pg.length = P)
    (hg : B ≤ g) (hne : h ≠ g) (hP : P ≤ 9223372036854775807) (hs : ∀ i, i < L.length → ∀ j, j < (L.getD i Blk.zero).pg.length → ((L.getD i Blk.zero).pg.getD j ByteArray.empty).size ≤ 9223372036854775807) : BO w B w.heap.size g (fun i => .slice (some ⟨h, i * P, none⟩) P P) L := by
  have hfl := flat_len hL
  have hlen : ∀ i, i < L.length → (L.getD i Blk.zero).pg.length = P := fun i hi => by
    rw [List.getD_eq_getElem?_getD, List.getElem?_eq_getElem hi]; exact hL _ (List.getElem_mem hi)
  refine ⟨hg, hb.lt, hb.free, hb.row, fun i hi => ⟨_, _, _, rfl, Nat.le_refl _, hP, hlen i hi, fun j hj => hs i hi j (by rw [hlen i hi]; exact hj), fun h0 => ?_⟩, fun i j hi hj hne a n c a' n' c' e1 e2 h1 h2 => ?_⟩
  · have hsh : B ≤ h ∧ h < w.heap.size := by
      rcases hp.shape with ⟨e, _⟩ | ⟨g', cap', e, _, _, h3, h4⟩
      · cases e
      · injection e with e1 e2 e3
        injection e1 with e1
        injection e1 with e1
        subst e1
        exact ⟨h3, h4⟩
    refine ⟨h, i * P, rfl, hsh.1, hsh.2, hne, hp.free hfl, fun j hj => ?_⟩
    have hij : i * P + j < L.length * P := by
      have : (i + 1) * P ≤ L.length * P := Nat.mul_le_mul_right _ hi
      rw [Nat.succ_mul] at this
      omega
    rw [hp.cell hfl hij, flat_at hL hi hj]
  · injection e1 with e1 e3 e4
    injection e2 with e2 e5 e6
    injection e1 with e1
    injection e2 with e2
    subst e1 e2 e3 e5
    right
    simp only
    rcases Nat.lt_or_ge i j with hij | hij
    · left
      have : (i + 1) * P ≤ j * P := Nat.mul_le_mul_right _ hij
      rw [Nat.succ_mul] at this
      omega
    · right
      have : (j + 1) * P ≤ i * P := Nat.mul_le_mul_right _ (by omega)
      rw [Nat.succ_mul] at this
      omega
theorem wpList_make_strs_cap {Q : Exit → Act → World → Prop} {ops : Array Oper} {rest : List Oper} {o : Oper} {a : Act} {w0 w : World} {B : Nat} (hgd : o.guard = none) (l c : Operand)
    (ho : o.op = Op.makeSlice 49 l c) (kl kc : IntKind) (n : Nat) (N : Int) (hN : N = (n : Int)) (hl : a.eval l = .int kl 0) (hc : a.eval c = .int kc N) (hn : n ≤ 1048576)
    (hb : Below B w0 w) (hB : B ≤ w.heap.size)
    (h : ∀ w', StrsOwn w' B (.slice (some ⟨w.heap.size, 0, none⟩) 0 n) [] → Below B w0 w' → w.grownBy w' none → wpList Try.prog ops Q rest (a.put o.dst (.slice (some ⟨w.heap.size, 0, none⟩) 0 n)) w') :
    wpList Try.prog ops Q (o :: rest) a w := by
  obtain ⟨i0, hi, hz0, hz1, hz2⟩ := info_parts infoStr
  refine wpList_plain hgd fun K hK' => ?_
  obtain ⟨w', hrun, r1, r2⟩ := run_make_own (P := Try.prog) w B 49 9 i0 (.string ByteArray.empty) 1 Try.underlying49 hi hz0 hz1 kl kc n (by rw [hz2]; omega) (by unfold maxLen; omega) hB
  subst hN
  unfold Oper.wp
  simp [execOp, ho, hl, hc, hrun, Result.andThen]
  exact hK' _ _ (h w' r1 (hb.grown r2 hB fun k hk => by simp at hk) r2)
theorem wpList_make_bks {Q : Exit → Act → World → Prop} {ops : Array Oper} {rest : List Oper} {o : Oper} {a : Act} {w0 w : World} {B : Nat} (hgd : o.guard = none) (l c : Operand)
    (ho : o.op = Op.makeSlice 29 l c) (n : Nat) (N : Int) (hN : N = (n : Int)) (hl : a.eval l = .int .i64 N) (hc : a.eval c = .int .i64 N) (hn : n ≤ 1048576)
    (hb : Below B w0 w) (hB : B ≤ w.heap.size)
    (h : ∀ w', RB w' w.heap.size (fun _ => .slice none 0 0) (List.replicate n Blk.zero) → Below B w0 w' → w.grownBy w' none → wpList Try.prog ops Q rest (a.put o.dst (.slice (some ⟨w.heap.size, 0, none⟩) n n)) w') :
    wpList Try.prog ops Q (o :: rest) a w := by
  obtain ⟨i0, hi, hz0, hz1, hz2⟩ := info_parts infoBlkZ
  subst hN
  refine wpList_make_full w hgd l c _ ho B 51 i0 (.agg #[.int .i64 0, .int .i64 0, .bool false, .slice none 0 0]) 4 Try.underlying29 hi hz0 hz1 .i64 .i64 (n : Int) (n : Int) n hl hc rfl rfl (by rw [hz2]; omega) (by unfold maxLen; omega) hB ?_
  intro w' h1 h2
  have h3 := World.ownsRow.lt h1 w.heap.size rfl
  have b := BO.made h1 h3.2 h3.1
  exact h w' ⟨b.high, b.free, b.row⟩ (hb.grown h2 hB fun k hk => by simp at hk) h2
theorem wpList_append_strs_room {Q : Exit → Act → World → Prop} {ops : Array Oper} {rest : List Oper} {o : Oper} {a : Act} {wr : World} {B : Nat} (hgd : o.guard = none) (s x : Operand)
    (ho : o.op = .call { callee := .builtin .append, args := #[s, x], argTypes := #[49, 49] })
    (g n cap : Nat) (l : List ByteArray) (hln : l.length = n) (hs : a.eval s = .slice (some ⟨g, 0, none⟩) n cap) (hown : StrsOwn wr B (.slice (some ⟨g, 0, none⟩) n cap) l)
    (L : List ByteArray) (b off m c : Nat) (hm : L.length = m) (hx : a.eval x = .slice (some ⟨b, off, none⟩) m c) (hc : ∀ i, i < m → wr.cell? ⟨b, off + i, none⟩ = some (.string (L.getD i ByteArray.empty))) (hroom : n + m ≤ cap)
    (h : ∀ w', StrsOwn w' B (.slice (some ⟨g, 0, none⟩) (n + m) cap) (l ++ L) → wr.grownBy w' (some g) → wpList Try.prog ops Q rest (a.put o.dst (.slice (some ⟨g, 0, none⟩) (n + m) cap)) w') :
    wpList Try.prog ops Q (o :: rest) a wr := by
  obtain ⟨i0, hi, hz0, hz1, hz2⟩ := info_parts infoStr
  unfold StrsOwn at hown
  rw [hln] at hown
  refine wpList_append_own_spare _ hgd s x _ ho B 9 i0 1 Try.underlying49 hi hz1 g n cap (l.map Value.string) hs hown ⟨b, off, none⟩ m c (L.map Value.string) hx (by simp [hm]) ?_ ?_ hroom ?_
  · intro j u hj
    have hjl : j < L.length := by
      rcases Nat.lt_or_ge j L.length with hlt | hge
      · exact hlt
      · rw [List.getElem?_eq_none (by simpa using hge)] at hj; cases hj
    have := hc j (by omega)
    rw [List.getElem?_map, List.getElem?_eq_getElem hjl] at hj
    simp at hj
    subst hj
    rw [List.getD_eq_getElem?_getD, List.getElem?_eq_getElem hjl] at this
    have e : (⟨b, off, none⟩ : Addr).add j = ⟨b, off + j, none⟩ := by unfold Addr.add; split <;> simp_all
    rw [e]
    simpa using this
  · intro u hu
    simp at hu
    obtain ⟨s, _, rfl⟩ := hu
    rfl
  · intro w' h1 h2
    refine h w' ?_ h2
    unfold StrsOwn
    rw [List.length_append, hm, hln, List.map_append]
    exact h1
set_option maxHeartbeats 4000000 in
set_option maxRecDepth 100000 in
theorem clone_any (v : Value) (F : Fl) (w : World) (lo hi : Nat) (h : FlIn w lo hi v F) (hh : hi ≤ w.heap.size) (hok : FlOk F) :
    Calls Try.prog 37 #[v] w fun e w' => ∃ u, e = .returned u ∧ FlOwn w' w.heap.size w'.heap.size u F ∧ Below w.heap.size w w' := by
  obtain ⟨u, rfl, h⟩ := h
  have hn8 := hok.len
  have hpl := fun i hi => hok.plen (i := i) hi
  have hp16 := hok.1.p16
  obtain ⟨d, b, p, bs, fu, ke, off, op⟩ := F
  obtain ⟨A, n, cap, rfl, hlc, hcm, hlen, hA⟩ := h
  unfold flc
  simp only at hn8 hpl hp16 hlen hA
  rw [hlen] at hn8
  obtain ⟨P, rfl⟩ : ∃ P : Nat, p = (P : Int) := ⟨p.toNat, by omega⟩
  have hnm : (n : Int) ≤ 36 := by omega
  have hPm : (P : Int) ≤ 16 := by omega
  clear hok
  obtain ⟨g, o, rfl, hg1, hg2, hx⟩ := hA (by omega)
  have HX := Lib.hid hx
  have HN := Lib.hid hlen
  have HPL := Lib.hid hpl
  have hnp : (n : Int) * (P : Int) = ((n * P : Nat) : Int) := by simp
  have hnp2 : n * P ≤ 36 * 16 := Nat.mul_le_mul (by omega) (by omega)
  have hwr : IntKind.i64.wrap ((n : Int) * (P : Int)) = ((n * P : Nat) : Int) := by rw [hnp, IntKind.wrap_i64]; omega
  obtain ⟨r0, r1, b0⟩ := Rw.two_new w 31 31 #[.int .i64 d, .int .i64 b, .int .i64 P, .slice (some ⟨g, o, none⟩) n cap, .int .i64 fu, .int .i64 ke, .bool off, .int .i64 op]
    #[.int .i64 0, .int .i64 0, .int .i64 0, .slice none 0 0, .int .i64 0, .int .i64 0, .bool false, .int .i64 0]
  have R0 := Lib.hid r0
  have R1 := Lib.hid r1
  have B0 := Lib.hid b0
  clear r0 r1 b0 hx hlen hA hpl hnp
  go_enter Try.func37, Try.ntmps37
  obtain ⟨N, hN⟩ : ∃ N, N = n * P := ⟨_, rfl⟩
  rw [← hN] at hwr hnp2
  have HNP := Lib.hid hN
  clear hN
  go_wp2_with (first
    | (with_reducible show wpList _ _ _ (⟨some 11, _, _, _, _, _⟩ :: _) _ _
       go_must (refine wpList_make_bks (B := w.heap.size + 2) rfl _ _ rfl n _ rfl rfl rfl (by omega) (Below.refl _ _) (by simp) ?_)
       intro w1 rb1 hb1 gr1
       simp only [World.size_alloc] at rb1
       have s0 := R0.out.below hb1 (by omega)
       have S0 := Lib.hid s0
       have S1 := Lib.hid (R1.out.below hb1 (by omega))
       have BB1 := Lib.hid (B0.out.trans (hb1.mono (by omega)))
       obtain ⟨a0, a1, a2, a3, a4, a5, a6, a7⟩ := s0.eight
       have hlt1 := rb1.lt
       have RB1 := Lib.hid rb1
       clear rb1 s0 hb1 gr1)
    | (with_reducible show wpList _ _ _ (⟨some 19, _, _, _, _, _⟩ :: _) _ _
       go_must (refine wpList_make_strs_cap (B := w.heap.size + 2) rfl _ _ rfl .i64 .i64 N _ rfl rfl rfl (by omega) (Below.refl _ _) (by omega) ?_)
       intro w2 own2 hb2 gr2
       have t0 := S0.out.below hb2 (by omega)
       have T0 := Lib.hid t0
       have T1 := Lib.hid (S1.out.below hb2 (by omega))
       have BB2 := Lib.hid (BB1.out.trans (hb2.mono (by omega)))
       have RB2 := Lib.hid (RB1.out.same (gr2.block _ RB1.out.lt (by simp)) gr2.size)
       have OW := Lib.hid own2
       have hlt2 := (World.ownsRow.lt own2 w1.heap.size rfl).2
       clear a0 a1 a2 a3 a4 a5 a6 a7
       obtain ⟨a0, a1, a2, a3, a4, a5, a6, a7⟩ := t0.eight
       clear t0 own2 hb2 gr2))
  have hP0 : 0 < P := by omega
  have key0 : (fun _ : Nat => Value.slice none 0 0) = fun i => if i < 0 then Value.slice (some ⟨w1.heap.size, i * P, none⟩) P P else .slice none 0 0 := by
    funext i; rw [if_neg (by omega)]
  have RB3 := Lib.hid (show RB w2 (w.heap.size + 1 + 1) (fun i => if i < 0 then Value.slice (some ⟨w1.heap.size, i * P, none⟩) P P else .slice none 0 0) (bs.take 0 ++ List.replicate (n - 0) Blk.zero) by rw [← key0]; simpa using RB2.out)
  obtain ⟨ha, hha⟩ : ∃ ha, ha = w1.heap.size := ⟨_, rfl⟩
  rw [← hha] at RB3 OW hlt2
  have hha2 : w.heap.size + 3 ≤ ha := by omega
  rw [← hha]
  clear hha key0 RB1 RB2 S0 S1 BB1 a0 a1 a2 a3 a4 a5 a6 a7
  go_loopw [4, 23] (fun u i wr => ∃ (k q : Nat), k ≤ n ∧ i = .int .i64 k ∧ u = .slice (some ⟨ha, 0, none⟩) q N ∧ Hid (q = k * P) ∧ Hid (StrsOwn wr (w.heap.size + 2) (.slice (some ⟨ha, 0, none⟩) q N) (flat (bs.take k))) ∧
      Hid (RB wr (w.heap.size + 1 + 1) (fun i => if i < k then Value.slice (some ⟨ha, i * P, none⟩) P P else .slice none 0 0) (bs.take k ++ List.replicate (n - k) Blk.zero)) ∧
      Hid (Rw wr w.heap.size 31 #[.int .i64 d, .int .i64 b, .int .i64 P, .slice (some ⟨g, o, none⟩) n cap, .int .i64 fu, .int .i64 ke, .bool off, .int .i64 op]) ∧
      Hid (Rw wr (w.heap.size + 1) 31 #[.int .i64 0, .int .i64 0, .int .i64 0, .slice none 0 0, .int .i64 0, .int .i64 0, .bool false, .int .i64 0]) ∧
      Hid (Below w.heap.size w wr) ∧ ha < wr.heap.size) (fun _ i _ => n - (intOf i).toNat)
  case atStart => exact ⟨0, 0, by omega, rfl, rfl, Lib.hid (by simp), Lib.hid (by simpa [flat] using OW.out), RB3, T0, T1, BB2, hlt2⟩
  case round =>
    clear RB3 T0 T1 BB2 OW hlt2
    obtain ⟨k, q, hk, rfl, rfl, HQ, OW, RR, T0, T1, BB, hlt2⟩ := hrel
    obtain ⟨a0, a1, a2, a3, a4, a5, a6, a7⟩ := T0.out.eight
    have hne3' : ha ≠ w.heap.size + 1 + 1 := by omega
    by_cases hlt : k < n
    · have hki : (k : Int) < (n : Int) := by omega
      have hqP : q + P ≤ N := by
        rw [HQ.out, HNP.out, ← Nat.succ_mul]
        exact Nat.mul_le_mul_right _ hlt
      obtain ⟨pu, hat, hpu⟩ := HX.out k hlt
      have hs1 := sm BB.out lo hh
      obtain ⟨q0, q1, q2, q3⟩ := hat.same hs1 hg1 hg2
      obtain ⟨Ap, m, cp, rfl, hm1, hm2, hm3, hm4, hpc⟩ := hpu.same hs1
      have hmP : (bs.getD k Blk.zero).pg.length = P := by have := (HPL.out k (by have := HN.out; omega)).2.2; exact Int.ofNat.inj this
      have HY := Lib.hid (show bs.take (k + 1) = bs.take k ++ [bs.getD k Blk.zero] from by
        rw [List.take_succ_eq_append_getElem (by have := HN.out; omega), List.getD_eq_getElem?_getD, List.getElem?_eq_getElem (by have := HN.out; omega)]; rfl)
      have HS := Lib.hid (set_fill bs n k HN.out hlt)
      generalize bs.getD k Blk.zero = y at *
      obtain ⟨er, nx, bad, pg⟩ := y
      simp only at q0 q1 q2 hm3 hm4 hmP hpc
      obtain rfl : m = P := by omega
      obtain ⟨pb, po, rfl, hb1, hb2, hpx⟩ := hpc (by omega)
      have HPX := Lib.hid hpx
      have HM3 := Lib.hid hm3
      have HOL := Lib.hid (show (flat (bs.take k)).length = q from by
        have := OW.out.shape
        rcases this with ⟨e, _⟩ | ⟨_, _, e, _⟩
        · cases e
        · injection e with _ e _; exact e.symm)
      have hsz := BB.out.size
      have hrl := RR.out.lt
      have RF := Lib.hid (fun c : Nat => RR.out.free c)
      have hrl2 : k < (bs.take k ++ List.replicate (n - k) Blk.zero).length := by rw [List.length_append, List.length_take, HN.out, List.length_replicate]; omega
      clear hat hpu hpx hs1 hpc hm3 hmP hm4
      have OWA := Lib.hid (show StrsOwn (wr.alloc (.cells #[.int .i64 er, .int .i64 nx, .bool bad, .slice (some ⟨pb, po, none⟩) m cp] 51)) (w.heap.size + 2) (.slice (some ⟨ha, 0, none⟩) q N) (flat (bs.take k)) from World.ownsRow.alloc OW.out _)
      have CLA := Lib.hid (show ∀ i, i < m → (wr.alloc (.cells #[.int .i64 er, .int .i64 nx, .bool bad, .slice (some ⟨pb, po, none⟩) m cp] 51)).cell? ⟨pb, po + i, none⟩ = some (.string (pg.getD i ByteArray.empty)) from
        fun i hi => (World.cell?_alloc_lt _ _ _ (by show pb < _; omega)).trans (HPX.out i hi))
      have hne1 : ¬ wr.heap.size = ha := by omega
      have hne2 : ¬ wr.heap.size = w.heap.size + 1 + 1 := by omega
      have hne3 : ¬ ha = w.heap.size + 1 + 1 := by omega
      go_wp2_with (first
        | (with_reducible show wpList _ _ _ (⟨some 33, _, _, _, _, _⟩ :: _) _ _
           go_must (refine wpList_append_strs_room rfl _ _ rfl ha q N (flat (bs.take k)) HOL.out rfl OWA.out pg pb po m cp HM3.out rfl CLA.out hqP ?_)
           intro w3 own3 gr3
           have keep3 : ∀ j, j ≤ wr.heap.size → j ≠ ha → w3.heap[j]? = (wr.alloc (.cells #[.int .i64 er, .int .i64 nx, .bool bad, .slice (some ⟨pb, po, none⟩) m cp] 51)).heap[j]? := fun j h1 h2 => gr3.block j (by simp; omega) (fun e => h2 (Option.some.inj e))
           have sz3 := gr3.size
           simp only [World.size_alloc] at sz3
           have rb : Rw w3 wr.heap.size _ _ := (keep3 _ (Nat.le_refl _) (by omega)).trans (Rw.new wr 51 #[.int .i64 er, .int .i64 nx, .bool bad, .slice (some ⟨pb, po, none⟩) m cp])
           obtain ⟨x0, x1, x2, x3⟩ := rb.four
           obtain ⟨fx0, fx1, fx2, fx3, _⟩ := rb.frees
           have rr3 := RR.out.same ((keep3 _ (by omega) (by omega)).trans (Below.heap_alloc wr _ _ hrl)) (by omega)
           obtain ⟨z0, z1, z2, z3⟩ := rr3.row k hrl2
           have fz0 := rr3.free (k * 4)
           have fz1 := rr3.free (k * 4 + 1)
           have fz2 := rr3.free (k * 4 + 2)
           have fz3 := rr3.free (k * 4 + 3)
           have RR3 := Lib.hid rr3
           have U0 := Lib.hid (show Rw w3 w.heap.size _ _ from (keep3 _ (by omega) (by omega)).trans (T0.out.alloc _))
           have U1 := Lib.hid (show Rw w3 (w.heap.size + 1) _ _ from (keep3 _ (by omega) (by omega)).trans (T1.out.alloc _))
           have BB3 := Lib.hid ((BB.out.alloc BB.out.size (.cells #[.int .i64 er, .int .i64 nx, .bool bad, .slice (some ⟨pb, po, none⟩) m cp] 51)).grown gr3 (by simp; omega) (fun j hj => by injection hj with hj; omega))
           have OW3 := Lib.hid own3
           clear keep3 rb rr3 own3 gr3))
      go_roundw
      case rel =>
        have h5 : ∀ j, j ≠ wr.heap.size → j ≠ w.heap.size + 1 + 1 → (((((w3.setCell ⟨wr.heap.size, 3, none⟩ (.slice (some ⟨ha, q, none⟩) m m)).setCell ⟨w.heap.size + 1 + 1, k * 4, none⟩ (.int .i64 er)).setCell ⟨w.heap.size + 1 + 1, k * 4 + 1, none⟩ (.int .i64 nx)).setCell ⟨w.heap.size + 1 + 1, k * 4 + 2, none⟩ (.bool bad)).setCell ⟨w.heap.size + 1 + 1, k * 4 + 3, none⟩ (.slice (some ⟨ha, q, none⟩) m m)).heap[j]? = w3.heap[j]? := fun j e1 e2 => by
          rw [Below.heap_setCell _ _ _ _ e2, Below.heap_setCell _ _ _ _ e2, Below.heap_setCell _ _ _ _ e2, Below.heap_setCell _ _ _ _ e2, Below.heap_setCell _ _ _ _ e1]
        have ow4 := OW3.out.blk (h5 ha (by omega) hne3)
        have hfp : flat (bs.take k) ++ pg = flat (bs.take (k + 1)) := by rw [HY.out, flat_push]
        rw [hfp] at ow4
        have rr4 := (RR3.out.same (w' := w3.setCell ⟨wr.heap.size, 3, none⟩ (.slice (some ⟨ha, q, none⟩) m m)) (Below.heap_setCell _ _ _ _ (by show w.heap.size + 1 + 1 ≠ wr.heap.size; omega)) (by simp)).fill hrl2 ⟨er, nx, bad, pg⟩ (.slice (some ⟨ha, q, none⟩) m m)
        rw [HS.out] at rr4
        have rr5 := rr4.congr (pv' := fun i => if i < k + 1 then Value.slice (some ⟨ha, i * m, none⟩) m m else .slice none 0 0) (fun i _ => by
          by_cases e : i = k
          · rw [if_pos e, if_pos (by omega), e, HQ.out]
          · rw [if_neg e]
            by_cases e2 : i < k
            · rw [if_pos e2, if_pos (by omega)]
            · rw [if_neg e2, if_neg (by omega)])
        exact ⟨k + 1, q + m, by omega, by go_num, rfl, Lib.hid (by rw [HQ.out, Nat.succ_mul]), Lib.hid ow4, Lib.hid rr5, Lib.hid ((h5 _ (by omega) (by omega)).trans U0.out), Lib.hid ((h5 _ (by omega) (by omega)).trans U1.out),
          Lib.hid (bset (bset (bset (bset (bset BB3.out (by omega) _) (by omega) _) (by omega) _) (by omega) _) (by omega) _), by simp; omega⟩
      case measure => simp [intOf]; omega
    · obtain rfl : k = n := by omega
      obtain ⟨z0, z1, z2, z3, z4, z5, z6, z7⟩ := T1.out.eight
      obtain ⟨fz0, fz1, fz2, fz3, fz4, fz5, fz6, fz7⟩ := T1.out.frees
      obtain ⟨fa0, fa1, fa2, fa3, fa4, fa5, fa6, fa7⟩ := T0.out.frees
      have htk : bs.take k = bs := List.take_of_length_le (by have := HN.out; omega)
      have rr := RR.out
      rw [Nat.sub_self, List.replicate_zero, List.append_nil, htk] at rr
      have ow := OW.out
      rw [htk, HQ.out] at ow
      have hLP : ∀ x ∈ bs, x.pg.length = P := fun x hx => by
        obtain ⟨i, hi, rfl⟩ := List.getElem_of_mem hx
        have := (HPL.out i hi).2.2
        have e : (Fl.blk { d := d, b := b, p := (P : Int), bs := bs, fu := fu, ke := ke, off := off, op := op } i) = bs[i] := by
          show bs.getD i Blk.zero = _
          rw [List.getD_eq_getElem?_getD, List.getElem?_eq_getElem hi]; rfl
        rw [e] at this
        exact Int.ofNat.inj this
      have rr2 := rr.congr (pv' := fun i => Value.slice (some ⟨ha, i * P, none⟩) P P) (fun i hi => by rw [if_pos (by have := HN.out; omega)])
      have hkl := HN.out
      rw [← hkl] at ow
      have bo := BO.split rr2 ow hLP (by omega) hne3' (by omega) (fun i hi j hj => by
        obtain ⟨_, _, hp⟩ := HX.out i (by omega)
        obtain ⟨_, _, _, _, _, _, h3, h4, _⟩ := hp
        exact h4 j (by omega))
      have BOH := Lib.hid bo
      clear rr ow rr2 bo htk hkl
      go_wp2
      refine bodyPost_ret (results_cell_row Try.results37 _ _ _ _ #[.int .i64 d, .int .i64 b, .int .i64 P, .slice (some ⟨w.heap.size + 1 + 1, 0, none⟩) k k, .int .i64 fu, .int .i64 ke, .bool off, .int .i64 op] _ _ rfl
        (((((((((T1.out.farA (by omega) _).set_ 0 _).set_ 1 _).set_ 2 _).set_ 3 _).set_ 4 _).set_ 5 _).set_ 6 _).set_ 7 _) Try.underlying31 rfl infoFl8) rfl ?_
      refine ⟨_, rfl, ⟨_, rfl, _, _, _, rfl, Nat.le_refl _, by omega, HN.out, fun _ => ⟨_, _, rfl, (BOH.out.same ?_).wide (by omega) (by simp)⟩⟩, ?_⟩
      · repeat refine sset ?_ (.inl (by omega)) _
        exact Same.refl _ _ _
      · repeat refine bset ?_ (by omega) _
        exact BB.out
end Go.Proofs.Yteigdjocjcjkiaa
/- Which blocks and pages a geometry has, in the program: the contracts. -/
namespace Go.Proofs.Yteigdjocjcjkiaa
open Go.RowKit
set_option linter.unusedVariables false
theorem geoBlock_any (d b p x : Int) (r : Bool) (w : World) (hg : GeoOk d b p) (hr : r = true ↔ (0 ≤ x ∧ x < d * b)) : Calls Try.prog 77 #[.agg #[.int .i64 d, .int .i64 b, .int .i64 p], .int .i64 x] w fun e w' => e = .returned (.bool r) ∧ Below w.heap.size w w' := by
  have B0 := Lib.hid ((Below.refl w.heap.size w).alloc (Nat.le_refl _) (.cells #[.int .i64 d, .int .i64 b, .int .i64 p] 28))
  have HT := Lib.hid (fun (W : World) => total_any d b p W hg)
  generalize d * b = H at *
  clear hg
  by_cases h1 : 0 ≤ x
  case neg =>
    obtain rfl : r = false := (bool_of r hr).2 (fun e => h1 e.1)
    have d1 : decide (0 ≤ x) = false := by simp; omega
    have d1' : decide (x ≥ 0) = false := by simp; omega
    clear hr h1
    go_enter Try.func77, Try.ntmps77
    go_wp2
    go_ret
    exact ⟨rfl, B0.out⟩
  have d1 : decide (0 ≤ x) = true := by simp; omega
  have d1' : decide (x ≥ 0) = true := by simp; omega
  have HR := Lib.hid (show r = decide (x < H) by rw [Bool.eq_iff_iff, hr]; simp only [decide_eq_true_eq]; exact ⟨fun e => e.2, fun e => ⟨h1, e⟩⟩)
  clear hr h1
  go_enter Try.func77, Try.ntmps77
  go_wp2_with fail
  refine (HT.out _).mono ?_
  rintro e w1 ⟨rfl, b1⟩
  have B1 := Lib.hid (B0.out.trans (b1.mono (by simp)))
  clear b1
  go_wp2
  go_ret
  exact ⟨ret_bool HR.out.symm, B1.out⟩
theorem geoPage_any (d b p x y : Int) (r : Bool) (w : World) (hg : GeoOk d b p) (hr : r = true ↔ ((0 ≤ x ∧ x < d * b) ∧ (0 ≤ y ∧ y < p))) : Calls Try.prog 45 #[.agg #[.int .i64 d, .int .i64 b, .int .i64 p], .int .i64 x, .int .i64 y] w fun e w' => e = .returned (.bool r) ∧ Below w.heap.size w w' := by
  have B0 := Lib.hid ((Below.refl w.heap.size w).alloc (Nat.le_refl _) (.cells #[.int .i64 d, .int .i64 b, .int .i64 p] 28))
  have R0 := Lib.hid (Rw.new w 28 #[.int .i64 d, .int .i64 b, .int .i64 p])
  obtain ⟨rb, hrb⟩ := prop_dec' (0 ≤ x ∧ x < d * b)
  have HB := Lib.hid (fun (W : World) => geoBlock_any d b p x rb W hg hrb)
  clear hg
  cases rb with
  | false =>
    have hb : ¬ (0 ≤ x ∧ x < d * b) := fun e => by have := hrb.2 e; cases this
    obtain rfl : r = false := (bool_of r hr).2 (fun e => hb e.1)
    clear hr hb hrb
    go_enter Try.func45, Try.ntmps45
    go_wp2_with fail
    refine (HB.out _).mono ?_
    rintro e w1 ⟨rfl, b1⟩
    have B1 := Lib.hid (B0.out.trans (b1.mono (by simp)))
    clear b1
    go_wp2
    go_ret
    exact ⟨rfl, B1.out⟩
  | true =>
    have hb : 0 ≤ x ∧ x < d * b := hrb.1 rfl
    have HR := Lib.hid (show r = (decide (0 ≤ y) && decide (y < p)) by rw [Bool.eq_iff_iff, hr]; simp only [Bool.and_eq_true, decide_eq_true_eq]; exact ⟨fun e => e.2, fun e => ⟨hb, e⟩⟩)
    clear hr hb hrb
    by_cases h1 : 0 ≤ y
    · have d1 : decide (0 ≤ y) = true := by simp; omega
      have d1' : decide (y ≥ 0) = true := by simp; omega
      have HR := Lib.hid (show r = decide (y < p) by rw [HR.out, d1, Bool.true_and])
      go_enter Try.func45, Try.ntmps45
      go_wp2_with fail
      refine (HB.out _).mono ?_
      rintro e w1 ⟨rfl, b1⟩
      have B1 := Lib.hid (B0.out.trans (b1.mono (by simp)))
      obtain ⟨a0, a1, a2⟩ := (R0.out.below b1 (by simp)).three
      clear b1
      go_wp2
      go_ret
      exact ⟨ret_bool HR.out.symm, B1.out⟩
    · have d1 : decide (0 ≤ y) = false := by simp; omega
      have d1' : decide (y ≥ 0) = false := by simp; omega
      have HR := Lib.hid (show r = false by rw [HR.out, d1, Bool.false_and])
      go_enter Try.func45, Try.ntmps45
      go_wp2_with fail
      refine (HB.out _).mono ?_
      rintro e w1 ⟨rfl, b1⟩
      have B1 := Lib.hid (B0.out.trans (b1.mono (by simp)))
      obtain ⟨a0, a1, a2⟩ := (R0.out.below b1 (by simp)).three
      clear b1
      go_wp2
      go_ret
      exact ⟨ret_bool HR.out.symm, B1.out⟩
end Go.Proofs.Yteigdjocjcjkiaa
/- Programming a page, by the program: the contracts. -/
namespace Go.Proofs.Yteigdjocjcjkiaa
open Go.RowKit
set_option linter.unusedVariables false
theorem same_grown {w w' : World} {g lo hi : Nat} (h : w.grownBy w' (some g)) (hg : hi ≤ g) (hs : hi ≤ w.heap.size) : Same lo hi w w' := fun j _ h2 => h.block j (by omega) (fun e => by injection e with e; omega)
theorem Rw.kept {w w' : World} {g lo hi : Nat} {t : TypeId} {cs : Array Value} (h : Rw w g t cs) (k : Keep lo hi w w') (hg : hi ≤ g) : Rw w' g t cs := (k.2 g hg h.lt).trans h
theorem set_self (L : List Blk) (k : Nat) (hk : k < L.length) : L.set k (L.getD k Blk.zero) = L := by
  rw [List.getD_eq_getElem?_getD, List.getElem?_eq_getElem hk]; simp
theorem prog_bs {F : Fl} {k : Nat} {raw : ByteArray} (hk : k < F.bs.length) (hr : raw.size = 91) : (F.prog k raw).bs = F.bs.set k ((F.blk k).takes raw F.much) := by
  unfold Fl.prog Fl.much Blk.takes Fl.blk
  by_cases h : F.fu = 0
  · rw [if_pos h, if_pos h]
    by_cases h2 : F.ke = 0
    · rw [if_pos h2, if_pos h2, set_self _ _ hk]; rfl
    · rw [if_neg h2, if_neg h2]; rfl
  · rw [if_neg h, if_neg h, if_neg (by decide), Blk.torn_whole hr]; rfl
theorem prog_flc (F : Fl) (k : Nat) (raw : ByteArray) (u : Value) : flc (F.prog k raw) u = flc F.tick u := by
  unfold Fl.prog
  split
  · split <;> rfl
  · rfl
theorem Fl.much_ok {F : Fl} (h : FlOk F) : 0 ≤ F.much ∧ F.much ≤ 91 := by
  unfold Fl.much; have := h.2.2.2.2.1; split <;> omega
/-- What an operation in place leaves: its code, and where it was started or the array is off, the array as it is then. -/
def InPost (lo hi g : Nat) (u : Value) (G : Fl) (c : Int) (w : World) (e : Ending) (w' : World) : Prop :=
  e = .returned (.int .i64 c) ∧ Below lo w w' ∧ ((c = 0 ∨ c = 8) → Rw w' g 31 (flc G u) ∧ BksOwn w' lo hi u G.bs)
set_option maxRecDepth 100000 in
theorem flProg_any (w : World) (lo hi g : Nat) (F G : Fl) (u : Value) (block page : Int) (raw : ByteArray) (c : Int) (hR : Rw w g 31 (flc F u)) (hB : BksOwn w lo hi u F.bs) (hg : hi ≤ g) (hlo : lo ≤ hi) (hok : FlOk F) (hr : raw.size = 91)
    (hE : ProgEnds F block page raw G c) :
    Calls Try.prog 38 #[.pointer (some ⟨g, 0, none⟩), .int .i64 block, .int .i64 page, .string raw] w (InPost lo hi g u G c w) := by
  have hn8 := hok.len
  have hRg := hR
  obtain ⟨A, n, cap, rfl, hlc, hcm, hlen, hA⟩ := hB
  have hgl := hR.lt
  have RR := Lib.hid hR
  obtain ⟨c0, c1, c2, c3, c4, c5, c6, c7⟩ := hR.eight
  rw [hlen] at hn8
  have hnm : (n : Int) ≤ 36 := by omega
  have bl := Below.refl lo w
  have hLB : (n : Int) = F.d * F.b := by have := hok.2.1; rw [hlen] at this; exact this
  have HP := Lib.hid (fun (W : World) (r : Bool) (hr : r = true ↔ ((0 ≤ block ∧ block < (n : Int)) ∧ (0 ≤ page ∧ page < F.p))) => geoPage_any F.d F.b F.p block page r W hok.1 (by rw [← hLB]; exact hr))
  have hhi : hi ≤ w.heap.size := by omega
  clear hLB
  rcases hE with hE | ⟨_, _, h1⟩ | ⟨_, _, h1, h2⟩ | ⟨_, _, h1, k, m, rfl, rfl, hkl, hnp, h2⟩ | ⟨_, _, h1, k, m, rfl, rfl, hkl, hnp, h2, h3⟩ | ⟨_, _, h1, k, m, rfl, rfl, hkl, hnp, h2, h3⟩
  · rcases hE with hE | hE
    · exact absurd hok hE
    · exact absurd hr hE
  · have HB := Lib.hid (show BksOwn w lo hi (.slice A n cap) F.bs from ⟨A, n, cap, rfl, hlc, hcm, hlen, hA⟩)
    rw [h1] at c6
    clear hA hRg hR hok hlen
    go_enter Try.func38, Try.ntmps38
    go_wp2
    go_ret
    exact ⟨rfl, bl, fun _ => ⟨RR.out, HB.out⟩⟩
  · rw [h1] at c6
    have HF := Lib.hid (fun (W : World) => HP.out W false (by rw [hlen] at h2; simp only [Bool.false_eq_true, false_iff]; rintro ⟨a, b⟩; rcases h2 with h2 | h2 <;> contradiction))
    clear hA hRg hR hok hlen h2
    go_enter Try.func38, Try.ntmps38
    go_wp2_with fail
    refine (HF.out _).mono ?_
    rintro e w' ⟨rfl, bx⟩
    clear c0 c1 c2 c3 c4 c5 c6 c7
    have RX := Lib.hid (RR.out.below bx hgl)
    obtain ⟨c0, c1, c2, c3, c4, c5, c6, c7⟩ := RX.out.eight
    rw [h1] at c6
    have BX := Lib.hid (show Below lo w w' from bx.mono (by omega))
    clear bx
    go_wp2
    go_ret
    exact ⟨rfl, BX.out, fun h => by omega⟩
  · rw [h1] at c6
    rw [hlen] at hkl
    obtain ⟨gb, pv, rfl, hbo⟩ := hA (by omega)
    have HF := Lib.hid (fun (W : World) => HP.out W true (by simp; omega))
    have HQ := Lib.hid (show ∀ W, Below w.heap.size w W → W.cell? ⟨gb, k * 4, none⟩ = some (.int .i64 (F.blk k).er) ∧ W.cell? ⟨gb, k * 4 + 1, none⟩ = some (.int .i64 (F.blk k).nx) ∧ W.cell? ⟨gb, k * 4 + 2, none⟩ = some (.bool (F.blk k).bad) from fun W b => by
      obtain ⟨q0, q1, q2, q3⟩ := (hbo.same (sm b lo hhi)).row k (by omega)
      exact ⟨q0, q1, q2⟩)
    have hki : (k : Int) < (n : Int) := by omega
    rw [h2] at HQ
    clear hA hRg hR hlen hbo
    go_enter Try.func38, Try.ntmps38
    go_wp2_with fail
    refine (HF.out _).mono ?_
    rintro e w' ⟨rfl, bx⟩
    clear c0 c1 c2 c3 c4 c5 c6 c7
    have RX := Lib.hid (RR.out.below bx hgl)
    obtain ⟨c0, c1, c2, c3, c4, c5, c6, c7⟩ := RX.out.eight
    rw [h1] at c6
    have BX := Lib.hid (show Below lo w w' from bx.mono (by omega))
    obtain ⟨q0, q1, q2⟩ := HQ.out _ bx
    go_wp2
    go_ret
    exact ⟨rfl, BX.out, fun h => by omega⟩
  · rw [h1] at c6
    rw [hlen] at hkl
    obtain ⟨gb, pv, rfl, hbo⟩ := hA (by omega)
    have HF := Lib.hid (fun (W : World) => HP.out W true (by simp; omega))
    have HQ := Lib.hid (show ∀ W, Below w.heap.size w W → W.cell? ⟨gb, k * 4, none⟩ = some (.int .i64 (F.blk k).er) ∧ W.cell? ⟨gb, k * 4 + 1, none⟩ = some (.int .i64 (F.blk k).nx) ∧ W.cell? ⟨gb, k * 4 + 2, none⟩ = some (.bool (F.blk k).bad) from fun W b => by
      obtain ⟨q0, q1, q2, q3⟩ := (hbo.same (sm b lo hhi)).row k (by omega)
      exact ⟨q0, q1, q2⟩)
    have hki : (k : Int) < (n : Int) := by omega
    rw [h2] at HQ
    generalize hnx : (F.blk k).nx = nx at *
    have hd : (nx != (m : Int)) = true := bne_iff_ne.2 h3
    clear hA hRg hR hlen hbo hnx h3
    go_enter Try.func38, Try.ntmps38
    go_wp2_with fail
    refine (HF.out _).mono ?_
    rintro e w' ⟨rfl, bx⟩
    clear c0 c1 c2 c3 c4 c5 c6 c7
    have RX := Lib.hid (RR.out.below bx hgl)
    obtain ⟨c0, c1, c2, c3, c4, c5, c6, c7⟩ := RX.out.eight
    rw [h1] at c6
    have BX := Lib.hid (show Below lo w w' from bx.mono (by omega))
    obtain ⟨q0, q1, q2⟩ := HQ.out _ bx
    go_wp2
    go_ret
    exact ⟨rfl, BX.out, fun h => by omega⟩
  · rw [h1] at c6
    rw [hlen] at hkl
    obtain ⟨gb, pv, rfl, hbo⟩ := hA (by omega)
    have HF := Lib.hid (fun (W : World) => HP.out W true (by simp; omega))
    have HQ := Lib.hid (show ∀ W, Below w.heap.size w W → W.cell? ⟨gb, k * 4, none⟩ = some (.int .i64 (F.blk k).er) ∧ W.cell? ⟨gb, k * 4 + 1, none⟩ = some (.int .i64 (F.blk k).nx) ∧ W.cell? ⟨gb, k * 4 + 2, none⟩ = some (.bool (F.blk k).bad) from fun W b => by
      obtain ⟨q0, q1, q2, q3⟩ := (hbo.same (sm b lo hhi)).row k (by omega)
      exact ⟨q0, q1, q2⟩)
    have hki : (k : Int) < (n : Int) := by omega
    rw [h2] at HQ
    have hpl := hok.plen (i := k) (by omega)
    have hbk := hok.2.2.1 k (by omega)
    have hS := Lib.hid (fun (W : World) (k : Rw W g 31 (flc F (.slice (some ⟨gb, 0, none⟩) n cap))) => start_any g F (.slice (some ⟨gb, 0, none⟩) n cap) W k hok.2.2.2.1)
    have hmu := Fl.much_ok hok
    have HD := Lib.hid (And.intro (prog_bs (F := F) (k := k) (raw := raw) (by omega) hr) (prog_flc F k raw (.slice (some ⟨gb, 0, none⟩) n cap)))
    have HBO := Lib.hid hbo
    have HLN := Lib.hid hlen
    have HPR := Lib.hid (fun (W : World) (o : BO W lo hi gb pv F.bs) (hh : hi ≤ W.heap.size) => blkProg_any W lo hi gb pv F.bs k raw F.much o (by omega) hh (by have := hbk.2.1; exact this.1) (by show (F.blk k).nx < ((F.blk k).pg.length : Int); omega) (by show (F.blk k).pg.length ≤ 16; omega) hr hmu)
    rw [h3] at HQ
    have hd : ((m : Int) != (m : Int)) = false := by simp
    have hcode : F.code = 0 ∨ F.code = 8 := by unfold Fl.code; split <;> simp
    have HLL := Lib.hid (show (F.bs.set k ((F.blk k).takes raw F.much)).length = n by rw [List.length_set]; exact hlen)
    generalize F.much = mu at *
    generalize F.code = co at *
    generalize F.prog k raw = G' at *
    clear hA hRg hR hlen hbo h3 hok hpl hbk hmu
    go_enter Try.func38, Try.ntmps38
    go_wp2_with fail
    refine (HF.out _).mono ?_
    rintro e w' ⟨rfl, bx⟩
    clear c0 c1 c2 c3 c4 c5 c6 c7
    have RX := Lib.hid (RR.out.below bx hgl)
    obtain ⟨c0, c1, c2, c3, c4, c5, c6, c7⟩ := RX.out.eight
    rw [h1] at c6
    have BX := Lib.hid (show Below lo w w' from bx.mono (by omega))
    obtain ⟨q0, q1, q2⟩ := HQ.out _ bx
    have hs1 := bx.size
    have OX := Lib.hid (HBO.out.same (sm bx lo hhi))
    clear bx
    go_wp2_with fail
    refine (hS.out _ RX.out).mono ?_
    rintro e w1 ⟨rfl, r1, gr1⟩
    have k3 : w1.cell? ⟨g, 3, none⟩ = some (.slice (some ⟨gb, 0, none⟩) n cap) := r1.cell 3
    have s1 := gr1.size
    have o1 := Lib.hid (OX.out.same (same_grown gr1 hg (by omega)))
    have hb1 := Lib.hid (grown_keep gr1 (B := lo) (by omega) (by omega))
    have R1 := Lib.hid r1
    clear r1 gr1 c0 c1 c2 c3 c4 c5 c6 c7 q0 q1 q2
    go_wp2_with fail
    refine (HPR.out w1 o1.out (by omega)).mono ?_
    rintro e w2 ⟨rfl, o2, k2⟩
    have O2 := Lib.hid o2
    have K2 := Lib.hid k2
    clear o2 k2 k3
    go_wp2
    go_ret
    refine ⟨rfl, BX.out.trans (hb1.out.trans K2.out.1), fun _ => ⟨?_, ?_⟩⟩
    · rw [HD.out.2]; exact R1.out.kept K2.out hg
    · exact ⟨_, n, cap, rfl, hlc, hcm, by rw [HD.out.1]; exact HLL.out, fun _ => ⟨gb, pv, rfl, by rw [HD.out.1]; exact O2.out⟩⟩
set_option maxRecDepth 100000 in
theorem outcome_any (w : World) (lo hi g : Nat) (G : Fl) (u : Value) (c : Int) (hgl : g < w.heap.size) (hG : (c = 0 ∨ c = 8) → Rw w g 31 (flc G u) ∧ BksOwn w lo hi u G.bs) (hi2 : hi ≤ w.heap.size) (hz : ¬ (c = 0 ∨ c = 8) → G = Fl.zero) :
    Calls Try.prog 39 #[.pointer (some ⟨g, 0, none⟩), .int .i64 c] w fun e w' => ∃ v, e = .returned (.tuple #[v, .int .i64 c]) ∧ FlOwn w' lo hi v G ∧ Below w.heap.size w w' := by
  have HZ := Lib.hid (Rw.new w 31 #[.int .i64 0, .int .i64 0, .int .i64 0, .slice none 0 0, .int .i64 0, .int .i64 0, .bool false, .int .i64 0])
  by_cases hc : c = 0 ∨ c = 8
  · obtain ⟨hR, hB⟩ := hG hc
    have hd : c = 0 ∨ (c == 0) = false ∧ (c == 8) = true := by rcases hc with rfl | rfl <;> simp
    have HB := Lib.hid hB
    obtain ⟨A, n, cap, rfl⟩ := hB.slice
    obtain ⟨c0, c1, c2, c3, c4, c5, c6, c7⟩ := (hR.alloc (.cells #[.int .i64 0, .int .i64 0, .int .i64 0, .slice none 0 0, .int .i64 0, .int .i64 0, .bool false, .int .i64 0] 31)).eight
    clear hB hR hc hG hz
    obtain ⟨d, b, p, bs, fu, ke, off, op⟩ := G
    simp only at *
    have fin : ∀ c : Int, ∃ v, Ending.returned (.tuple #[.agg #[.int .i64 d, .int .i64 b, .int .i64 p, .slice A n cap, .int .i64 fu, .int .i64 ke, .bool off, .int .i64 op], .int .i64 c]) = Ending.returned (Value.tuple #[v, .int .i64 c]) ∧
        FlOwn (w.alloc (.cells #[.int .i64 d, .int .i64 b, .int .i64 p, .slice A n cap, .int .i64 fu, .int .i64 ke, .bool off, .int .i64 op] 31)) lo hi v ⟨d, b, p, bs, fu, ke, off, op⟩ ∧
        Below w.heap.size w (w.alloc (.cells #[.int .i64 d, .int .i64 b, .int .i64 p, .slice A n cap, .int .i64 fu, .int .i64 ke, .bool off, .int .i64 op] 31)) := fun c =>
      ⟨_, rfl, ⟨_, rfl, HB.out.same (sm ((Below.refl w.heap.size w).alloc (Nat.le_refl _) _) lo hi2)⟩, (Below.refl w.heap.size w).alloc (Nat.le_refl _) _⟩
    have FIN := Lib.hid fin
    clear fin
    rcases hd with rfl | ⟨d1, d2⟩
    · go_enter Try.func39, Try.ntmps39
      go_wp2
      exact bodyPost_ret (results_row_tmp Try.results39 _ _ _ _ #[.int .i64 d, .int .i64 b, .int .i64 p, .slice A n cap, .int .i64 fu, .int .i64 ke, .bool off, .int .i64 op] _ _ rfl
        (Rw.new w 31 _) Try.underlying31 rfl infoFl8) rfl (FIN.out 0)
    · go_enter Try.func39, Try.ntmps39
      go_wp2
      exact bodyPost_ret (results_row_tmp Try.results39 _ _ _ _ #[.int .i64 d, .int .i64 b, .int .i64 p, .slice A n cap, .int .i64 fu, .int .i64 ke, .bool off, .int .i64 op] _ _ rfl
        (Rw.new w 31 _) Try.underlying31 rfl infoFl8) rfl (FIN.out c)
  · obtain rfl := hz hc
    have d1 : (c == 0) = false := by simp; exact fun e => hc (.inl e)
    have d2 : (c == 8) = false := by simp; exact fun e => hc (.inr e)
    clear hG hz hc
    go_enter Try.func39, Try.ntmps39
    go_wp2
    exact bodyPost_ret (results_row_tmp Try.results39 _ _ _ _ #[.int .i64 0, .int .i64 0, .int .i64 0, .slice none 0 0, .int .i64 0, .int .i64 0, .bool false, .int .i64 0] _ _ rfl
      HZ.out Try.underlying31 rfl infoFl8) rfl ⟨_, rfl, zeroOwn _ _ _, (Below.refl w.heap.size w).alloc (Nat.le_refl _) _⟩
theorem ProgEnds.codes {F : Fl} {block page : Int} {raw : ByteArray} {G : Fl} {c : Int} (h : ProgEnds F block page raw G c) (hn : ¬ (c = 0 ∨ c = 8)) : G = Fl.zero := by
  rcases h with _ | _ | _ | _ | _ | _
  · rfl
  · exact absurd (.inr rfl) hn
  · rfl
  · rfl
  · rfl
  · exact absurd (by unfold Fl.code; split <;> simp) hn
set_option maxHeartbeats 1000000 in
theorem implProg_any (v : Value) (block page : Int) (raw : ByteArray) (F G : Fl) (c : Int) (w : World) (lo hi : Nat) (h : FlIn w lo hi v F) (hh : hi ≤ w.heap.size) (hG : ProgEnds F block page raw G c) (hl : FlLen F) (hraw : raw.size ≤ 9223372036854775807) :
    Calls Try.prog 11 #[v, .int .i64 block, .int .i64 page, .string raw] w (FlPost G c w) := by
  obtain ⟨r, hr⟩ := prop_dec (FlOk F)
  obtain ⟨u, rfl, hb⟩ := h
  have hv : ∀ W : World, BksIn W lo hi u F.bs → FlIn W lo hi (.agg (flc F u)) F := fun W a => ⟨u, rfl, a⟩
  have HV := Lib.hid (fun (W : World) (a : BksIn W lo hi u F.bs) (c : hi ≤ W.heap.size) => implValid_any (.agg (flc F u)) F r W lo hi (hv W a) c hr hl)
  have HO := Lib.hid (fun (hok : FlOk F) (W : World) (a : BksIn W lo hi u F.bs) (c : hi ≤ W.heap.size) => clone_any (.agg (flc F u)) F W lo hi (hv W a) c hok)
  have HPG := Lib.hid (fun (hok : FlOk F) (hr : raw.size = 91) (W : World) (u2 : Value) (lo hi g : Nat) (a : Rw W g 31 (flc F u2)) (b : BksOwn W lo hi u2 F.bs) (c1 : hi ≤ g) (c2 : lo ≤ hi) => flProg_any W lo hi g F G u2 block page raw c a b c1 c2 hok hr hG)
  have HC := Lib.hid hG.codes
  have HOU := Lib.hid (fun (W : World) (lo hi g : Nat) (u2 : Value) (a : g < W.heap.size) (b : (c = 0 ∨ c = 8) → Rw W g 31 (flc G u2) ∧ BksOwn W lo hi u2 G.bs) (d : hi ≤ W.heap.size) => outcome_any W lo hi g G u2 c a b d HC.out)
  have H := Lib.hid hb
  obtain ⟨Au, nu, cu, rfl⟩ := hb.slice
  have HF1 := Lib.hid (show ¬ (FlOk F ∧ raw.size = 91) → G = Fl.zero ∧ c = 1 from fun hn => by
    rcases hG with _ | ⟨a, b, _⟩ | ⟨a, b, _⟩ | ⟨a, b, _⟩ | ⟨a, b, _⟩ | ⟨a, b, _⟩
    · exact ⟨rfl, rfl⟩
    all_goals exact absurd ⟨a, b⟩ hn)
  clear hb hv hl hG
  obtain ⟨FF, hFF⟩ : ∃ X, X = F := ⟨_, rfl⟩
  have hFl : flc F (.slice Au nu cu) = #[.int .i64 F.d, .int .i64 F.b, .int .i64 F.p, .slice Au nu cu, .int .i64 F.fu, .int .i64 F.ke, .bool F.off, .int .i64 F.op] := rfl
  have hFo : ∀ u, flc F u = #[.int .i64 F.d, .int .i64 F.b, .int .i64 F.p, u, .int .i64 F.fu, .int .i64 F.ke, .bool F.off, .int .i64 F.op] := fun u => rfl
  rw [hFl] at HV HO ⊢
  have HFO := Lib.hid hFo
  clear hFl hFo hFF
  generalize F.d = d at *
  generalize F.b = b at *
  generalize F.p = p at *
  generalize F.fu = fu at *
  generalize F.ke = ke at *
  generalize F.off = off at *
  generalize F.op = op at *
  obtain ⟨r0, r1, b0⟩ := Rw.two_new w 31 31 #[.int .i64 d, .int .i64 b, .int .i64 p, .slice Au nu cu, .int .i64 fu, .int .i64 ke, .bool off, .int .i64 op]
    #[.int .i64 0, .int .i64 0, .int .i64 0, .slice none 0 0, .int .i64 0, .int .i64 0, .bool false, .int .i64 0]
  have R0 := Lib.hid r0
  have R1 := Lib.hid r1
  have B0 := Lib.hid b0
  clear r0 r1 b0
  go_enter Try.func11, Try.ntmps11
  go_wp2_with fail
  refine (HV.out _ (H.out.same (sm B0.out lo hh)) (by simp; omega)).mono ?_
  rintro e w1 ⟨rfl, b1⟩
  have S0 := Lib.hid (R0.out.below b1 (by simp; omega))
  have S1 := Lib.hid (R1.out.below b1 (by simp))
  have B1 := Lib.hid (B0.out.trans (b1.mono (by simp; omega)))
  have hsz1 := b1.size
  simp only [World.size_alloc] at hsz1
  clear b1
  by_cases hbad : FlOk F ∧ raw.size = 91
  case neg =>
    obtain ⟨rfl, rfl⟩ := HF1.out hbad
    obtain ⟨z0, z1, z2, z3, z4, z5, z6, z7⟩ := S1.out.eight
    obtain ⟨fz0, fz1, fz2, fz3, fz4, fz5, fz6, fz7⟩ := S1.out.frees
    have ZERO : Hid (∀ c : Int, FlPost Fl.zero c w (.returned (.tuple #[.agg #[.int .i64 0, .int .i64 0, .int .i64 0, .slice none 0 0, .int .i64 0, .int .i64 0, .bool false, .int .i64 0], .int .i64 c])) ((((((((w1.setCell ⟨w.heap.size + 1, 0, none⟩ (.int .i64 0)).setCell ⟨w.heap.size + 1, 1, none⟩ (.int .i64 0)).setCell ⟨w.heap.size + 1, 2, none⟩ (.int .i64 0)).setCell ⟨w.heap.size + 1, 3, none⟩ (.slice none 0 0)).setCell ⟨w.heap.size + 1, 4, none⟩ (.int .i64 0)).setCell ⟨w.heap.size + 1, 5, none⟩ (.int .i64 0)).setCell ⟨w.heap.size + 1, 6, none⟩ (.bool false)).setCell ⟨w.heap.size + 1, 7, none⟩ (.int .i64 0))) := Lib.hid (fun c => by
      refine ⟨_, rfl, zeroOwn _ _ _, ?_⟩
      repeat refine bset ?_ (by omega) _
      exact B1.out)
    clear HO HPG HC HOU HF1
    by_cases hok : FlOk F
    · obtain rfl : r = true := hr.2 hok
      have hne : ((raw.size : Int) != 91) = true := by simp; exact fun e => hbad ⟨hok, by omega⟩
      clear hr hok hbad
      go_wp2
      exact bodyPost_ret (results_row_tmp Try.results11 _ _ _ _ #[.int .i64 0, .int .i64 0, .int .i64 0, .slice none 0 0, .int .i64 0, .int .i64 0, .bool false, .int .i64 0] _ _ rfl
        (S1.out.put8 _ _ _ _ _ _ _ _) Try.underlying31 rfl infoFl8) rfl (ZERO.out 1)
    · obtain rfl : r = false := (bool_of r hr).2 hok
      clear hr hok hbad
      go_wp2
      exact bodyPost_ret (results_row_tmp Try.results11 _ _ _ _ #[.int .i64 0, .int .i64 0, .int .i64 0, .slice none 0 0, .int .i64 0, .int .i64 0, .bool false, .int .i64 0] _ _ rfl
        (S1.out.put8 _ _ _ _ _ _ _ _) Try.underlying31 rfl infoFl8) rfl (ZERO.out 1)
  obtain ⟨hok, hrs⟩ := hbad
  obtain rfl : r = true := hr.2 hok
  have hne : ((raw.size : Int) != 91) = false := by rw [hrs]; rfl
  have HO2 := Lib.hid (HO.out hok)
  have HPG2 := Lib.hid (HPG.out hok hrs)
  obtain ⟨a0, a1, a2, a3, a4, a5, a6, a7⟩ := S0.out.eight
  clear hr hok HO HPG HC HF1 hrs
  go_wp2_with fail
  refine (HO2.out _ (H.out.same (sm B1.out lo hh)) (by omega)).mono ?_
  rintro e w2 ⟨u2, rfl, ho, b2⟩
  obtain ⟨uu, rfl, ho⟩ := ho
  obtain ⟨A2, n2, c2, rfl⟩ := ho.slice
  have T1 := Lib.hid (S1.out.below b2 (by omega))
  have B2 := Lib.hid (B1.out.trans (b2.mono (by omega)))
  have HO3 := Lib.hid ho
  have hsz2 := b2.size
  rw [HFO.out]
  have L3 := Lib.hid (Rw.new w2 31 #[.int .i64 d, .int .i64 b, .int .i64 p, .slice A2 n2 c2, .int .i64 fu, .int .i64 ke, .bool off, .int .i64 op])
  have AL := Lib.hid ((Below.refl w2.heap.size w2).alloc (Nat.le_refl _) (.cells #[.int .i64 d, .int .i64 b, .int .i64 p, .slice A2 n2 c2, .int .i64 fu, .int .i64 ke, .bool off, .int .i64 op] 31))
  clear a0 a1 a2 a3 a4 a5 a6 a7 b2 ho
  go_wp2_with fail
  refine (HPG2.out _ (.slice A2 n2 c2) w1.heap.size w2.heap.size w2.heap.size (by rw [HFO.out]; exact L3.out) (HO3.out.same (sm AL.out _ (Nat.le_refl _))) (Nat.le_refl _) hsz2).mono ?_
  rintro e w3 ⟨rfl, b3, hx3⟩
  have b3' : Below w1.heap.size w2 w3 := (AL.out.mono hsz2).trans b3
  have T3 := Lib.hid (T1.out.below b3' (by omega))
  have B3 := Lib.hid (B2.out.trans (b3'.mono (by omega)))
  have s3 := b3.size
  simp only [World.size_alloc] at s3
  have HX := Lib.hid hx3
  clear b3 b3' hx3
  go_wp2_with fail
  refine (HOU.out _ w1.heap.size w2.heap.size w2.heap.size (.slice A2 n2 c2) (by omega) HX.out (by omega)).mono ?_
  rintro e w4 ⟨v4, rfl, ho4, b4⟩
  obtain ⟨uv, rfl, hov⟩ := ho4
  obtain ⟨A4, n4, c4, rfl⟩ := hov.slice
  have T4 := Lib.hid (T3.out.below b4 (by omega))
  have B4 := Lib.hid (B3.out.trans (b4.mono (by omega)))
  have HO4 := Lib.hid hov
  have s4 := b4.size
  clear b4 hov HX HOU AL L3
  obtain ⟨z0, z1, z2, z3, z4, z5, z6, z7⟩ := T4.out.eight
  obtain ⟨fz0, fz1, fz2, fz3, fz4, fz5, fz6, fz7⟩ := T4.out.frees
  obtain ⟨gd, gb, gp, gbs, gfu, gke, goff, gop⟩ := G
  unfold flc
  simp only
  go_wp2
  refine bodyPost_ret (results_row_tmp Try.results11 _ _ _ _ #[.int .i64 gd, .int .i64 gb, .int .i64 gp, .slice A4 n4 c4, .int .i64 gfu, .int .i64 gke, .bool goff, .int .i64 gop] _ _ rfl
    (T4.out.put8 _ _ _ _ _ _ _ _) Try.underlying31 rfl infoFl8) rfl ?_
  refine ⟨_, rfl, ⟨_, rfl, (HO4.out.same ?_).wide (by omega) (by simp; omega)⟩, ?_⟩
  · repeat refine sset ?_ (.inl (by omega)) _
    exact Same.refl _ _ _
  · repeat refine bset ?_ (by omega) _
    exact B4.out
end Go.Proofs.Yteigdjocjcjkiaa
/- Programming a page, by the model: the contracts. -/
namespace Go.Proofs.Yteigdjocjcjkiaa
open Go.RowKit
set_option linter.unusedVariables false
theorem same_drew (lo hi : Nat) (w : World) : Same lo hi w w.drew := fun _ _ _ => rfl
theorem Keep.drew {lo hi : Nat} {w w' : World} (h : Keep lo hi w w') : Keep lo hi w w'.drew := ⟨h.1.drew, fun j a b => h.2 j a b⟩
theorem spBlock_any (d b p fu ke op : Int) (off : Bool) (A : Option Addr) (n c : Nat) (block : Int) (r : Bool) (w : World) (hn : n ≤ 1000) (hr : r = true ↔ (0 ≤ block ∧ block < (n : Int))) :
    Calls Try.prog 63 #[.agg #[.int .i64 d, .int .i64 b, .int .i64 p, .slice A n c, .int .i64 fu, .int .i64 ke, .bool off, .int .i64 op], .int .i64 block] w fun e w' => e = .returned (.bool r) ∧ Below w.heap.size w w' := by
  have hni : (n : Int) ≤ 1000 := by omega
  have HI := Lib.hid (fun (W : World) => inr_any block 0 ((n : Int) - 1) W)
  have HB := Lib.hid ((Below.refl w.heap.size w).alloc (Nat.le_refl _) (.cells #[.int .i64 d, .int .i64 b, .int .i64 p, .slice A n c, .int .i64 fu, .int .i64 ke, .bool off, .int .i64 op] 31))
  go_enter Try.func63, Try.ntmps63
  go_wp2_with fail
  refine (HI.out _).mono ?_
  rintro e w' ⟨rfl, rfl⟩
  go_wp2
  go_ret
  exact ⟨ret_bool (by rw [Bool.eq_iff_iff, hr]; simp; omega), HB.out⟩
theorem spPage_any (d b p fu ke op : Int) (off : Bool) (A : Option Addr) (n c : Nat) (block page : Int) (r : Bool) (w : World) (hn : n ≤ 1000) (hp : 0 ≤ p ∧ p ≤ 1000) (hr : r = true ↔ ((0 ≤ block ∧ block < (n : Int)) ∧ (0 ≤ page ∧ page < p))) :
    Calls Try.prog 32 #[.agg #[.int .i64 d, .int .i64 b, .int .i64 p, .slice A n c, .int .i64 fu, .int .i64 ke, .bool off, .int .i64 op], .int .i64 block, .int .i64 page] w fun e w' => e = .returned (.bool r) ∧ Below w.heap.size w w' := by
  have HI := Lib.hid (fun (W : World) => inr_any page 0 (p - 1) W)
  have HB := Lib.hid ((Below.refl w.heap.size w).alloc (Nat.le_refl _) (.cells #[.int .i64 d, .int .i64 b, .int .i64 p, .slice A n c, .int .i64 fu, .int .i64 ke, .bool off, .int .i64 op] 31))
  have R0 := Lib.hid (Rw.new w 31 #[.int .i64 d, .int .i64 b, .int .i64 p, .slice A n c, .int .i64 fu, .int .i64 ke, .bool off, .int .i64 op])
  by_cases hb : 0 ≤ block ∧ block < (n : Int)
  · have HK := Lib.hid (fun (W : World) => spBlock_any d b p fu ke op off A n c block true W hn (by simp [hb]))
    go_enter Try.func32, Try.ntmps32
    go_wp2_with fail
    refine (HK.out _).mono ?_
    rintro e w1 ⟨rfl, b1⟩
    have HB1 := Lib.hid (HB.out.trans (b1.mono (by simp)))
    obtain ⟨a0, a1, a2, a3, a4, a5, a6, a7⟩ := (R0.out.below b1 (by simp)).eight
    clear b1
    go_wp2_with fail
    refine (HI.out _).mono ?_
    rintro e w' ⟨rfl, rfl⟩
    go_wp2
    go_ret
    exact ⟨ret_bool (by rw [Bool.eq_iff_iff, hr]; simp [hb]; omega), HB1.out⟩
  · have HK := Lib.hid (fun (W : World) => spBlock_any d b p fu ke op off A n c block false W hn (by simp [hb]))
    go_enter Try.func32, Try.ntmps32
    go_wp2_with fail
    refine (HK.out _).mono ?_
    rintro e w1 ⟨rfl, b1⟩
    have HB1 := Lib.hid (HB.out.trans (b1.mono (by simp)))
    clear b1
    go_wp2
    go_ret
    exact ⟨ret_bool (by rw [Bool.eq_iff_iff, hr]; simp [hb]), HB1.out⟩
set_option maxRecDepth 100000 in
theorem spProg_any (w : World) (lo hi g : Nat) (F : Fl) (u : Value) (k : Nat) (raw : ByteArray) (hR : Rw w g 31 (flc F u)) (hB : BksOwn w lo hi u F.bs) (hg : hi ≤ g) (hlo : lo ≤ hi) (hok : FlOk F) (hr : raw.size = 91)
    (hk : k < F.bs.length) (hnx : (F.blk k).nx < F.p) :
    Calls Try.prog 33 #[.pointer (some ⟨g, 0, none⟩), .int .i64 k, .string raw] w (InPost lo hi g u (F.prog k raw) F.code w) := by
  have hn8 := hok.len
  have hRg := hR
  obtain ⟨A, n, cap, rfl, hlc, hcm, hlen, hA⟩ := hB
  rw [hlen] at hn8
  have hnm : (n : Int) ≤ 36 := by omega
  obtain ⟨gb, pv, rfl, hbo⟩ := hA (by omega)
  have hgl := hR.lt
  have hpl := hok.plen (i := k) (by omega)
  have hbk := hok.2.2.1 k (by omega)
  have hki : (k : Int) < (n : Int) := by omega
  have hS := Lib.hid (tick_any g F (.slice (some ⟨gb, 0, none⟩) n cap) w hRg hok.2.2.2.1)
  obtain ⟨c0, c1, c2, c3, c4, c5, c6, c7⟩ := hR.eight
  have HD := Lib.hid (And.intro (prog_bs (F := F) (k := k) (raw := raw) (by omega) hr) (prog_flc F k raw (.slice (some ⟨gb, 0, none⟩) n cap)))
  have HLL := Lib.hid (show (F.bs.set k ((F.blk k).takes raw F.much)).length = n by rw [List.length_set]; exact hlen)
  have HBO := Lib.hid (hbo.self (k := k) (by omega))
  have HK := Lib.hid hk
  obtain ⟨b, off, pcap, hv, hv1, hv2⟩ := hbo.somePg (k := k) (by omega) (by show 0 < (F.blk k).pg.length; omega)
  have HV := Lib.hid hv
  have hke := hok.2.2.2.2.1
  have hlow := hbo.low
  have hhigh := hbo.high
  obtain ⟨hn0, hn1⟩ := hbk.2.1
  change Hid (BO w lo hi gb pv (F.bs.set k (F.blk k))) at HBO
  change (F.blk k).pg.length ≤ pcap at hv1
  change Hid (pv k = .slice (some ⟨b, off, none⟩) (F.blk k).pg.length pcap) at HV
  have HTK := Lib.hid (show F.tick.ke = F.ke from rfl)
  clear hA hR hRg hlen hbo hv hok hbk
  by_cases hf : F.fu = 0
  · rw [show decide (F.fu = 0) = true by simp [hf]] at hS
    have hmu : F.much = F.ke := by unfold Fl.much; rw [if_pos hf]
    have hco : F.code = 8 := by unfold Fl.code; rw [if_pos hf]
    rw [hco]
    rw [hmu] at HD HLL
    have hxx : ∀ u, (flc F.tick u)[5]? = some (.int .i64 F.ke) := fun u => rfl
    have HXX := Lib.hid hxx
    generalize F.prog k raw = G' at *
    generalize F.blk k = y at *
    generalize F.ke = ke at *
    obtain ⟨er, nx, bad, pg⟩ := y
    simp only at hpl hnx hn0 hn1 hv1 HV
    obtain ⟨p, rfl⟩ := Int.eq_ofNat_of_zero_le hn0
    obtain ⟨P, hP⟩ : ∃ P, P = pg.length := ⟨_, rfl⟩
    rw [← hP] at hpl hv1 HV
    have hpP : (p : Int) < (P : Int) := by omega
    have hP16 : (P : Int) ≤ 16 := by omega
    clear hpl
    obtain ⟨kk, rfl⟩ := Int.eq_ofNat_of_zero_le hke.1
    have hk91 : kk ≤ 91 := by omega
    clear hf hco hP hnx hn1 hmu hxx hke HTK
    by_cases hz : kk = 0
    · subst hz
      go_enter Try.func33, Try.ntmps33
      go_wp2_with fail
      refine hS.out.mono ?_
      rintro e w1 ⟨rfl, r1, gr1⟩
      have k3 : w1.cell? ⟨g, 3, none⟩ = some (.slice (some ⟨gb, 0, none⟩) n cap) := r1.cell 3
      have k5 : w1.cell? ⟨g, 5, none⟩ = some (.int .i64 ((0 : Nat) : Int)) := (r1.cell 5).trans (HXX.out _)
      have s1 := gr1.size
      have O1 := Lib.hid (HBO.out.same (same_grown gr1 hg (by omega)))
      have hb1 := Lib.hid (grown_keep gr1 (B := lo) (by omega) (by omega))
      have R1 := Lib.hid r1
      clear r1 gr1 c0 c1 c2 c3 c4 c5 c6 c7
      go_wp2
      go_ret
      refine ⟨rfl, hb1.out, fun _ => ⟨?_, ?_⟩⟩
      · rw [HD.out.2]; exact R1.out
      · exact ⟨_, n, cap, rfl, hlc, hcm, by rw [HD.out.1]; exact HLL.out, fun _ => ⟨gb, pv, rfl, by rw [HD.out.1]; exact O1.out⟩⟩
    · have hz' : (((kk : Int)) == 0) = false := by simp; omega
      have HTO := Lib.hid (fun (W : World) => torn_any raw kk W hr hk91)
      have HTS := Lib.hid (tornB_size (k := kk) hr hk91)
      generalize htt : tornB raw kk = t at *
      have HTT := Lib.hid htt
      clear htt
      have hd := Lib.hid (fun (W : World) => specDestroyed_any W)
      go_enter Try.func33, Try.ntmps33
      go_wp2_with fail
      refine hS.out.mono ?_
      rintro e w1 ⟨rfl, r1, gr1⟩
      have k3 : w1.cell? ⟨g, 3, none⟩ = some (.slice (some ⟨gb, 0, none⟩) n cap) := r1.cell 3
      have k5 : w1.cell? ⟨g, 5, none⟩ = some (.int .i64 (kk : Int)) := (r1.cell 5).trans (HXX.out _)
      have s1 := gr1.size
      have O1 := Lib.hid (HBO.out.same (same_grown gr1 hg (by omega)))
      have hb1 := Lib.hid (grown_keep gr1 (B := lo) (by omega) (by omega))
      have R1 := Lib.hid r1
      obtain ⟨q0, q1, q2, q3⟩ := O1.out.cells HK.out
      rw [HV.out] at q3
      simp only at q0 q1 q2
      obtain ⟨e0, e1, e2, e3, e4⟩ := O1.out.pageS HK.out HV.out (t := p) (by omega)
      have hbg : b ≠ g := by omega
      clear r1 gr1 c0 c1 c2 c3 c4 c5 c6 c7
      go_wp2
      go_region_held3 (fun W => W.cell? ⟨gb, k * 4 + 3, none⟩ = some (.slice (some ⟨b, off, none⟩) P pcap) ∧ W.cell? ⟨gb, k * 4 + 1, none⟩ = some (.int .i64 (p : Int)) ∧ W.cell? ⟨g, 5, none⟩ = some (.int .i64 (kk : Int)))
        (first
          | exact ⟨q3, q1, k5⟩
          | exact ⟨q3', q1', k5'⟩
          | exact ⟨(World.cell?_setCell_other _ _ _ _ (addr_ne fun e => absurd e e4)).trans q3', (World.cell?_setCell_other _ _ _ _ (addr_ne fun e => absurd e e4)).trans q1', (World.cell?_setCell_other _ _ _ _ (addr_ne fun e => absurd e hbg)).trans k5'⟩)
        (first
          | (go_at_call 65
             refine (HTO.out _).mono ?_
             rintro e w2 ⟨rfl, hb0⟩
             have hb2 : Below w1.heap.size w1 w2 := (Below.refl w1.heap.size w1).drew.trans hb0
             have e0' := (hb2.cell (p := ⟨b, off + p, none⟩) (by show b < _; omega)).trans e0
             have e1' := (hb2.frozen (p := ⟨b, off + p, none⟩) (by show b < _; omega)).trans e1
             have q3' := (hb2.cell (p := ⟨gb, k * 4 + 3, none⟩) (by show gb < _; omega)).trans q3
             have q1' := (hb2.cell (p := ⟨gb, k * 4 + 1, none⟩) (by show gb < _; omega)).trans q1
             have k5' := (hb2.cell (p := ⟨g, 5, none⟩) (by show g < _; omega)).trans k5))
      have O2 := Lib.hid ((O1.out.same (sm hb2 lo (by omega))).storePgS HK.out HV.out (t := p) (by omega) t (by have := HTS.out; omega))
      have K2 := Lib.hid (((Keep.refl lo hi w1).call hb2 (by omega)).set_ (g := b) (k := off + p) e2 e3 (.string t))
      have k5x := (K2.out.2 g hg R1.out.lt)
      have R2 := Lib.hid (R1.out.kept K2.out hg)
      generalize w2.setCell ⟨b, off + p, none⟩ (.string t) = w3 at *
      have k5 : w3.cell? ⟨g, 5, none⟩ = some (.int .i64 (kk : Int)) := (R2.out.cell 5).trans (HXX.out _)
      obtain ⟨u0, u1, u2, u3⟩ := O2.out.cells HK.out
      simp only [Blk.pages] at u1
      rw [HV.out] at u3
      have v1 := O2.out.free (k * 4 + 1)
      clear q0 q1 q2 q3 k3 e0 e1 u0 u2 e0' e1' q3' q1' k5' k5x
      by_cases hodd : kk < 91 ∧ p % 2 = 1
      · obtain ⟨hk9, hp2⟩ := hodd
        have hk9i : (kk : Int) < 91 := by omega
        have hp2i : (p : Int) % 2 = 1 := by omega
        obtain ⟨m, hm⟩ : ∃ m, m = p - 1 := ⟨_, rfl⟩
        obtain ⟨e0, e1, e2', e3', _⟩ := O2.out.pageS HK.out HV.out (t := m) (by omega)
        have i2 : (m : Int) < (P : Int) := by omega
        have i4 : IntKind.i64.wrap ((p : Int) - 1) = (m : Int) := by rw [IntWalk.i64_in _ (by omega)]; omega
        have HM := Lib.hid hm
        have s3 := K2.out.size
        clear hm
        go_wp2
        go_region_held3 (fun W => W.cell? ⟨gb, k * 4 + 3, none⟩ = some (.slice (some ⟨b, off, none⟩) P pcap) ∧ W.cell? ⟨gb, k * 4 + 1, none⟩ = some (.int .i64 (p : Int)))
          (first
            | exact ⟨u3, u1⟩
            | exact ⟨u3', u1'⟩
            | exact ⟨(World.cell?_setCell_other _ _ _ _ (addr_ne fun e => absurd e e4)).trans u3', (World.cell?_setCell_other _ _ _ _ (addr_ne fun e => absurd e e4)).trans u1'⟩)
          (first
            | (go_at_call 66
               refine (hd.out _).mono ?_
               rintro e w4 ⟨rfl, hb0⟩
               have hb4 : Below w3.heap.size w3 w4 := (Below.refl w3.heap.size w3).drew.trans hb0
               have e0' := (hb4.cell (p := ⟨b, off + m, none⟩) (by show b < _; omega)).trans e0
               have e1' := (hb4.frozen (p := ⟨b, off + m, none⟩) (by show b < _; omega)).trans e1
               have u3' := (hb4.cell (p := ⟨gb, k * 4 + 3, none⟩) (by show gb < _; omega)).trans u3
               have u1' := (hb4.cell (p := ⟨gb, k * 4 + 1, none⟩) (by show gb < _; omega)).trans u1))
        have O4 := Lib.hid ((O2.out.same (sm hb4 lo (by omega))).storePgS HK.out HV.out (t := m) (by omega) (fillB 0 91) (by rw [fillB_size]; omega))
        have K4 := Lib.hid ((K2.out.call hb4 (by omega)).set_ (g := b) (k := off + m) e2 e3 (.string (fillB 0 91)))
        generalize w4.setCell ⟨b, off + m, none⟩ (.string (fillB 0 91)) = w5 at *
        obtain ⟨t0, t1, t2, t3⟩ := O4.out.cells HK.out
        simp only [Blk.pages] at t1
        have x1 := O4.out.free (k * 4 + 1)
        clear u1 u3 v1 e0 e1 e0' e1' u3' u1' t0 t2 t3
        go_wp2
        go_ret
        have O5 := O4.out.storeS (c := 1) HK.out (.int .i64 ((p : Int) + 1)) (.inr (.inl ⟨rfl, _, rfl⟩))
        have K5 := K4.out.set_ (g := gb) (k := k * 4 + 1) hlow hhigh (.int .i64 ((p : Int) + 1))
        have e9 : Blk.takes ⟨er, (p : Int), bad, pg⟩ raw (kk : Int) = (((Blk.mk er (p : Int) bad pg).pages (pg.set p t)).pages ((pg.set p t).set m (fillB 0 91))).put 1 (.int .i64 ((p : Int) + 1)) := by
          unfold Blk.takes Blk.torn
          rw [if_neg (by omega)]
          rw [if_pos ⟨by simp only [Int.toNat_natCast]; exact hp2, hk9i⟩]
          simp only [Int.toNat_natCast] at *
          rw [HTT.out, ← HM.out, List.set_comm _ _ (by have := HM.out; omega)]; rfl
        refine ⟨rfl, hb1.out.trans K5.1, fun _ => ⟨?_, ?_⟩⟩
        · rw [HD.out.2]; exact R1.out.kept K5 hg
        · exact ⟨_, n, cap, rfl, hlc, hcm, by rw [HD.out.1]; exact HLL.out, fun _ => ⟨gb, pv, rfl, by rw [HD.out.1, e9]; exact O5⟩⟩
      · have e9 : Blk.takes ⟨er, (p : Int), bad, pg⟩ raw (kk : Int) = ((Blk.mk er (p : Int) bad pg).pages (pg.set p t)).put 1 (.int .i64 ((p : Int) + 1)) := by
          unfold Blk.takes Blk.torn
          rw [if_neg (by omega)]
          rw [if_neg (fun hc => hodd ⟨by have := hc.2; omega, by have := hc.1; simp only [Int.toNat_natCast] at this; exact this⟩)]
          simp only [Int.toNat_natCast] at *
          rw [HTT.out]; rfl
        have HE9 := Lib.hid e9
        have O5 := Lib.hid (O2.out.storeS (c := 1) HK.out (.int .i64 ((p : Int) + 1)) (.inr (.inl ⟨rfl, _, rfl⟩)))
        have K5 := Lib.hid (K2.out.set_ (g := gb) (k := k * 4 + 1) hlow hhigh (.int .i64 ((p : Int) + 1)))
        have FIN : Hid (InPost lo hi g (.slice (some ⟨gb, 0, none⟩) n cap) G' 8 w (.returned (.int .i64 8)) (w3.setCell ⟨gb, k * 4 + 1, none⟩ (.int .i64 ((p : Int) + 1)))) := Lib.hid (by
          refine ⟨rfl, hb1.out.trans K5.out.1, fun _ => ⟨?_, ?_⟩⟩
          · rw [HD.out.2]; exact R1.out.kept K5.out hg
          · exact ⟨_, n, cap, rfl, hlc, hcm, by rw [HD.out.1]; exact HLL.out, fun _ => ⟨gb, pv, rfl, by rw [HD.out.1, HE9.out]; exact O5.out⟩⟩)
        clear e9 HE9 O5 K5
        by_cases hp2 : p % 2 = 1
        · have hp2i : (p : Int) % 2 = 1 := by omega
          have hk9i : ¬ (kk : Int) < 91 := by intro a; exact hodd ⟨by omega, hp2⟩
          clear hodd
          go_wp2
          go_ret
          exact FIN.out
        · have hp2i : ((p : Int) % 2 == 1) = false := by simp; omega
          clear hodd
          go_wp2
          go_ret
          exact FIN.out
  · rw [show decide (F.fu = 0) = false by simp [hf]] at hS
    have HTT := Lib.hid (show (F.blk k).takes raw F.much = (F.blk k).prog raw from by unfold Blk.takes Fl.much; rw [if_neg hf, if_neg (by decide), Blk.torn_whole hr])
    have hco : F.code = 0 := by unfold Fl.code; rw [if_neg hf]
    rw [hco]
    rw [HTT.out] at HD HLL
    generalize F.prog k raw = G' at *
    generalize F.blk k = y at *
    obtain ⟨er, nx, bad, pg⟩ := y
    simp only at hpl hnx hn0 hn1 hv1 HV
    obtain ⟨p, rfl⟩ := Int.eq_ofNat_of_zero_le hn0
    obtain ⟨P, hP⟩ : ∃ P, P = pg.length := ⟨_, rfl⟩
    rw [← hP] at hpl hv1 HV
    have hpP : (p : Int) < (P : Int) := by omega
    have hP16 : (P : Int) ≤ 16 := by omega
    clear hpl
    clear hf hco hP hnx hn1
    go_enter Try.func33, Try.ntmps33
    go_wp2_with fail
    refine hS.out.mono ?_
    rintro e w1 ⟨rfl, r1, gr1⟩
    have k3 : w1.cell? ⟨g, 3, none⟩ = some (.slice (some ⟨gb, 0, none⟩) n cap) := r1.cell 3
    have s1 := gr1.size
    have O1 := Lib.hid (HBO.out.same (same_grown gr1 hg (by omega)))
    have hb1 := Lib.hid (grown_keep gr1 (B := lo) (by omega) (by omega))
    have R1 := Lib.hid r1
    obtain ⟨q0, q1, q2, q3⟩ := O1.out.cells HK.out
    rw [HV.out] at q3
    simp only at q0 q1 q2
    obtain ⟨e0, e1, e2, e3, e4⟩ := O1.out.pageS HK.out HV.out (t := p) (by omega)
    clear r1 gr1 c0 c1 c2 c3 c4 c5 c6 c7
    go_wp2
    go_region
    have O2 := Lib.hid ((O1.out.storePgS HK.out HV.out (t := p) (by omega) raw (by omega)).same (same_drew lo hi _))
    have K2 := Lib.hid ((Keep.refl lo hi w1).set_ (g := b) (k := off + p) e2 e3 (.string raw)).drew
    generalize (w1.setCell ⟨b, off + p, none⟩ (.string raw)).drew = w2 at *
    obtain ⟨u0, u1, u2, u3⟩ := O2.out.cells HK.out
    simp only [Blk.pages] at u1
    have v1 := O2.out.free (k * 4 + 1)
    clear q0 q1 q2 q3 k3 e0 e1 u0 u2 u3
    go_wp2
    go_ret
    have O3 := O2.out.storeS (c := 1) HK.out (.int .i64 ((p : Int) + 1)) (.inr (.inl ⟨rfl, _, rfl⟩))
    have K3 := K2.out.set_ (g := gb) (k := k * 4 + 1) hlow hhigh (.int .i64 ((p : Int) + 1))
    refine ⟨rfl, hb1.out.trans K3.1, fun _ => ⟨?_, ?_⟩⟩
    · rw [HD.out.2]; exact R1.out.kept K3 hg
    · exact ⟨_, n, cap, rfl, hlc, hcm, by rw [HD.out.1]; exact HLL.out, fun _ => ⟨gb, pv, rfl, by rw [HD.out.1]; exact O3⟩⟩
end Go.Proofs.Yteigdjocjcjkiaa
/- Erasing a block, in the model and in the program: the contracts. -/
namespace Go.Proofs.Yteigdjocjcjkiaa
open Go.RowKit
set_option linter.unusedVariables false
theorem emptied_zero (l : List ByteArray) : emptied l 0 = l := by simp [emptied]
theorem emptied_step (l : List ByteArray) (t : Nat) (h : t < l.length) : (emptied l t).set t ByteArray.empty = emptied l (t + 1) := by
  unfold emptied
  rw [Nat.min_eq_left (by omega), Nat.min_eq_left (by omega), List.set_append_right _ _ (by simp), List.length_replicate, Nat.sub_self, List.drop_eq_getElem_cons h, List.set_cons_zero, List.replicate_succ', List.append_assoc]; rfl
theorem emptied_min (l : List ByteArray) (m : Nat) : emptied l (min m l.length) = emptied l m := by
  unfold emptied
  rcases Nat.le_total m l.length with h | h
  · rw [Nat.min_eq_left h, Nat.min_eq_left h]
  · rw [Nat.min_eq_right h, Nat.min_self, List.drop_eq_nil_of_le h, List.drop_eq_nil_of_le (Nat.le_refl _)]
theorem bo_clear {g k b off n cap : Nat} {lo hi : Nat} {pv : Nat → Value} {L : List Blk} {a : Blk} (hk : k < L.length) (hv : pv k = .slice (some ⟨b, off, none⟩) n cap) (hn : a.pg.length = n) :
    ∀ (m t : Nat) (w : World), t + m ≤ n → BO w lo hi g pv (L.set k (a.pages (emptied a.pg t))) → BO (w.setCells b (off + t) (List.replicate m (.string ByteArray.empty))) lo hi g pv (L.set k (a.pages (emptied a.pg (t + m))))
  | 0, t, w, _, h => h
  | m + 1, t, w, hm, h => by
    have h1 := h.storePgS hk hv (t := t) (by omega) ByteArray.empty (by show 0 ≤ _; omega)
    have e : (a.pages (emptied a.pg t)).pages ((a.pages (emptied a.pg t)).pg.set t ByteArray.empty) = a.pages (emptied a.pg (t + 1)) := by
      show a.pages ((emptied a.pg t).set t ByteArray.empty) = _
      rw [emptied_step _ _ (by omega)]
    rw [e] at h1
    have h2 := bo_clear hk hv hn m (t + 1) _ (by omega) h1
    rw [show t + (m + 1) = t + 1 + m by omega]
    exact h2
theorem bo_clear0 {w : World} {g k b off n cap : Nat} {lo hi : Nat} {pv : Nat → Value} {L : List Blk} {a : Blk} (h : BO w lo hi g pv (L.set k a)) (hk : k < L.length) (hv : pv k = .slice (some ⟨b, off, none⟩) n cap) (hn : a.pg.length = n) (m : Nat) (hm : m ≤ n) :
    BO (w.setCells b off (List.replicate m (.string ByteArray.empty))) lo hi g pv (L.set k (a.pages (emptied a.pg m))) := by
  have := bo_clear (a := a) hk hv hn m 0 w (by omega) (by rw [emptied_zero]; exact h)
  rwa [Nat.zero_add] at this
theorem Keep.sets {lo hi b : Nat} {w0 : World} (h1 : lo ≤ b) (h2 : b < hi) : ∀ (vs : List Value) (o : Nat) (w : World), Keep lo hi w0 w → Keep lo hi w0 (w.setCells b o vs)
  | [], _, _, h => h
  | v :: vs, o, w, h => Keep.sets h1 h2 vs (o + 1) _ (h.set_ h1 h2 v)
theorem zeroStr (w : World) : (zeroValue 9).run Try.prog w = .ok (.string ByteArray.empty) w := by kernel_rfl
/-- The built-in clear over the first m pages of a block. -/
theorem run_clear_pages {w : World} {g k b off n cap lo hi : Nat} {pv : Nat → Value} {L : List Blk} {a : Blk} (h : BO w lo hi g pv (L.set k a)) (hk : k < L.length) (hv : pv k = .slice (some ⟨b, off, none⟩) n cap) (m : Nat) (hm : m ≤ n) (ty : TypeId) :
    (Builtin.clear_ #[49] ty #[.slice (some ⟨b, off, none⟩) m cap]).run Try.prog w = .ok (.tuple #[]) (w.setCells b off (List.replicate m (.string ByteArray.empty))) := by
  rcases Nat.eq_zero_or_pos m with h0 | h0
  · subst h0
    simp [Builtin.clear_, run_underlying Try.underlying49, World.setCells]
  · exact Lib.run_clear_slice w 49 9 ty (.string ByteArray.empty) Try.underlying49 zeroStr rfl rfl b off m cap h0
      (fun j hj => by rw [(h.pageS hk hv (t := j) (by omega)).1]; rfl) (fun j hj => (h.pageS hk hv (t := j) (by omega)).2.1)
set_option maxRecDepth 100000 in
theorem blkErase_any (w : World) (lo hi g : Nat) (pv : Nat → Value) (L : List Blk) (k : Nat) (ke : Int) (h : BO w lo hi g pv L) (hk : k < L.length) (hh : hi ≤ w.heap.size)
    (h0 : 0 ≤ (L.getD k Blk.zero).er ∧ (L.getD k Blk.zero).er ≤ 1000) (h1 : 0 < (L.getD k Blk.zero).pg.length) (h2 : (L.getD k Blk.zero).pg.length ≤ 16) (hke : 0 ≤ ke ∧ ke ≤ 91) :
    Calls Try.prog 86 #[.pointer (some ⟨g, k * 4, none⟩), .int .i64 ke] w
      (UnitPost fun w' => BO w' lo hi g pv (L.set k ((L.getD k Blk.zero).erase ke.toNat)) ∧ Keep lo hi w w') := by
  have o0 := h.self hk
  obtain ⟨b, off, cap, hv, hv1, hv2⟩ := h.somePg hk (by omega)
  generalize L.getD k Blk.zero = y at *
  obtain ⟨q0, q1, q2, q3⟩ := o0.cells hk
  rw [hv] at q3
  have f0 := o0.free (k * 4)
  have f1 := o0.free (k * 4 + 1)
  have O0 := Lib.hid o0
  have HK := Lib.hid hk
  obtain ⟨er, nx, bad, pg⟩ := y
  simp only at h0 h1 h2 q0 q1 q2 q3 hv hv1
  obtain ⟨n, hn⟩ : ∃ n, n = pg.length := ⟨_, rfl⟩
  have HN := Lib.hid hn
  rw [← hn] at h1 h2 q3 hv hv1
  have HV := Lib.hid hv
  have hlow := h.low
  have hhigh := h.high
  have hn16 : (n : Int) ≤ 16 := by omega
  obtain ⟨m, rfl⟩ := Int.eq_ofNat_of_zero_le hke.1
  have hcapi : (n : Int) ≤ (cap : Int) := by omega
  clear h o0 hn hk hv
  have O1 := O0.out.storeS (c := 0) HK.out (.int .i64 (er + 1)) (.inl ⟨rfl, _, rfl⟩)
  have O2 := O1.storeS (c := 1) HK.out (.int .i64 0) (.inr (.inl ⟨rfl, _, rfl⟩))
  have K2 := (((Keep.refl lo hi w).set_ (g := g) (k := k * 4) hlow hhigh (.int .i64 (er + 1))).set_ (g := g) (k := k * 4 + 1) hlow hhigh (.int .i64 0))
  rw [Nat.add_zero] at O1 O2
  obtain ⟨_, _, hb1, hb2, _⟩ := O0.out.pageS HK.out HV.out (t := 0) h1
  by_cases hz : m < n
  · have hzi : (m : Int) < (n : Int) := by omega
    have hmin : min (m : Int) (n : Int) = (m : Int) := by omega
    have O3 := O2.storeS (c := 1) HK.out (.int .i64 (n : Int)) (.inr (.inl ⟨rfl, _, rfl⟩))
    have K3 := K2.set_ (g := g) (k := k * 4 + 1) hlow hhigh (.int .i64 (n : Int))
    have hcl := fun ty => run_clear_pages O3 HK.out HV.out m (by omega) ty
    have O4 := Lib.hid (bo_clear0 O3 HK.out HV.out HN.out.symm m (by omega))
    have K4 := Lib.hid (Keep.sets hb1 hb2 (List.replicate m (.string ByteArray.empty)) off _ K3)
    have HE := Lib.hid (show Blk.erase ⟨er, nx, bad, pg⟩ m = (Blk.put (Blk.put (Blk.put ⟨er, nx, bad, pg⟩ 0 (.int .i64 (er + 1))) 1 (.int .i64 0)) 1 (.int .i64 (n : Int))).pages (emptied pg m) from by
      unfold Blk.erase; rw [if_pos (by rw [← HN.out]; exact hz), ← HN.out]; rfl)
    rw [Int.toNat_natCast]
    clear O0 O1 O2 O3 K2 K3
    go_enter Try.func86, Try.ntmps86
    go_wp2_with (simp only [hcl])
    go_end0
    exact ⟨rfl, by rw [HE.out]; exact O4.out, K4.out⟩
  · have hzi : ¬ (m : Int) < (n : Int) := by omega
    have hmin : min (m : Int) (n : Int) = (n : Int) := by omega
    have hcl := fun ty => run_clear_pages O2 HK.out HV.out n (Nat.le_refl _) ty
    have O4 := Lib.hid (bo_clear0 O2 HK.out HV.out HN.out.symm n (Nat.le_refl _))
    have K4 := Lib.hid (Keep.sets hb1 hb2 (List.replicate n (.string ByteArray.empty)) off _ K2)
    have HE := Lib.hid (show Blk.erase ⟨er, nx, bad, pg⟩ m = (Blk.put (Blk.put ⟨er, nx, bad, pg⟩ 0 (.int .i64 (er + 1))) 1 (.int .i64 0)).pages (emptied pg n) from by
      unfold Blk.erase; rw [if_neg (by rw [← HN.out]; exact hz), ← emptied_min, show min m pg.length = n by rw [← HN.out]; omega]; rfl)
    rw [Int.toNat_natCast]
    clear O0 O1 O2 K2
    rcases Nat.lt_or_eq_of_le (Nat.le_of_not_lt hz) with h9 | h9
    · have h9i : (n : Int) < (m : Int) := by omega
      go_enter Try.func86, Try.ntmps86
      go_wp2_with (simp only [hcl])
      go_end0
      exact ⟨rfl, by rw [HE.out]; exact O4.out, K4.out⟩
    · subst h9
      have hmin2 : min (n : Int) (n : Int) = (n : Int) := by omega
      go_enter Try.func86, Try.ntmps86
      go_wp2_with (simp only [hcl])
      go_end0
      exact ⟨rfl, by rw [HE.out]; exact O4.out, K4.out⟩
theorem erase_bs (F : Fl) (k : Nat) : (F.erase k).bs = F.bs.set k ((F.blk k).erase F.much.toNat) := by
  have e : (if F.fu = 0 then F.ke.toNat else 91) = F.much.toNat := by unfold Fl.much; split <;> rfl
  show F.bs.set k ((F.blk k).erase (if F.fu = 0 then F.ke.toNat else 91)) = _
  rw [e]
theorem EraEnds.codes {F : Fl} {block : Int} {G : Fl} {c : Int} (h : EraEnds F block G c) (hn : ¬ (c = 0 ∨ c = 8)) : G = Fl.zero := by
  rcases h with _ | _ | _ | _ | _
  · rfl
  · exact absurd (.inr rfl) hn
  · rfl
  · rfl
  · exact absurd (by unfold Fl.code; split <;> simp) hn
set_option maxRecDepth 100000 in
theorem flErase_any (w : World) (lo hi g : Nat) (F G : Fl) (u : Value) (block : Int) (c : Int) (hR : Rw w g 31 (flc F u)) (hB : BksOwn w lo hi u F.bs) (hg : hi ≤ g) (hlo : lo ≤ hi) (hok : FlOk F)
    (hE : EraEnds F block G c) :
    Calls Try.prog 56 #[.pointer (some ⟨g, 0, none⟩), .int .i64 block] w (InPost lo hi g u G c w) := by
  have hn8 := hok.len
  have hRg := hR
  obtain ⟨A, n, cap, rfl, hlc, hcm, hlen, hA⟩ := hB
  have hgl := hR.lt
  have RR := Lib.hid hR
  obtain ⟨c0, c1, c2, c3, c4, c5, c6, c7⟩ := hR.eight
  rw [hlen] at hn8
  have hnm : (n : Int) ≤ 36 := by omega
  have bl := Below.refl lo w
  have hLB : (n : Int) = F.d * F.b := by have := hok.2.1; rw [hlen] at this; exact this
  have HP := Lib.hid (fun (W : World) (r : Bool) (hr : r = true ↔ (0 ≤ block ∧ block < (n : Int))) => geoBlock_any F.d F.b F.p block r W hok.1 (by rw [← hLB]; exact hr))
  have hhi : hi ≤ w.heap.size := by omega
  clear hLB
  rcases hE with hE | ⟨_, h1⟩ | ⟨_, h1, h2⟩ | ⟨_, h1, k, rfl, hkl, h2⟩ | ⟨_, h1, k, rfl, hkl, h2, h3⟩
  · exact absurd hok hE
  · have HB := Lib.hid (show BksOwn w lo hi (.slice A n cap) F.bs from ⟨A, n, cap, rfl, hlc, hcm, hlen, hA⟩)
    rw [h1] at c6
    clear hA hRg hR hok hlen
    go_enter Try.func56, Try.ntmps56
    go_wp2
    go_ret
    exact ⟨rfl, bl, fun _ => ⟨RR.out, HB.out⟩⟩
  · rw [h1] at c6
    have HF := Lib.hid (fun (W : World) => HP.out W false (by rw [hlen] at h2; simp only [Bool.false_eq_true, false_iff]; exact h2))
    clear hA hRg hR hok hlen h2
    go_enter Try.func56, Try.ntmps56
    go_wp2_with fail
    refine (HF.out _).mono ?_
    rintro e w' ⟨rfl, bx⟩
    clear c0 c1 c2 c3 c4 c5 c6 c7
    have RX := Lib.hid (RR.out.below bx hgl)
    obtain ⟨c0, c1, c2, c3, c4, c5, c6, c7⟩ := RX.out.eight
    rw [h1] at c6
    have BX := Lib.hid (show Below lo w w' from bx.mono (by omega))
    clear bx
    go_wp2
    go_ret
    exact ⟨rfl, BX.out, fun h => by omega⟩
  · rw [h1] at c6
    rw [hlen] at hkl
    obtain ⟨gb, pv, rfl, hbo⟩ := hA (by omega)
    have HF := Lib.hid (fun (W : World) => HP.out W true (by simp; omega))
    have HQ := Lib.hid (show ∀ W, Below w.heap.size w W → W.cell? ⟨gb, k * 4, none⟩ = some (.int .i64 (F.blk k).er) ∧ W.cell? ⟨gb, k * 4 + 1, none⟩ = some (.int .i64 (F.blk k).nx) ∧ W.cell? ⟨gb, k * 4 + 2, none⟩ = some (.bool (F.blk k).bad) from fun W b => by
      obtain ⟨q0, q1, q2, q3⟩ := (hbo.same (sm b lo hhi)).row k (by omega)
      exact ⟨q0, q1, q2⟩)
    have hki : (k : Int) < (n : Int) := by omega
    clear hA hRg hR hlen hbo hok
    generalize (F.blk k).bad = bb at *
    generalize (F.blk k).er = er at *
    cases bb with
    | true =>
      clear h2
      go_enter Try.func56, Try.ntmps56
      go_wp2_with fail
      refine (HF.out _).mono ?_
      rintro e w' ⟨rfl, bx⟩
      clear c0 c1 c2 c3 c4 c5 c6 c7
      have RX := Lib.hid (RR.out.below bx hgl)
      obtain ⟨c0, c1, c2, c3, c4, c5, c6, c7⟩ := RX.out.eight
      rw [h1] at c6
      have BX := Lib.hid (show Below lo w w' from bx.mono (by omega))
      obtain ⟨q0, q1, q2⟩ := HQ.out _ bx
      go_wp2
      go_ret
      exact ⟨rfl, BX.out, fun h => by omega⟩
    | false =>
      obtain rfl : er = 1000 := by rcases h2 with h2 | h2; cases h2; exact h2
      clear h2
      go_enter Try.func56, Try.ntmps56
      go_wp2_with fail
      refine (HF.out _).mono ?_
      rintro e w' ⟨rfl, bx⟩
      clear c0 c1 c2 c3 c4 c5 c6 c7
      have RX := Lib.hid (RR.out.below bx hgl)
      obtain ⟨c0, c1, c2, c3, c4, c5, c6, c7⟩ := RX.out.eight
      rw [h1] at c6
      have BX := Lib.hid (show Below lo w w' from bx.mono (by omega))
      obtain ⟨q0, q1, q2⟩ := HQ.out _ bx
      go_wp2
      go_ret
      exact ⟨rfl, BX.out, fun h => by omega⟩
  · rw [h1] at c6
    rw [hlen] at hkl
    obtain ⟨gb, pv, rfl, hbo⟩ := hA (by omega)
    have HF := Lib.hid (fun (W : World) => HP.out W true (by simp; omega))
    have HQ := Lib.hid (show ∀ W, Below w.heap.size w W → W.cell? ⟨gb, k * 4, none⟩ = some (.int .i64 (F.blk k).er) ∧ W.cell? ⟨gb, k * 4 + 1, none⟩ = some (.int .i64 (F.blk k).nx) ∧ W.cell? ⟨gb, k * 4 + 2, none⟩ = some (.bool (F.blk k).bad) from fun W b => by
      obtain ⟨q0, q1, q2, q3⟩ := (hbo.same (sm b lo hhi)).row k (by omega)
      exact ⟨q0, q1, q2⟩)
    have hki : (k : Int) < (n : Int) := by omega
    rw [h2] at HQ
    have hpl := hok.plen (i := k) (by omega)
    have hbk := hok.2.2.1 k (by omega)
    have hS := Lib.hid (fun (W : World) (k : Rw W g 31 (flc F (.slice (some ⟨gb, 0, none⟩) n cap))) => start_any g F (.slice (some ⟨gb, 0, none⟩) n cap) W k hok.2.2.2.1)
    have hmu := Fl.much_ok hok
    have HD := Lib.hid (And.intro (erase_bs F k) (show flc (F.erase k) (.slice (some ⟨gb, 0, none⟩) n cap) = flc F.tick (.slice (some ⟨gb, 0, none⟩) n cap) from rfl))
    have HBO := Lib.hid hbo
    have HLN := Lib.hid hlen
    have HPR := Lib.hid (fun (W : World) (o : BO W lo hi gb pv F.bs) (hh : hi ≤ W.heap.size) => blkErase_any W lo hi gb pv F.bs k F.much o (by omega) hh hbk.1 (by show 0 < (F.blk k).pg.length; omega) (by show (F.blk k).pg.length ≤ 16; omega) hmu)
    have hd : ((F.blk k).er == 1000) = false := by simp [h3]
    have HLL := Lib.hid (show (F.bs.set k ((F.blk k).erase F.much.toNat)).length = n by rw [List.length_set]; exact hlen)
    generalize (F.blk k).er = er at *
    generalize F.much = mu at *
    generalize F.code = co at *
    generalize F.erase k = G' at *
    clear hA hRg hR hlen hbo h3 hok hpl hbk hmu
    go_enter Try.func56, Try.ntmps56
    go_wp2_with fail
    refine (HF.out _).mono ?_
    rintro e w' ⟨rfl, bx⟩
    clear c0 c1 c2 c3 c4 c5 c6 c7
    have RX := Lib.hid (RR.out.below bx hgl)
    obtain ⟨c0, c1, c2, c3, c4, c5, c6, c7⟩ := RX.out.eight
    rw [h1] at c6
    have BX := Lib.hid (show Below lo w w' from bx.mono (by omega))
    obtain ⟨q0, q1, q2⟩ := HQ.out _ bx
    have hs1 := bx.size
    have OX := Lib.hid (HBO.out.same (sm bx lo hhi))
    clear bx
    go_wp2_with fail
    refine (hS.out _ RX.out).mono ?_
    rintro e w1 ⟨rfl, r1, gr1⟩
    have k3 : w1.cell? ⟨g, 3, none⟩ = some (.slice (some ⟨gb, 0, none⟩) n cap) := r1.cell 3
    have s1 := gr1.size
    have o1 := Lib.hid (OX.out.same (same_grown gr1 hg (by omega)))
    have hb1 := Lib.hid (grown_keep gr1 (B := lo) (by omega) (by omega))
    have R1 := Lib.hid r1
    clear r1 gr1 c0 c1 c2 c3 c4 c5 c6 c7 q0 q1 q2
    go_wp2_with fail
    refine (HPR.out w1 o1.out (by omega)).mono ?_
    rintro e w2 ⟨rfl, o2, k2⟩
    have O2 := Lib.hid o2
    have K2 := Lib.hid k2
    clear o2 k2 k3
    go_wp2
    go_ret
    refine ⟨rfl, BX.out.trans (hb1.out.trans K2.out.1), fun _ => ⟨?_, ?_⟩⟩
    · rw [HD.out.2]; exact R1.out.kept K2.out hg
    · exact ⟨_, n, cap, rfl, hlc, hcm, by rw [HD.out.1]; exact HLL.out, fun _ => ⟨gb, pv, rfl, by rw [HD.out.1]; exact O2.out⟩⟩
end Go.Proofs.Yteigdjocjcjkiaa
/- Plain facts: the shape of a generated array, and what each operation keeps of it; how facts about memory pass a choice. -/
namespace Go.Proofs.Yteigdjocjcjkiaa
open Go.RowKit
set_option linter.unusedVariables false
/-- A generated array: its geometry, its blocks and pages, how many operations it has seen. -/
def Shape (F : Fl) (K : Nat) : Prop := ((2 ≤ F.d ∧ F.d ≤ 3) ∧ (4 ≤ F.b ∧ F.b ≤ 5) ∧ (F.p = 8 ∨ F.p = 16)) ∧ (F.bs.length : Int) = F.d * F.b ∧ (∀ i, i < F.bs.length → ((F.blk i).pg.length : Int) = F.p) ∧ (0 ≤ F.op ∧ F.op ≤ K)
theorem Shape.geo {F : Fl} {K : Nat} (h : Shape F K) : GeoOk F.d F.b F.p := ⟨h.1.1, ⟨h.1.2.1.1, by have := h.1.2.1.2; omega⟩, h.1.2.2⟩
theorem Shape.len {F : Fl} {K : Nat} (h : Shape F K) : 8 ≤ F.bs.length ∧ F.bs.length ≤ 36 ∧ (F.d = 3 → 12 ≤ F.bs.length) := by
  have h1 := h.geo.mul
  have h2 := h.2.1
  refine ⟨by omega, by omega, fun e => ?_⟩
  rw [e] at h2
  have := h.1.2.1.1
  omega
theorem Shape.plen {F : Fl} {K : Nat} (h : Shape F K) {i : Nat} (hi : i < F.bs.length) : 8 ≤ (F.blk i).pg.length ∧ (F.blk i).pg.length ≤ 16 := by
  have h1 := h.2.2.1 i hi
  have h2 := h.1.2.2
  omega
theorem Shape.lens {F : Fl} {K : Nat} (h : Shape F K) : FlLen F := ⟨by have := h.len; omega, fun i hi => by have := h.plen hi; omega⟩
theorem Shape.more {F : Fl} {K K' : Nat} (h : Shape F K) (hk : K ≤ K') : Shape F K' := ⟨h.1, h.2.1, h.2.2.1, h.2.2.2.1, by have := h.2.2.2.2; omega⟩
theorem Shape.tickOp {F : Fl} {K : Nat} (h : Shape F K) (hK : K ≤ 1000000) : 0 ≤ F.tick.op ∧ F.tick.op ≤ ((K + 1 : Nat) : Int) := by
  have h1 := h.2.2.2
  show 0 ≤ wrap64 (F.op + 1) ∧ wrap64 (F.op + 1) ≤ _
  rw [IntWalk.wrap64_in _ (by omega)]
  omega
theorem takes_len (x : Blk) (raw : ByteArray) (ke : Int) : (x.takes raw ke).pg.length = x.pg.length := by
  unfold Blk.takes Blk.torn
  split
  · rfl
  · simp only [List.length_set]
    split <;> simp
/-- A block replaced by one with as many pages. -/
theorem Shape.set {F G : Fl} {K K' : Nat} (h : Shape F K) (k : Nat) (x : Blk) (hx : x.pg.length = (F.blk k).pg.length) (hd : G.d = F.d) (hb : G.b = F.b) (hp : G.p = F.p) (hs : G.bs = F.bs.set k x) (ho : 0 ≤ G.op ∧ G.op ≤ (K' : Int)) : Shape G K' := by
  refine ⟨by rw [hd, hb, hp]; exact h.1, by rw [hs, hd, hb, List.length_set]; exact h.2.1, fun i hi => ?_, ho⟩
  rw [hs, List.length_set] at hi
  unfold Fl.blk
  rw [hs, hp]
  by_cases e : k = i
  · subst e
    rw [getD_set_eq _ _ _ _ hi, hx]
    exact h.2.2.1 k hi
  · rw [getD_set_ne _ _ _ _ _ e]
    exact h.2.2.1 i hi
theorem prog_geo (F : Fl) (k : Nat) (raw : ByteArray) : (F.prog k raw).d = F.d ∧ (F.prog k raw).b = F.b ∧ (F.prog k raw).p = F.p ∧ (F.prog k raw).op = F.tick.op := by
  unfold Fl.prog
  split
  · split <;> exact ⟨rfl, rfl, rfl, rfl⟩
  · exact ⟨rfl, rfl, rfl, rfl⟩
theorem Shape.prog {F G : Fl} {K : Nat} {block page c : Int} {raw : ByteArray} (h : Shape F K) (hK : K ≤ 1000000) (hG : ProgEnds F block page raw G c) (hc : c = 0 ∨ c = 8) : Shape G (K + 1) := by
  rcases hG with _ | _ | _ | _ | _ | ⟨hok, hr, h1, k, n, hk, hn, hkl, hnp, h2, h3⟩
  · omega
  · exact h.more (by omega)
  · omega
  · omega
  · omega
  · obtain ⟨a, b, c, d⟩ := prog_geo F k raw
    exact h.set k _ (takes_len _ _ _) a b c (prog_bs hkl hr) (by rw [d]; exact h.tickOp hK)
theorem Shape.erase {F G : Fl} {K : Nat} {block c : Int} (h : Shape F K) (hK : K ≤ 1000000) (hG : EraEnds F block G c) (hc : c = 0 ∨ c = 8) : Shape G (K + 1) := by
  rcases hG with _ | _ | _ | _ | ⟨hok, h1, k, hk, hkl, h2, h3⟩
  · omega
  · exact h.more (by omega)
  · omega
  · omega
  · exact h.set k _ (emptied_length _ _) rfl rfl rfl (erase_bs F k) (h.tickOp hK)
theorem Shape.new {d b p : Int} (h : (2 ≤ d ∧ d ≤ 3) ∧ (4 ≤ b ∧ b ≤ 5) ∧ (p = 8 ∨ p = 16)) : Shape (newFl d b p) 0 := by
  have hg : GeoOk d b p := ⟨h.1, ⟨h.2.1.1, by have := h.2.1.2; omega⟩, h.2.2⟩
  have hm := hg.mul
  refine ⟨h, ?_, fun i hi => ?_, by simp [newFl]⟩
  · show ((List.replicate (d * b).toNat _).length : Int) = d * b
    rw [List.length_replicate]; omega
  · have hi' : i < (d * b).toNat := by simpa [newFl] using hi
    show (((List.replicate (d * b).toNat (⟨0, 0, false, List.replicate p.toNat ByteArray.empty⟩ : Blk)).getD i Blk.zero).pg.length : Int) = p
    rw [List.getD_eq_getElem?_getD, List.getElem?_replicate, if_pos hi']
    show ((List.replicate p.toNat ByteArray.empty).length : Int) = p
    rw [List.length_replicate]
    have := h.2.2
    omega
/-! What lies in memory, behind a choice. -/
theorem same_above {w w' : World} {g lo hi : Nat} (h : w.grownBy w' (some g)) (hg : g < lo) (hh : hi ≤ w.heap.size) : Same lo hi w w' := fun j a b => h.block j (by omega) (fun e => by injection e with e; omega)
theorem grown_drewL {w w' : World} {row : Option Nat} (h : w.drew.grownBy w' row) : w.grownBy w' row := ⟨h.os, h.tape, h.output, h.size, h.block⟩
end Go.Proofs.Yteigdjocjcjkiaa
/- The source of choices and rows of memory, kept through calls and stores. -/
namespace Go.Proofs.Yteigdjocjcjkiaa
open Go.RowKit
set_option linter.unusedVariables false
theorem grown_out {w w' : World} {g g' k : Nat} (h : w.grownBy w' (some g)) (hg : w.heap.size ≤ g') (u : Value) : w.grownBy (w'.setCell ⟨g', k, none⟩ u) (some g) :=
  ⟨h.os, h.tape, h.output, by simpa using h.size, fun j hj hr => (Below.heap_setCell w' ⟨g', k, none⟩ u j (by show j ≠ g'; omega)).trans (h.block j hj hr)⟩
theorem Src.keepS {w w' : World} {B g n : Nat} (h : Src w B g n) (hs : Same 0 (g + 1) w w') (hz : w.heap.size ≤ w'.heap.size) : Src w' B g n := by
  have hlt := h.lt
  obtain ⟨v, a, s, h1, h2, h3, h4⟩ := h
  exact ⟨v, a, s, (hs g (Nat.zero_le _) (Nat.lt_succ_self _)).trans h1, h2, h3.keep fun b hb' => hs b (Nat.zero_le _) (by omega), h4⟩
theorem Rw.grown {w w' : World} {g g' : Nat} {t : TypeId} {cs : Array Value} (h : Rw w g' t cs) (hg : w.grownBy w' (some g)) (hne : g' ≠ g) : Rw w' g' t cs :=
  (hg.block g' h.lt (fun e => hne (by injection e))).trans h
end Go.Proofs.Yteigdjocjcjkiaa
/- ProgramPage, the model's: the contract. -/
namespace Go.Proofs.Yteigdjocjcjkiaa
open Go.RowKit
set_option linter.unusedVariables false
theorem Fl.code_is (F : Fl) : F.code = 0 ∨ F.code = 8 := by unfold Fl.code; split <;> simp
set_option maxHeartbeats 4000000 in
theorem specProg_any (v : Value) (block page : Int) (raw : ByteArray) (F G : Fl) (c : Int) (w : World) (lo hi : Nat) (h : FlIn w lo hi v F) (hh : hi ≤ w.heap.size) (hG : ProgEnds F block page raw G c) (hl : FlLen F) (hraw : raw.size ≤ 9223372036854775807) :
    Calls Try.prog 9 #[v, .int .i64 block, .int .i64 page, .string raw] w (FlPost G c w) := by
  obtain ⟨r, hr⟩ := prop_dec (FlOk F)
  obtain ⟨u, rfl, hb⟩ := h
  have hv : ∀ W : World, BksIn W lo hi u F.bs → FlIn W lo hi (.agg (flc F u)) F := fun W a => ⟨u, rfl, a⟩
  have HV := Lib.hid (fun (W : World) (a : BksIn W lo hi u F.bs) (c : hi ≤ W.heap.size) => specValid_any (.agg (flc F u)) F r W lo hi (hv W a) c hr hl)
  have HO := Lib.hid (fun (hok : FlOk F) (W : World) (a : BksIn W lo hi u F.bs) (c : hi ≤ W.heap.size) => l06Own_any (.agg (flc F u)) F W lo hi (hv W a) c (by have := hok.len; omega) (fun i hi => by have := hok.plen hi; omega))
  have HPG := Lib.hid (fun (hok : FlOk F) (hr : raw.size = 91) (k : Nat) (hk : k < F.bs.length) (hn : (F.blk k).nx < F.p) (W : World) (u2 : Value) (lo hi g : Nat) (a : Rw W g 31 (flc F u2)) (b : BksOwn W lo hi u2 F.bs) (c1 : hi ≤ g) (c2 : lo ≤ hi) => spProg_any W lo hi g F u2 k raw a b c1 c2 hok hr hk hn)
  have H := Lib.hid hb
  have hbb := hb
  obtain ⟨Au, nu, cu, rfl, hu1, hu2, hu3, hu4⟩ := hb
  have HBAD := Lib.hid (fun (W : World) (a : BksIn W lo hi (.slice Au nu cu) F.bs) (k : Nat) (hk : k < nu) => (show ∃ gb o pv, Au = some ⟨gb, o, none⟩ ∧ lo ≤ gb ∧ gb < hi ∧ BkAt W gb (o + k * 4) (F.blk k) pv from by
    obtain ⟨A', n', c', e, _, _, _, hx⟩ := a
    injection e with e1 e2 e3
    subst e1 e2 e3
    obtain ⟨gb, o, e, h1, h2, hy⟩ := hx (by omega)
    obtain ⟨pv, hp, _⟩ := hy k hk
    exact ⟨gb, o, pv, e, h1, h2, hp⟩))
  clear hbb hv hl hu4
  have hFl : flc F (.slice Au nu cu) = #[.int .i64 F.d, .int .i64 F.b, .int .i64 F.p, .slice Au nu cu, .int .i64 F.fu, .int .i64 F.ke, .bool F.off, .int .i64 F.op] := rfl
  have hFo : ∀ u, flc F u = #[.int .i64 F.d, .int .i64 F.b, .int .i64 F.p, u, .int .i64 F.fu, .int .i64 F.ke, .bool F.off, .int .i64 F.op] := fun u => rfl
  rw [hFl] at HV HO ⊢
  have HFO := Lib.hid hFo
  clear hFl hFo
  have HPgs := Lib.hid (fun (r : Bool) (hn : nu ≤ 1000) (hp : 0 ≤ F.p ∧ F.p ≤ 1000) (hr : r = true ↔ ((0 ≤ block ∧ block < (nu : Int)) ∧ (0 ≤ page ∧ page < F.p))) (W : World) => spPage_any F.d F.b F.p F.fu F.ke F.op F.off Au nu cu block page r W hn hp hr)
  have HOFF : Hid (∀ b : Bool, F.off = b → F.off = b) := Lib.hid fun _ h => h
  have HP1 := Lib.hid (fun (hok : FlOk F) => hok.1.p16)
  have HL1 := Lib.hid (fun (hok : FlOk F) => hok.len)
  have HGG := Lib.hid hG
  clear hG
  have HPF : Hid (∀ q : Int, q < F.p → q < F.p) := Lib.hid fun _ h => h
  generalize hd : F.d = d at *
  generalize hbn : F.b = b at *
  generalize hp : F.p = p at *
  generalize hfu : F.fu = fu at *
  generalize hke : F.ke = ke at *
  generalize hoff : F.off = off at *
  generalize hop : F.op = op at *
  have HEQ := Lib.hid (And.intro hp hoff)
  clear hd hbn hp hfu hke hoff hop
  obtain ⟨r0, r1, b0⟩ := Rw.two_new w 31 31 #[.int .i64 d, .int .i64 b, .int .i64 p, .slice Au nu cu, .int .i64 fu, .int .i64 ke, .bool off, .int .i64 op]
    #[.int .i64 0, .int .i64 0, .int .i64 0, .slice none 0 0, .int .i64 0, .int .i64 0, .bool false, .int .i64 0]
  have R0 := Lib.hid r0
  have R1 := Lib.hid r1
  have B0 := Lib.hid b0
  clear r0 r1 b0
  go_enter Try.func9, Try.ntmps9
  go_wp2_with fail
  refine (HV.out _ (H.out.same (sm B0.out lo hh)) (by simp; omega)).mono ?_
  rintro e w1 ⟨rfl, b1⟩
  have S0 := Lib.hid (R0.out.below b1 (by simp; omega))
  have S1 := Lib.hid (R1.out.below b1 (by simp))
  have B1 := Lib.hid (B0.out.trans (b1.mono (by simp; omega)))
  have hsz1 := b1.size
  simp only [World.size_alloc] at hsz1
  clear b1
  have ZEROS : Hid (∀ (wz : World) (c : Int), Rw wz (w.heap.size + 1) 31 #[.int .i64 0, .int .i64 0, .int .i64 0, .slice none 0 0, .int .i64 0, .int .i64 0, .bool false, .int .i64 0] → Below w.heap.size w wz → FlPost Fl.zero c w (.returned (.tuple #[.agg #[.int .i64 0, .int .i64 0, .int .i64 0, .slice none 0 0, .int .i64 0, .int .i64 0, .bool false, .int .i64 0], .int .i64 c])) ((((((((wz.setCell ⟨w.heap.size + 1, 0, none⟩ (.int .i64 0)).setCell ⟨w.heap.size + 1, 1, none⟩ (.int .i64 0)).setCell ⟨w.heap.size + 1, 2, none⟩ (.int .i64 0)).setCell ⟨w.heap.size + 1, 3, none⟩ (.slice none 0 0)).setCell ⟨w.heap.size + 1, 4, none⟩ (.int .i64 0)).setCell ⟨w.heap.size + 1, 5, none⟩ (.int .i64 0)).setCell ⟨w.heap.size + 1, 6, none⟩ (.bool false)).setCell ⟨w.heap.size + 1, 7, none⟩ (.int .i64 0))) := Lib.hid (fun wz c hz bz => by
    refine ⟨_, rfl, zeroOwn _ _ _, ?_⟩
    repeat refine bset ?_ (by omega) _
    exact bz)
  rcases HGG.out with hno | ⟨hok, hrs, h1⟩ | ⟨hok, hrs, h1, h2⟩ | ⟨hok, hrs, h1, k, m, rfl, rfl, hkl, hnp, h2⟩ | ⟨hok, hrs, h1, k, m, rfl, rfl, hkl, hnp, h2, h3⟩ | ⟨hok, hrs, h1, k, m, rfl, rfl, hkl, hnp, h2, h3⟩
  · obtain ⟨z0, z1, z2, z3, z4, z5, z6, z7⟩ := S1.out.eight
    obtain ⟨fz0, fz1, fz2, fz3, fz4, fz5, fz6, fz7⟩ := S1.out.frees
    by_cases hok : FlOk F
    · obtain rfl : r = true := hr.2 hok
      have hne : ((raw.size : Int) != 91) = true := by
        rcases hno with a | a
        · exact absurd hok a
        · simp; omega
      clear hr hok hno HO HPG HPgs
      go_wp2
      exact bodyPost_ret (results_row_tmp Try.results9 _ _ _ _ #[.int .i64 0, .int .i64 0, .int .i64 0, .slice none 0 0, .int .i64 0, .int .i64 0, .bool false, .int .i64 0] _ _ rfl
        (S1.out.put8 _ _ _ _ _ _ _ _) Try.underlying31 rfl infoFl8) rfl (ZEROS.out _ 1 S1.out B1.out)
    · obtain rfl : r = false := (bool_of r hr).2 hok
      clear hr hok hno HO HPG HPgs
      go_wp2
      exact bodyPost_ret (results_row_tmp Try.results9 _ _ _ _ #[.int .i64 0, .int .i64 0, .int .i64 0, .slice none 0 0, .int .i64 0, .int .i64 0, .bool false, .int .i64 0] _ _ rfl
        (S1.out.put8 _ _ _ _ _ _ _ _) Try.underlying31 rfl infoFl8) rfl (ZEROS.out _ 1 S1.out B1.out)
  all_goals
    obtain rfl : r = true := hr.2 hok
    have hne : ((raw.size : Int) != 91) = false := by rw [hrs]; rfl
    rw [HEQ.out.2] at h1
    subst h1
    clear hr
  · have HO2 := Lib.hid (HO.out hok)
    obtain ⟨a0, a1, a2, a3, a4, a5, a6, a7⟩ := S0.out.eight
    clear HO HPG HPgs hok hrs
    go_wp2_with fail
    refine (HO2.out _ (H.out.same (sm B1.out lo hh)) (by omega)).mono ?_
    rintro e w2 ⟨u2, rfl, ho, b2⟩
    obtain ⟨uu, rfl, ho⟩ := ho
    obtain ⟨A2, n2, c2, rfl⟩ := ho.slice
    have T1 := Lib.hid (S1.out.below b2 (by omega))
    have B2 := Lib.hid (B1.out.trans (b2.mono (by omega)))
    have HO3 := Lib.hid ho
    have hsz2 := b2.size
    rw [HFO.out]
    clear a0 a1 a2 a3 a4 a5 a6 a7 b2 ho HO2
    obtain ⟨z0, z1, z2, z3, z4, z5, z6, z7⟩ := T1.out.eight
    obtain ⟨fz0, fz1, fz2, fz3, fz4, fz5, fz6, fz7⟩ := T1.out.frees
    go_wp2
    refine bodyPost_ret (results_row_tmp Try.results9 _ _ _ _ #[.int .i64 d, .int .i64 b, .int .i64 p, .slice A2 n2 c2, .int .i64 fu, .int .i64 ke, .bool true, .int .i64 op] _ _ rfl
      (T1.out.put8 _ _ _ _ _ _ _ _) Try.underlying31 rfl infoFl8) rfl ?_
    refine ⟨_, rfl, ⟨_, by rw [HFO.out], (HO3.out.same ?_).wide (by omega) (by simp)⟩, ?_⟩
    · repeat refine sset ?_ (.inl (by omega)) _
      exact Same.refl _ _ _
    · repeat refine bset ?_ (by omega) _
      exact B2.out
  · have HPF := Lib.hid (HPgs.out false (by have := HL1.out hok; omega) (by have := HP1.out hok; omega) (by
      rw [hu3] at h2
      rw [HEQ.out.1] at h2
      simp only [Bool.false_eq_true, false_iff]
      rintro ⟨a, b⟩
      rcases h2 with h2 | h2 <;> contradiction))
    obtain ⟨a0, a1, a2, a3, a4, a5, a6, a7⟩ := S0.out.eight
    clear HO HPG HPgs hok hrs h2
    go_wp2_with fail
    refine (HPF.out _).mono ?_
    rintro e w2 ⟨rfl, b2⟩
    have T1 := Lib.hid (S1.out.below b2 (by omega))
    have B2 := Lib.hid (B1.out.trans (b2.mono (by omega)))
    clear a0 a1 a2 a3 a4 a5 a6 a7 b2
    obtain ⟨z0, z1, z2, z3, z4, z5, z6, z7⟩ := T1.out.eight
    obtain ⟨fz0, fz1, fz2, fz3, fz4, fz5, fz6, fz7⟩ := T1.out.frees
    go_wp2
    exact bodyPost_ret (results_row_tmp Try.results9 _ _ _ _ #[.int .i64 0, .int .i64 0, .int .i64 0, .slice none 0 0, .int .i64 0, .int .i64 0, .bool false, .int .i64 0] _ _ rfl
      (T1.out.put8 _ _ _ _ _ _ _ _) Try.underlying31 rfl infoFl8) rfl (ZEROS.out _ 2 T1.out B2.out)
  · have HPF := Lib.hid (HPgs.out true (by have := HL1.out hok; omega) (by have := HP1.out hok; omega) (by
      rw [HEQ.out.1] at hnp
      simp; omega))
    obtain ⟨a0, a1, a2, a3, a4, a5, a6, a7⟩ := S0.out.eight
    have hl9 := HL1.out hok
    clear HO HPG HPgs hok hrs
    go_wp2_with fail
    refine (HPF.out _).mono ?_
    rintro e w2 ⟨rfl, b2⟩
    have T0 := Lib.hid (S0.out.below b2 (by omega))
    have T1 := Lib.hid (S1.out.below b2 (by omega))
    have B2 := Lib.hid (B1.out.trans (b2.mono (by omega)))
    have hsz2 := b2.size
    clear a0 a1 a2 a3 a4 a5 a6 a7 b2
    obtain ⟨a0, a1, a2, a3, a4, a5, a6, a7⟩ := T0.out.eight
    obtain ⟨gb, o, pv, rfl, hg1, hg2, q0, q1, q2, q3⟩ := HBAD.out w2 (H.out.same (sm B2.out lo hh)) k (by omega)
    have hki : (k : Int) < (nu : Int) := by omega
    have hnm : (nu : Int) ≤ 1000 := by omega
    rw [h2] at q2
    obtain ⟨z0, z1, z2, z3, z4, z5, z6, z7⟩ := T1.out.eight
    obtain ⟨fz0, fz1, fz2, fz3, fz4, fz5, fz6, fz7⟩ := T1.out.frees
    go_wp2
    exact bodyPost_ret (results_row_tmp Try.results9 _ _ _ _ #[.int .i64 0, .int .i64 0, .int .i64 0, .slice none 0 0, .int .i64 0, .int .i64 0, .bool false, .int .i64 0] _ _ rfl
      (T1.out.put8 _ _ _ _ _ _ _ _) Try.underlying31 rfl infoFl8) rfl (ZEROS.out _ 7 T1.out B2.out)
  · have HPF := Lib.hid (HPgs.out true (by have := HL1.out hok; omega) (by have := HP1.out hok; omega) (by
      rw [HEQ.out.1] at hnp
      simp; omega))
    obtain ⟨a0, a1, a2, a3, a4, a5, a6, a7⟩ := S0.out.eight
    have hl9 := HL1.out hok
    clear HO HPG HPgs hok hrs
    go_wp2_with fail
    refine (HPF.out _).mono ?_
    rintro e w2 ⟨rfl, b2⟩
    have T0 := Lib.hid (S0.out.below b2 (by omega))
    have T1 := Lib.hid (S1.out.below b2 (by omega))
    have B2 := Lib.hid (B1.out.trans (b2.mono (by omega)))
    have hsz2 := b2.size
    clear a0 a1 a2 a3 a4 a5 a6 a7 b2
    obtain ⟨a0, a1, a2, a3, a4, a5, a6, a7⟩ := T0.out.eight
    obtain ⟨gb, o, pv, rfl, hg1, hg2, q0, q1, q2, q3⟩ := HBAD.out w2 (H.out.same (sm B2.out lo hh)) k (by omega)
    have hki : (k : Int) < (nu : Int) := by omega
    have hnm : (nu : Int) ≤ 1000 := by omega
    rw [h2] at q2
    generalize (F.blk k).nx = nx at *
    have hdd : (nx != (m : Int)) = true := bne_iff_ne.2 h3
    clear h3
    obtain ⟨z0, z1, z2, z3, z4, z5, z6, z7⟩ := T1.out.eight
    obtain ⟨fz0, fz1, fz2, fz3, fz4, fz5, fz6, fz7⟩ := T1.out.frees
    go_wp2
    exact bodyPost_ret (results_row_tmp Try.results9 _ _ _ _ #[.int .i64 0, .int .i64 0, .int .i64 0, .slice none 0 0, .int .i64 0, .int .i64 0, .bool false, .int .i64 0] _ _ rfl
      (T1.out.put8 _ _ _ _ _ _ _ _) Try.underlying31 rfl infoFl8) rfl (ZEROS.out _ 5 T1.out B2.out)
  · have HPF := Lib.hid (HPgs.out true (by have := HL1.out hok; omega) (by have := HP1.out hok; omega) (by
      rw [HEQ.out.1] at hnp
      simp; omega))
    obtain ⟨a0, a1, a2, a3, a4, a5, a6, a7⟩ := S0.out.eight
    have hl9 := HL1.out hok
    have HO2 := Lib.hid (HO.out hok)
    have HPG2 := Lib.hid (HPG.out hok hrs k hkl (by rw [h3]; exact HEQ.out.1 ▸ hnp))
    clear HO HPG HPgs hok hrs
    go_wp2_with fail
    refine (HPF.out _).mono ?_
    rintro e w2 ⟨rfl, b2⟩
    have T0 := Lib.hid (S0.out.below b2 (by omega))
    have T1 := Lib.hid (S1.out.below b2 (by omega))
    have B2 := Lib.hid (B1.out.trans (b2.mono (by omega)))
    have hsz2 := b2.size
    clear a0 a1 a2 a3 a4 a5 a6 a7 b2
    obtain ⟨a0, a1, a2, a3, a4, a5, a6, a7⟩ := T0.out.eight
    obtain ⟨gb, o, pv, rfl, hg1, hg2, q0, q1, q2, q3⟩ := HBAD.out w2 (H.out.same (sm B2.out lo hh)) k (by omega)
    have hki : (k : Int) < (nu : Int) := by omega
    have hnm : (nu : Int) ≤ 1000 := by omega
    rw [h2] at q2
    rw [h3] at q1
    have hdd : ((m : Int) != (m : Int)) = false := by simp
    have hcc := F.code_is
    generalize F.prog k raw = G' at *
    generalize F.code = co at *
    clear h3
    go_wp2_with fail
    refine (HO2.out _ (H.out.same (sm B2.out lo hh)) (by omega)).mono ?_
    rintro e w3 ⟨u2, rfl, ho, b3⟩
    obtain ⟨uu, rfl, ho⟩ := ho
    obtain ⟨A2, n2, c2, rfl⟩ := ho.slice
    have V1 := Lib.hid (T1.out.below b3 (by omega))
    have B3 := Lib.hid (B2.out.trans (b3.mono (by omega)))
    have HO3 := Lib.hid ho
    have hsz3 := b3.size
    rw [HFO.out]
    have L3 := Lib.hid (Rw.new w3 31 #[.int .i64 d, .int .i64 b, .int .i64 p, .slice A2 n2 c2, .int .i64 fu, .int .i64 ke, .bool false, .int .i64 op])
    have AL := Lib.hid ((Below.refl w3.heap.size w3).alloc (Nat.le_refl _) (.cells #[.int .i64 d, .int .i64 b, .int .i64 p, .slice A2 n2 c2, .int .i64 fu, .int .i64 ke, .bool false, .int .i64 op] 31))
    clear a0 a1 a2 a3 a4 a5 a6 a7 b3 ho q0 q1 q2 q3
    go_wp2_with fail
    refine (HPG2.out _ (.slice A2 n2 c2) w2.heap.size w3.heap.size w3.heap.size (by rw [HFO.out]; exact L3.out) (HO3.out.same (sm AL.out _ (Nat.le_refl _))) (Nat.le_refl _) hsz3).mono ?_
    rintro e w4 ⟨rfl, b4, hx4⟩
    obtain ⟨hr4, ho4⟩ := hx4 hcc
    have b4' : Below w2.heap.size w3 w4 := (AL.out.mono hsz3).trans b4
    have T4 := Lib.hid (V1.out.below b4' (by omega))
    have B4 := Lib.hid (B3.out.trans (b4'.mono (by omega)))
    have s4 := b4.size
    simp only [World.size_alloc] at s4
    have HO4 := Lib.hid ho4
    obtain ⟨gd, gb2, gp, gbs, gfu, gke, goff, gop⟩ := G'
    unfold flc at hr4
    simp only at hr4
    obtain ⟨a0, a1, a2, a3, a4, a5, a6, a7⟩ := hr4.eight
    clear b4 b4' hx4 hr4 ho4 AL L3
    obtain ⟨z0, z1, z2, z3, z4, z5, z6, z7⟩ := T4.out.eight
    obtain ⟨fz0, fz1, fz2, fz3, fz4, fz5, fz6, fz7⟩ := T4.out.frees
    go_wp2
    refine bodyPost_ret (results_row_tmp Try.results9 _ _ _ _ #[.int .i64 gd, .int .i64 gb2, .int .i64 gp, .slice A2 n2 c2, .int .i64 gfu, .int .i64 gke, .bool goff, .int .i64 gop] _ _ rfl
      (T4.out.put8 _ _ _ _ _ _ _ _) Try.underlying31 rfl infoFl8) rfl ?_
    refine ⟨_, rfl, ⟨_, rfl, (HO4.out.same ?_).wide (by omega) (by simp; omega)⟩, ?_⟩
    · repeat refine sset ?_ (.inl (by omega)) _
      exact Same.refl _ _ _
    · repeat refine bset ?_ (by omega) _
      exact B4.out
end Go.Proofs.Yteigdjocjcjkiaa
/- The lesser of two integers, in the model: the contract. -/
namespace Go.Proofs.Yteigdjocjcjkiaa
open Go.RowKit
theorem min_any (a b : Int) (w : World) : Calls Try.prog 81 #[.int .i64 a, .int .i64 b] w fun e w' => e = .returned (.int .i64 (min a b)) ∧ w = w' := by
  by_cases h : a < b
  · have e : min a b = a := by omega
    rw [e]
    clear e
    go_enter Try.func81, Try.ntmps81
    go_wp2
    go_ret
    exact ⟨rfl, rfl⟩
  · have e : min a b = b := by omega
    rw [e]
    clear e
    go_enter Try.func81, Try.ntmps81
    go_wp2
    go_ret
    exact ⟨rfl, rfl⟩
end Go.Proofs.Yteigdjocjcjkiaa
/- EraseBlock, in the model and in the program: the contracts. -/
namespace Go.Proofs.Yteigdjocjcjkiaa
open Go.RowKit
set_option linter.unusedVariables false
theorem Fl.code_of (F : Fl) : F.code = 0 ∨ F.code = 8 := by unfold Fl.code; split <;> simp
set_option maxHeartbeats 1000000 in
theorem implEra_any (v : Value) (block : Int) (F G : Fl) (c : Int) (w : World) (lo hi : Nat) (h : FlIn w lo hi v F) (hh : hi ≤ w.heap.size) (hG : EraEnds F block G c) (hl : FlLen F) :
    Calls Try.prog 23 #[v, .int .i64 block] w (FlPost G c w) := by
  obtain ⟨r, hr⟩ := prop_dec (FlOk F)
  obtain ⟨u, rfl, hb⟩ := h
  have hv : ∀ W : World, BksIn W lo hi u F.bs → FlIn W lo hi (.agg (flc F u)) F := fun W a => ⟨u, rfl, a⟩
  have HV := Lib.hid (fun (W : World) (a : BksIn W lo hi u F.bs) (c : hi ≤ W.heap.size) => implValid_any (.agg (flc F u)) F r W lo hi (hv W a) c hr hl)
  have HO := Lib.hid (fun (hok : FlOk F) (W : World) (a : BksIn W lo hi u F.bs) (c : hi ≤ W.heap.size) => clone_any (.agg (flc F u)) F W lo hi (hv W a) c hok)
  have HPG := Lib.hid (fun (hok : FlOk F) (W : World) (u2 : Value) (lo hi g : Nat) (a : Rw W g 31 (flc F u2)) (b : BksOwn W lo hi u2 F.bs) (c1 : hi ≤ g) (c2 : lo ≤ hi) => flErase_any W lo hi g F G u2 block c a b c1 c2 hok hG)
  have HC := Lib.hid hG.codes
  have HOU := Lib.hid (fun (W : World) (lo hi g : Nat) (u2 : Value) (a : g < W.heap.size) (b : (c = 0 ∨ c = 8) → Rw W g 31 (flc G u2) ∧ BksOwn W lo hi u2 G.bs) (d : hi ≤ W.heap.size) => outcome_any W lo hi g G u2 c a b d HC.out)
  have H := Lib.hid hb
  obtain ⟨Au, nu, cu, rfl⟩ := hb.slice
  have HF1 := Lib.hid (show ¬ FlOk F → G = Fl.zero ∧ c = 1 from fun hn => by
    rcases hG with _ | ⟨a, _⟩ | ⟨a, _⟩ | ⟨a, _⟩ | ⟨a, _⟩
    · exact ⟨rfl, rfl⟩
    all_goals exact absurd a hn)
  clear hb hv hl hG
  obtain ⟨FF, hFF⟩ : ∃ X, X = F := ⟨_, rfl⟩
  have hFl : flc F (.slice Au nu cu) = #[.int .i64 F.d, .int .i64 F.b, .int .i64 F.p, .slice Au nu cu, .int .i64 F.fu, .int .i64 F.ke, .bool F.off, .int .i64 F.op] := rfl
  have hFo : ∀ u, flc F u = #[.int .i64 F.d, .int .i64 F.b, .int .i64 F.p, u, .int .i64 F.fu, .int .i64 F.ke, .bool F.off, .int .i64 F.op] := fun u => rfl
  rw [hFl] at HV HO ⊢
  have HFO := Lib.hid hFo
  clear hFl hFo hFF
  generalize F.d = d at *
  generalize F.b = b at *
  generalize F.p = p at *
  generalize F.fu = fu at *
  generalize F.ke = ke at *
  generalize F.off = off at *
  generalize F.op = op at *
  obtain ⟨r0, r1, b0⟩ := Rw.two_new w 31 31 #[.int .i64 d, .int .i64 b, .int .i64 p, .slice Au nu cu, .int .i64 fu, .int .i64 ke, .bool off, .int .i64 op]
    #[.int .i64 0, .int .i64 0, .int .i64 0, .slice none 0 0, .int .i64 0, .int .i64 0, .bool false, .int .i64 0]
  have R0 := Lib.hid r0
  have R1 := Lib.hid r1
  have B0 := Lib.hid b0
  clear r0 r1 b0
  go_enter Try.func23, Try.ntmps23
  go_wp2_with fail
  refine (HV.out _ (H.out.same (sm B0.out lo hh)) (by simp; omega)).mono ?_
  rintro e w1 ⟨rfl, b1⟩
  have S0 := Lib.hid (R0.out.below b1 (by simp; omega))
  have S1 := Lib.hid (R1.out.below b1 (by simp))
  have B1 := Lib.hid (B0.out.trans (b1.mono (by simp; omega)))
  have hsz1 := b1.size
  simp only [World.size_alloc] at hsz1
  clear b1
  by_cases hok : FlOk F
  case neg =>
    obtain ⟨rfl, rfl⟩ := HF1.out hok
    obtain ⟨z0, z1, z2, z3, z4, z5, z6, z7⟩ := S1.out.eight
    obtain ⟨fz0, fz1, fz2, fz3, fz4, fz5, fz6, fz7⟩ := S1.out.frees
    have ZERO : Hid (∀ c : Int, FlPost Fl.zero c w (.returned (.tuple #[.agg #[.int .i64 0, .int .i64 0, .int .i64 0, .slice none 0 0, .int .i64 0, .int .i64 0, .bool false, .int .i64 0], .int .i64 c])) ((((((((w1.setCell ⟨w.heap.size + 1, 0, none⟩ (.int .i64 0)).setCell ⟨w.heap.size + 1, 1, none⟩ (.int .i64 0)).setCell ⟨w.heap.size + 1, 2, none⟩ (.int .i64 0)).setCell ⟨w.heap.size + 1, 3, none⟩ (.slice none 0 0)).setCell ⟨w.heap.size + 1, 4, none⟩ (.int .i64 0)).setCell ⟨w.heap.size + 1, 5, none⟩ (.int .i64 0)).setCell ⟨w.heap.size + 1, 6, none⟩ (.bool false)).setCell ⟨w.heap.size + 1, 7, none⟩ (.int .i64 0))) := Lib.hid (fun c => by
      refine ⟨_, rfl, zeroOwn _ _ _, ?_⟩
      repeat refine bset ?_ (by omega) _
      exact B1.out)
    clear HO HPG HC HOU HF1
    obtain rfl : r = false := (bool_of r hr).2 hok
    clear hr hok
    go_wp2
    exact bodyPost_ret (results_row_tmp Try.results23 _ _ _ _ #[.int .i64 0, .int .i64 0, .int .i64 0, .slice none 0 0, .int .i64 0, .int .i64 0, .bool false, .int .i64 0] _ _ rfl
      (S1.out.put8 _ _ _ _ _ _ _ _) Try.underlying31 rfl infoFl8) rfl (ZERO.out 1)
  obtain rfl : r = true := hr.2 hok
  have HO2 := Lib.hid (HO.out hok)
  have HPG2 := Lib.hid (HPG.out hok)
  obtain ⟨a0, a1, a2, a3, a4, a5, a6, a7⟩ := S0.out.eight
  clear hr hok HO HPG HC HF1
  go_wp2_with fail
  refine (HO2.out _ (H.out.same (sm B1.out lo hh)) (by omega)).mono ?_
  rintro e w2 ⟨u2, rfl, ho, b2⟩
  obtain ⟨uu, rfl, ho⟩ := ho
  obtain ⟨A2, n2, c2, rfl⟩ := ho.slice
  have T1 := Lib.hid (S1.out.below b2 (by omega))
  have B2 := Lib.hid (B1.out.trans (b2.mono (by omega)))
  have HO3 := Lib.hid ho
  have hsz2 := b2.size
  rw [HFO.out]
  have L3 := Lib.hid (Rw.new w2 31 #[.int .i64 d, .int .i64 b, .int .i64 p, .slice A2 n2 c2, .int .i64 fu, .int .i64 ke, .bool off, .int .i64 op])
  have AL := Lib.hid ((Below.refl w2.heap.size w2).alloc (Nat.le_refl _) (.cells #[.int .i64 d, .int .i64 b, .int .i64 p, .slice A2 n2 c2, .int .i64 fu, .int .i64 ke, .bool off, .int .i64 op] 31))
  clear a0 a1 a2 a3 a4 a5 a6 a7 b2 ho
  go_wp2_with fail
  refine (HPG2.out _ (.slice A2 n2 c2) w1.heap.size w2.heap.size w2.heap.size (by rw [HFO.out]; exact L3.out) (HO3.out.same (sm AL.out _ (Nat.le_refl _))) (Nat.le_refl _) hsz2).mono ?_
  rintro e w3 ⟨rfl, b3, hx3⟩
  have b3' : Below w1.heap.size w2 w3 := (AL.out.mono hsz2).trans b3
  have T3 := Lib.hid (T1.out.below b3' (by omega))
  have B3 := Lib.hid (B2.out.trans (b3'.mono (by omega)))
  have s3 := b3.size
  simp only [World.size_alloc] at s3
  have HX := Lib.hid hx3
  clear b3 b3' hx3
  go_wp2_with fail
  refine (HOU.out _ w1.heap.size w2.heap.size w2.heap.size (.slice A2 n2 c2) (by omega) HX.out (by omega)).mono ?_
  rintro e w4 ⟨v4, rfl, ho4, b4⟩
  obtain ⟨uv, rfl, hov⟩ := ho4
  obtain ⟨A4, n4, c4, rfl⟩ := hov.slice
  have T4 := Lib.hid (T3.out.below b4 (by omega))
  have B4 := Lib.hid (B3.out.trans (b4.mono (by omega)))
  have HO4 := Lib.hid hov
  have s4 := b4.size
  clear b4 hov HX HOU AL L3
  obtain ⟨z0, z1, z2, z3, z4, z5, z6, z7⟩ := T4.out.eight
  obtain ⟨fz0, fz1, fz2, fz3, fz4, fz5, fz6, fz7⟩ := T4.out.frees
  obtain ⟨gd, gb, gp, gbs, gfu, gke, goff, gop⟩ := G
  unfold flc
  simp only
  go_wp2
  refine bodyPost_ret (results_row_tmp Try.results23 _ _ _ _ #[.int .i64 gd, .int .i64 gb, .int .i64 gp, .slice A4 n4 c4, .int .i64 gfu, .int .i64 gke, .bool goff, .int .i64 gop] _ _ rfl
    (T4.out.put8 _ _ _ _ _ _ _ _) Try.underlying31 rfl infoFl8) rfl ?_
  refine ⟨_, rfl, ⟨_, rfl, (HO4.out.same ?_).wide (by omega) (by simp; omega)⟩, ?_⟩
  · repeat refine sset ?_ (.inl (by omega)) _
    exact Same.refl _ _ _
  · repeat refine bset ?_ (by omega) _
    exact B4.out
set_option maxRecDepth 100000 in
theorem spErase_bad (w : World) (g : Nat) (F : Fl) (lo hi : Nat) (u : Value) (k : Nat) (hR : Rw w g 31 (flc F u)) (hB : BksOwn w lo hi u F.bs) (hok : FlOk F) (hk : k < F.bs.length) (hbad : (F.blk k).bad = true ∨ (F.blk k).er = 1000) :
    Calls Try.prog 117 #[.pointer (some ⟨g, 0, none⟩), .int .i64 k] w fun e w' => e = .returned (.int .i64 7) ∧ w = w' := by
  have hn8 := hok.len
  obtain ⟨A, n, cap, rfl, hlc, hcm, hlen, hA⟩ := hB
  rw [hlen] at hn8
  have hnm : (n : Int) ≤ 36 := by omega
  obtain ⟨gb, pv, rfl, hbo⟩ := hA (by omega)
  obtain ⟨c0, c1, c2, c3, c4, c5, c6, c7⟩ := hR.eight
  obtain ⟨q0, q1, q2, q3⟩ := hbo.row k (by omega)
  change w.cell? ⟨gb, k * 4 + 2, none⟩ = some (.bool (F.blk k).bad) at q2
  change w.cell? ⟨gb, k * 4, none⟩ = some (.int .i64 (F.blk k).er) at q0
  have hki : (k : Int) < (n : Int) := by omega
  clear hA hR hlen hbo hok
  generalize (F.blk k).bad = bb at *
  generalize (F.blk k).er = er at *
  cases bb with
  | true =>
    clear hbad
    go_enter Try.func117, Try.ntmps117
    go_wp2
    go_ret
    exact ⟨rfl, rfl⟩
  | false =>
    obtain rfl : er = 1000 := by rcases hbad with h2 | h2; cases h2; exact h2
    clear hbad
    go_enter Try.func117, Try.ntmps117
    go_wp2
    go_ret
    exact ⟨rfl, rfl⟩
set_option maxHeartbeats 1000000 in
set_option maxRecDepth 100000 in
theorem spErase_any (w : World) (lo hi g : Nat) (F : Fl) (u : Value) (k : Nat) (hR : Rw w g 31 (flc F u)) (hB : BksOwn w lo hi u F.bs) (hg : hi ≤ g) (hlo : lo ≤ hi) (hok : FlOk F)
    (hk : k < F.bs.length) (hbad : (F.blk k).bad = false) (her : (F.blk k).er ≠ 1000) :
    Calls Try.prog 117 #[.pointer (some ⟨g, 0, none⟩), .int .i64 k] w (InPost lo hi g u (F.erase k) F.code w) := by
  have hn8 := hok.len
  have hRg := hR
  obtain ⟨A, n, cap, rfl, hlc, hcm, hlen, hA⟩ := hB
  rw [hlen] at hn8
  have hnm : (n : Int) ≤ 36 := by omega
  obtain ⟨gb, pv, rfl, hbo⟩ := hA (by omega)
  have hgl := hR.lt
  have hpl := hok.plen (i := k) (by omega)
  have hbk := hok.2.2.1 k (by omega)
  have hki : (k : Int) < (n : Int) := by omega
  have hS := Lib.hid (tick_any g F (.slice (some ⟨gb, 0, none⟩) n cap) w hRg hok.2.2.2.1)
  obtain ⟨c0, c1, c2, c3, c4, c5, c6, c7⟩ := hR.eight
  have HD := Lib.hid (And.intro (erase_bs F k) (show flc (F.erase k) (.slice (some ⟨gb, 0, none⟩) n cap) = flc F.tick (.slice (some ⟨gb, 0, none⟩) n cap) from rfl))
  have HLL := Lib.hid (show (F.bs.set k ((F.blk k).erase F.much.toNat)).length = n by rw [List.length_set]; exact hlen)
  have HBO := Lib.hid (hbo.self (k := k) (by omega))
  have HK := Lib.hid hk
  obtain ⟨b, off, pcap, hv, hv1, hv2⟩ := hbo.somePg (k := k) (by omega) (by show 0 < (F.blk k).pg.length; omega)
  have HV := Lib.hid hv
  have hke := hok.2.2.2.2.1
  have hlow := hbo.low
  have hhigh := hbo.high
  have her2 := hbk.1
  have hgg : ¬ gb = g := by omega
  have hgg2 : ¬ g = gb := by omega
  change Hid (BO w lo hi gb pv (F.bs.set k (F.blk k))) at HBO
  change (F.blk k).pg.length ≤ pcap at hv1
  change Hid (pv k = .slice (some ⟨b, off, none⟩) (F.blk k).pg.length pcap) at HV
  have HXX := Lib.hid (fun u => show (flc F.tick u)[5]? = some (.int .i64 F.ke) ∧ (flc F.tick u)[2]? = some (.int .i64 F.p) from ⟨rfl, rfl⟩)
  have HMU := Lib.hid (show F.much = if F.fu = 0 then F.ke else 91 from rfl)
  have HCO := Lib.hid (show F.code = if F.fu = 0 then 8 else 0 from rfl)
  obtain ⟨q0, q1, q2, q3⟩ := HBO.out.cells HK.out
  have hp := hpl.2.2
  rw [hbad] at q2
  have hki' := hok.1.p16
  generalize hF : F.fu = fu at *
  generalize F.erase k = G' at *
  generalize F.blk k = y at *
  generalize F.ke = ke at *
  generalize F.much = mu at *
  generalize F.code = co at *
  obtain ⟨er, nx, bad, pg⟩ := y
  simp only at hpl hp hbad her her2 hv1 HV q0 q1
  subst hbad
  obtain ⟨P, hP⟩ : ∃ P, P = pg.length := ⟨_, rfl⟩
  have HP := Lib.hid hP
  rw [← hP] at hpl hp hv1 HV
  rw [← hp] at HXX
  obtain ⟨kk, rfl⟩ := Int.eq_ofNat_of_zero_le hke.1
  have hP8 : 8 ≤ P := by omega
  have hP16 : (P : Int) ≤ 16 := by omega
  have hk91 : kk ≤ 91 := by omega
  clear hA hR hRg hlen hbo hv hok hbk hpl hp hP hke hki' hF
  by_cases hf : fu = 0
  · subst hf
    obtain rfl : mu = (kk : Int) := HMU.out.trans (if_pos rfl)
    obtain rfl : co = 8 := HCO.out.trans (if_pos rfl)
    have hM := Lib.hid (show min (kk : Int) (P : Int) = ((min kk P : Nat) : Int) by omega)
    obtain ⟨M, hMM⟩ : ∃ M, M = min kk P := ⟨_, rfl⟩
    rw [← hMM] at hM
    have hMP : M ≤ P := by omega
    have HE := Lib.hid (show emptied pg M = emptied pg kk by rw [hMM, HP.out, emptied_min])
    have HMN := Lib.hid (show (M < P ↔ kk < P) by omega)
    clear hMM
    go_enter Try.func117, Try.ntmps117
    go_wp2_with fail
    refine hS.out.mono ?_
    rintro e w1 ⟨rfl, r1, gr1⟩
    have k5 : w1.cell? ⟨g, 5, none⟩ = some (.int .i64 (kk : Int)) := (r1.cell 5).trans (HXX.out _).1
    have k2 : w1.cell? ⟨g, 2, none⟩ = some (.int .i64 (P : Int)) := (r1.cell 2).trans (HXX.out _).2
    have s1 := gr1.size
    have o1 := HBO.out.same (same_grown gr1 hg (by omega))
    have O1 := Lib.hid o1
    have hb1 := Lib.hid (grown_keep gr1 (B := lo) (by omega) (by omega))
    have R1 := Lib.hid r1
    obtain ⟨t0, t1, t2, t3⟩ := O1.out.cells HK.out
    simp only at t0 t1 t2
    have f0 := O1.out.free (k * 4)
    clear r1 gr1 o1 c0 c1 c2 c3 c4 c5 c6 c7 q0 q1 q2 q3
    go_wp2_with fail
    refine (min_any _ _ _).mono ?_
    rintro e wz ⟨rfl, rfl⟩
    rw [hM.out]
    have o2 := O1.out.storeS (c := 0) HK.out (.int .i64 (er + 1)) (.inl ⟨rfl, _, rfl⟩)
    rw [Nat.add_zero] at o2
    have O2 := Lib.hid o2
    have K2 := Lib.hid ((Keep.refl lo hi w1).set_ (g := gb) (k := k * 4) hlow hhigh (.int .i64 (er + 1)))
    generalize w1.setCell ⟨gb, k * 4, none⟩ (.int .i64 (er + 1)) = w2 at *
    obtain ⟨a, ha⟩ : ∃ a, a = (Blk.mk er nx false pg).put 0 (.int .i64 (er + 1)) := ⟨_, rfl⟩
    rw [← ha] at O2
    have HA := Lib.hid ha
    have HPA := Lib.hid (show a.pg = pg by rw [ha]; rfl)
    clear ha o2 t0 t1 t2 t3 f0 k5 k2
    go_wp2
    go_loopw [8] (fun i wr => ∃ t : Nat, t ≤ M ∧ i = .int .i64 t ∧ Hid (BO wr lo hi gb pv (F.bs.set k (a.pages (emptied pg t)))) ∧ Hid (Keep lo hi w1 wr)) (fun i _ => M - (intOf i).toNat)
    case atStart => exact ⟨0, by omega, rfl, Lib.hid (by rw [emptied_zero, ← HPA.out]; exact O2.out), K2⟩
    case round =>
      obtain ⟨t, ht, rfl, OT, KT⟩ := hrel
      have k2 : wr.cell? ⟨g, 2, none⟩ = some (.int .i64 (P : Int)) := ((R1.out.kept KT.out hg).cell 2).trans (HXX.out _).2
      obtain ⟨t0, t1, t2, t3⟩ := OT.out.cells HK.out
      rw [HV.out] at t3
      have fn := OT.out.free (k * 4 + 1)
      by_cases hlt : t < M
      · have hti : (t : Int) < (M : Int) := by omega
        have htP : (t : Int) < (P : Int) := by omega
        obtain ⟨e0, e1, e2, e3, e4⟩ := OT.out.pageS HK.out HV.out (t := t) (by omega)
        have o3 := OT.out.storePgS HK.out HV.out (t := t) (by omega) ByteArray.empty (by show 0 ≤ _; omega)
        have ee : (a.pages (emptied pg t)).pages ((a.pages (emptied pg t)).pg.set t ByteArray.empty) = a.pages (emptied pg (t + 1)) := by
          show a.pages ((emptied pg t).set t ByteArray.empty) = _
          rw [emptied_step _ _ (by have := HP.out; omega)]
        rw [ee] at o3
        have O3 := Lib.hid o3
        have K3 := Lib.hid (KT.out.set_ (g := b) (k := off + t) e2 e3 (.string ByteArray.empty))
        clear o3 ee t0 t1 t2 fn k2
        go_wp2
        go_roundw
        case rel => exact ⟨t + 1, by omega, by go_num, O3, K3⟩
        case measure => simp [intOf]; omega
      · obtain rfl : t = M := by omega
        have o4 := OT.out.storeS (c := 1) HK.out (.int .i64 0) (.inr (.inl ⟨rfl, _, rfl⟩))
        have K4 := Lib.hid (KT.out.set_ (g := gb) (k := k * 4 + 1) hlow hhigh (.int .i64 0))
        have k2' : (wr.setCell ⟨gb, k * 4 + 1, none⟩ (.int .i64 0)).cell? ⟨g, 2, none⟩ = some (.int .i64 (P : Int)) := ((R1.out.kept K4.out hg).cell 2).trans (HXX.out _).2
        clear k2
        by_cases hlt2 : t < P
        · have hti2 : (t : Int) < (P : Int) := by omega
          have O5 := Lib.hid (o4.storeS (c := 1) HK.out (.int .i64 (P : Int)) (.inr (.inl ⟨rfl, _, rfl⟩)))
          have K5 := Lib.hid (K4.out.set_ (g := gb) (k := k * 4 + 1) hlow hhigh (.int .i64 (P : Int)))
          have HEE := Lib.hid (show Blk.erase ⟨er, nx, false, pg⟩ kk = ((a.pages (emptied pg t)).put 1 (.int .i64 0)).put 1 (.int .i64 (P : Int)) from by
            unfold Blk.erase
            rw [if_pos (by rw [← HP.out]; exact HMN.out.1 hlt2), HE.out, HA.out, HP.out]; rfl)
          clear o4 t0 t2 t3 K4
          go_wp2
          go_ret
          refine ⟨rfl, hb1.out.trans K5.out.1, fun _ => ⟨?_, ?_⟩⟩
          · rw [HD.out.2]; exact R1.out.kept K5.out hg
          · exact ⟨_, n, cap, rfl, hlc, hcm, by rw [HD.out.1]; exact HLL.out, fun _ => ⟨gb, pv, rfl, by rw [HD.out.1]; refine (congrArg (fun q => BO _ lo hi gb pv (F.bs.set k q)) HEE.out).mpr O5.out⟩⟩
        · have hti2 : ¬ (t : Int) < (P : Int) := by omega
          have O4 := Lib.hid o4
          have HEE := Lib.hid (show Blk.erase ⟨er, nx, false, pg⟩ kk = (a.pages (emptied pg t)).put 1 (.int .i64 0) from by
            unfold Blk.erase
            rw [if_neg (by rw [← HP.out]; exact fun h => hlt2 (HMN.out.2 h)), HE.out, HA.out]; rfl)
          clear o4 t0 t2 t3
          go_wp2
          go_ret
          refine ⟨rfl, hb1.out.trans K4.out.1, fun _ => ⟨?_, ?_⟩⟩
          · rw [HD.out.2]; exact R1.out.kept K4.out hg
          · exact ⟨_, n, cap, rfl, hlc, hcm, by rw [HD.out.1]; exact HLL.out, fun _ => ⟨gb, pv, rfl, by rw [HD.out.1]; refine (congrArg (fun q => BO _ lo hi gb pv (F.bs.set k q)) HEE.out).mpr O4.out⟩⟩
  · obtain rfl : mu = 91 := HMU.out.trans (if_neg hf)
    obtain rfl : co = 0 := HCO.out.trans (if_neg hf)
    rw [show decide (fu = 0) = false by simp [hf]] at hS
    have HE := Lib.hid (show emptied pg P = emptied pg 91 by rw [← emptied_min pg 91, ← HP.out, Nat.min_eq_right (by omega)])
    go_enter Try.func117, Try.ntmps117
    go_wp2_with fail
    refine hS.out.mono ?_
    rintro e w1 ⟨rfl, r1, gr1⟩
    have k5 : w1.cell? ⟨g, 5, none⟩ = some (.int .i64 (kk : Int)) := (r1.cell 5).trans (HXX.out _).1
    have k2 : w1.cell? ⟨g, 2, none⟩ = some (.int .i64 (P : Int)) := (r1.cell 2).trans (HXX.out _).2
    have s1 := gr1.size
    have o1 := HBO.out.same (same_grown gr1 hg (by omega))
    have O1 := Lib.hid o1
    have hb1 := Lib.hid (grown_keep gr1 (B := lo) (by omega) (by omega))
    have R1 := Lib.hid r1
    obtain ⟨t0, t1, t2, t3⟩ := O1.out.cells HK.out
    simp only at t0 t1 t2
    have f0 := O1.out.free (k * 4)
    clear r1 gr1 o1 c0 c1 c2 c3 c4 c5 c6 c7 q0 q1 q2 q3
    go_wp2
    have o2 := O1.out.storeS (c := 0) HK.out (.int .i64 (er + 1)) (.inl ⟨rfl, _, rfl⟩)
    rw [Nat.add_zero] at o2
    have O2 := Lib.hid o2
    have K2 := Lib.hid ((Keep.refl lo hi w1).set_ (g := gb) (k := k * 4) hlow hhigh (.int .i64 (er + 1)))
    generalize w1.setCell ⟨gb, k * 4, none⟩ (.int .i64 (er + 1)) = w2 at *
    obtain ⟨a, ha⟩ : ∃ a, a = (Blk.mk er nx false pg).put 0 (.int .i64 (er + 1)) := ⟨_, rfl⟩
    rw [← ha] at O2
    have HA := Lib.hid ha
    have HPA := Lib.hid (show a.pg = pg by rw [ha]; rfl)
    clear ha o2 t0 t1 t2 t3 f0 k5 k2
    
    go_loopw [8] (fun i wr => ∃ t : Nat, t ≤ P ∧ i = .int .i64 t ∧ Hid (BO wr lo hi gb pv (F.bs.set k (a.pages (emptied pg t)))) ∧ Hid (Keep lo hi w1 wr)) (fun i _ => P - (intOf i).toNat)
    case atStart => exact ⟨0, by omega, rfl, Lib.hid (by rw [emptied_zero, ← HPA.out]; exact O2.out), K2⟩
    case round =>
      obtain ⟨t, ht, rfl, OT, KT⟩ := hrel
      have k2 : wr.cell? ⟨g, 2, none⟩ = some (.int .i64 (P : Int)) := ((R1.out.kept KT.out hg).cell 2).trans (HXX.out _).2
      obtain ⟨t0, t1, t2, t3⟩ := OT.out.cells HK.out
      rw [HV.out] at t3
      have fn := OT.out.free (k * 4 + 1)
      by_cases hlt : t < P
      · have hti : (t : Int) < (P : Int) := by omega
        have htP : (t : Int) < (P : Int) := by omega
        obtain ⟨e0, e1, e2, e3, e4⟩ := OT.out.pageS HK.out HV.out (t := t) (by omega)
        have o3 := OT.out.storePgS HK.out HV.out (t := t) (by omega) ByteArray.empty (by show 0 ≤ _; omega)
        have ee : (a.pages (emptied pg t)).pages ((a.pages (emptied pg t)).pg.set t ByteArray.empty) = a.pages (emptied pg (t + 1)) := by
          show a.pages ((emptied pg t).set t ByteArray.empty) = _
          rw [emptied_step _ _ (by have := HP.out; omega)]
        rw [ee] at o3
        have O3 := Lib.hid o3
        have K3 := Lib.hid (KT.out.set_ (g := b) (k := off + t) e2 e3 (.string ByteArray.empty))
        clear o3 ee t0 t1 t2 fn k2
        go_wp2
        go_roundw
        case rel => exact ⟨t + 1, by omega, by go_num, O3, K3⟩
        case measure => simp [intOf]; omega
      · have htM : t = P := by omega
        have hti : ¬ (t : Int) < (P : Int) := by omega
        have o4 := OT.out.storeS (c := 1) HK.out (.int .i64 0) (.inr (.inl ⟨rfl, _, rfl⟩))
        have K4 := Lib.hid (KT.out.set_ (g := gb) (k := k * 4 + 1) hlow hhigh (.int .i64 0))
        have k2' : (wr.setCell ⟨gb, k * 4 + 1, none⟩ (.int .i64 0)).cell? ⟨g, 2, none⟩ = some (.int .i64 (P : Int)) := ((R1.out.kept K4.out hg).cell 2).trans (HXX.out _).2
        have O4 := Lib.hid o4
        have HEE := Lib.hid (show Blk.erase ⟨er, nx, false, pg⟩ 91 = (a.pages (emptied pg t)).put 1 (.int .i64 0) from by
          unfold Blk.erase
          rw [if_neg (by rw [← HP.out]; omega), ← HE.out, HA.out, htM]; rfl)
        clear o4 t0 t2 t3 htM k2
        go_wp2
        go_ret
        refine ⟨rfl, hb1.out.trans K4.out.1, fun _ => ⟨?_, ?_⟩⟩
        · rw [HD.out.2]; exact R1.out.kept K4.out hg
        · exact ⟨_, n, cap, rfl, hlc, hcm, by rw [HD.out.1]; exact HLL.out, fun _ => ⟨gb, pv, rfl, by rw [HD.out.1]; refine (congrArg (fun q => BO _ lo hi gb pv (F.bs.set k q)) HEE.out).mpr O4.out⟩⟩
end Go.Proofs.Yteigdjocjcjkiaa
