/- The proof's own lemmas, part 19: CxO WoS. -/
import Derived.Test.YtgamoiagpglcmaaProg
import Derived.Test.YtgamoiagpglcmaaMg17
import Derived.Deep.RegionLaw
import Derived.Deep.Upon
import Derived.StillTailTactics
import Derived.Test.YtgamoiagpglcmaaMg13
import Derived.Test.YtgamoiagpglcmaaMg16
import Derived.Test.YtgamoiagpglcmaaMg15
import Derived.Test.YtgamoiagpglcmaaMg14
import Derived.Deep.RegionHeld3
import Derived.Deep.Cut
import Derived.Deep.DeepCutAuto
/- append of nothing; a list copied whatever its length (the model's l00Own): the contracts. -/
namespace Go.Proofs.Ytgamoiagpglcmaa
open Go.RowKit
set_option linter.unusedVariables false
set_option linter.unusedSimpArgs false

theorem wpList_append_none {Q : Exit → Act → World → Prop} {ops : Array Oper} {rest : List Oper} {o : Oper} {a : Act} (w : World) (hgd : o.guard = none) (s x : Operand) (t e : TypeId) (i : TypeInfo)
    (ho : o.op = .call { callee := .builtin .append, args := #[s, x], argTypes := #[t, t] }) (ht : Try.prog.underlying t = some (.slice e)) (hi : Try.prog.info? e = some i)
    (B : Option Addr) (n cap : Nat) (hle : n ≤ cap) (hs : a.eval s = .slice B n cap) (A : Option Addr) (c : Nat) (hx : a.eval x = .slice A 0 c)
    (h : wpList Try.prog ops Q rest (a.put o.dst (.slice B n cap)) w) : wpList Try.prog ops Q (o :: rest) a w := by
  refine wpList_plain hgd fun K hK' => ?_
  have hrun : (Builtin.append_ #[t, t] o.type #[.slice B n cap, .slice A 0 c]).run Try.prog w = .ok (.slice B n cap) w := by
    refine run_append_nothing w t t o.type e i ht hi B n cap hle _ ?_
    cases A with
    | none => exact Src.ofNil _ ht c
    | some ad => exact Src.ofSlice _ ht ad 0 c [] (by simp) (fun j u hj => by simp at hj) (fun u hu => by simp at hu)
  unfold Oper.wp
  simp [execOp, ho, resolve, invoke, builtin, hs, hx, hrun, Result.andThen]
  exact hK' _ _ h
theorem own0_any (A : Option Addr) (c : Nat) (w : World) : Calls Try.prog 140 #[.slice A 0 c] w (CopyPostI [] w) := by
  obtain ⟨i0, hi, _⟩ := info_parts info64
  have hi1 := IntsOwn.made w (B := w.heap.size) (Nat.le_refl _)
  have hb1 := (Below.refl w.heap.size w).alloc (Nat.le_refl _) (.cells #[] 2)
  have HI := Lib.hid hi1
  have HB := Lib.hid hb1
  clear hi1 hb1
  go_enter Try.func140, Try.ntmps140
  go_wp2_with (at_builtin; refine wpList_append_none _ rfl _ _ _ _ i0 rfl Try.underlying22 hi _ 0 0 (Nat.le_refl _) rfl A c rfl ?_)
  go_ret
  exact ⟨_, rfl, HI.out, HB.out⟩
theorem ownAny_any (v : Value) (L : List Int) (w : World) (hi : Nat) (hv : NI w hi v L) (hh : hi ≤ w.heap.size) (hl : L.length ≤ 1048576) :
    Calls Try.prog 140 #[v] w (CopyPostI L w) := by
  rcases Nat.eq_zero_or_pos L.length with h0 | h0
  · obtain ⟨A, n, c, rfl, _, _, hn, _⟩ := hv
    obtain rfl : n = 0 := by omega
    obtain rfl : L = [] := List.eq_nil_of_length_eq_zero h0
    exact own0_any A c w
  · exact ownInts_any v L w hi hv hh h0 hl
end Go.Proofs.Ytgamoiagpglcmaa
/- A state of the blocks copied, in the model (l12Own): the contract. -/
namespace Go.Proofs.Ytgamoiagpglcmaa
open Go.RowKit
set_option linter.unusedVariables false
set_option linter.unusedSimpArgs false
theorem ownApart {w : World} {B : Nat} {v u : Value} {l : List Int} {m : List Bool} (h : IntsOwn w B v l) (k : BoolsOwn w B u m) : v.ownBlock = none ∨ v.ownBlock ≠ u.ownBlock := by
  rcases h.2 with ⟨h1, _⟩ | ⟨g, cap, cur, h1, h2, h3, h4⟩
  · left; rw [h1]; rfl
  · right
    rcases k.2 with ⟨k1, _⟩ | ⟨g', cap', cur', k1, k2, k3, k4⟩
    · rw [h1, k1]; intro e; cases e
    · rw [h1, k1]
      intro e
      obtain rfl : g = g' := Option.some.inj e
      rw [h3] at k3
      injection k3 with k3
      injection k3 with e1 e2
      exact absurd e2 (by decide)
theorem step_append_boolL {Q : Exit → Act → World → Prop} {K : Act → World → Prop} {E : Prop} {ops : Array Oper} {o : Oper} {a : Act} {w0 wr : World} {B : Nat} (hgd : o.guard = none) (s x : Operand)
    (ho : o.op = .call { callee := .builtin .append, args := #[s, x], argTypes := #[23, 23] })
    (v : Value) (l : List Bool) (hs : a.eval s = v) (hown : BoolsOwn wr B v l) (hb : Below B w0 wr) (hB : B ≤ wr.heap.size)
    (pb po m c : Nat) (L : List Bool) (hx : a.eval x = .slice (some ⟨pb, po, none⟩) m c) (hL : L.length = m) (hc : ∀ i, i < m → wr.cell? ⟨pb, po + i, none⟩ = some (.bool (L.getD i false))) (hl : l.length + m ≤ 2097152)
    (h : ∀ v' w', BoolsOwn w' B v' (l ++ L) → Below B w0 w' → wr.grownBy w' v.ownBlock → K (a.put o.dst v') w') :
    if Region.wanted o (yielded ops a.tmps) = true then Oper.wp Try.prog o a wr K Q else E := by
  have hw : Region.wanted o (yielded ops a.tmps) = true := by simp [Region.wanted, hgd]
  rw [if_pos hw]
  obtain ⟨i0, hi, hz0, hz1, hz2⟩ := info_parts infoBo
  refine wp_append_own wr s x _ ho B 4 i0 (.bool false) 1 1 Try.underlying23 hi hz0 hz1 hz2 rfl (by decide) v l.length (l.map Value.bool) hs hown ⟨pb, po, none⟩ m c (L.map Value.bool) hx (by simp [hL]) ?_ ?_ (by unfold maxLen; omega) (by omega) hB ?_
  · intro j u hj
    have hlt : j < L.length := by
      rcases Nat.lt_or_ge j L.length with h | h
      · exact h
      · rw [List.getElem?_eq_none (by simpa using h)] at hj; cases hj
    rw [Addr.add_lit, hc j (by omega)]
    simp [hlt] at hj ⊢
    exact hj
  · intro u hu; simp at hu; rcases hu with ⟨_, rfl⟩ | ⟨_, rfl⟩ <;> rfl
  · intro v' w' h1 h2 _
    refine h v' w' ?_ (hb.grown h2 hB fun k hk => (World.ownsRow.lt hown k hk).1) h2
    unfold BoolsOwn; simpa [hL] using h1

def WePost1 (M : We) (w : World) (e : Ending) (w' : World) : Prop := ∃ u, e = .returned u ∧ WeOwn w' w.heap.size w'.heap.size u M ∧ Below w.heap.size w w'
set_option maxHeartbeats 8000000 in
set_option maxRecDepth 100000 in
theorem specOwn12_any (u : Value) (M : We) (w : World) (hi : Nat) (h : WeIn w hi u M) (hh : hi ≤ w.heap.size) (h1 : 1 ≤ M.e.length) (h2 : M.b.length = M.e.length) (h3 : M.c.length = M.e.length) (hz : M.e.length ≤ 36) :
    Calls Try.prog 72 #[u] w (WePost1 M w) := by
  obtain ⟨ae, ab, ac, rfl, i1, i2, i3⟩ := h
  have HCE := Lib.hid (fun (W : World) (b : Below w.heap.size w W) => ownAny_any ae M.e W hi (i1.below b hh) (Nat.le_trans hh b.size) (by omega))
  have HCC := Lib.hid (fun (W : World) (b : Below w.heap.size w W) => ownAny_any ac M.c W hi (i3.below b hh) (Nat.le_trans hh b.size) (by omega))
  obtain ⟨A1, n1, k1, rfl⟩ := i1.slice
  obtain ⟨A3, n3, k3, rfl⟩ := i3.slice
  obtain ⟨A2, n2, k2, rfl, _, _, hn2, hA2⟩ := i2
  obtain ⟨pb, po, rfl, hpb, hxb⟩ := hA2 (by omega)
  obtain ⟨e, b, c, nb⟩ := M
  unfold wec
  simp only at *
  have HLB := Lib.hid hn2
  have HCB := Lib.hid (fun (W : World) (B : Below w.heap.size w W) (i : Nat) (hi2 : i < n2) => (B.cell (p := ⟨pb, po + i, none⟩) (by show pb < _; omega)).trans (hxb i hi2))
  obtain ⟨r0, r1, bb⟩ := Rw.two_new w 27 27 #[.slice A1 n1 k1, .slice (some ⟨pb, po, none⟩) n2 k2, .slice A3 n3 k3, .int .i64 nb] #[.slice none 0 0, .slice none 0 0, .slice none 0 0, .int .i64 0]
  obtain ⟨W0, hW0⟩ : ∃ W0, W0 = (w.alloc (.cells #[.slice A1 n1 k1, .slice (some ⟨pb, po, none⟩) n2 k2, .slice A3 n3 k3, .int .i64 nb] 27)).alloc (.cells #[.slice none 0 0, .slice none 0 0, .slice none 0 0, .int .i64 0] 27) := ⟨_, rfl⟩
  obtain ⟨z, hzz⟩ : ∃ z, z = w.heap.size + 2 := ⟨_, rfl⟩
  have hz0 : W0.heap.size = z := by rw [hW0, hzz]; simp
  rw [← hW0] at r0 r1 bb
  have KP := Lib.hid (fun (W : World) (b : Below z W0 W) => show (W.cell? ⟨w.heap.size, 0, none⟩ = some (.slice A1 n1 k1) ∧ W.cell? ⟨w.heap.size, 1, none⟩ = some (.slice (some ⟨pb, po, none⟩) n2 k2) ∧ W.cell? ⟨w.heap.size, 2, none⟩ = some (.slice A3 n3 k3) ∧ W.cell? ⟨w.heap.size, 3, none⟩ = some (.int .i64 nb)) ∧ Rw W (w.heap.size + 1) 27 #[.slice none 0 0, .slice none 0 0, .slice none 0 0, .int .i64 0] ∧ Below w.heap.size w W from
    ⟨(r0.below b (by omega)).four, r1.below b (by omega), bb.trans (b.mono (by omega))⟩)
  have KR := Lib.hid (fun (W : World) (b : Below z W0 W) => show Rw W w.heap.size 27 #[.slice A1 n1 k1, .slice (some ⟨pb, po, none⟩) n2 k2, .slice A3 n3 k3, .int .i64 nb] from r0.below b (by omega))
  have hb0 : Below z W0 W0 := Below.refl _ _
  have HZ := Lib.hid hz0
  have HZE := Lib.hid hzz
  have Z0 : z ≤ W0.heap.size := by omega
  have HM := Lib.hid (show BoolsOwn (W0.alloc (.cells #[] 4)).drew z (.slice (some ⟨W0.heap.size, 0, none⟩) 0 0) [] from BoolsOwn.made W0 (B := z) Z0)
  have HSZ := Lib.hid (show n2 ≤ 36 by omega)
  have HS2 := Lib.hid (show ([] : List Bool).length + n2 ≤ 2097152 by simp; omega)
  clear r0 r1 bb i1 i3 hA2 hxb h1 h2 h3 hz hn2 hh hpb hzz hz0
  go_enter Try.func72, Try.ntmps72
  go_upto_region 1 with fail
  rw [← hW0]
  clear hW0
  obtain ⟨⟨q0, q1, q2, q3⟩, kr, kb⟩ := KP.out _ hb0.drew
  clear kr kb
  go_region_held3 (fun W => W.cell? ⟨w.heap.size, 0, none⟩ = some (.slice A1 n1 k1) ∧ W.cell? ⟨w.heap.size, 1, none⟩ = some (.slice (some ⟨pb, po, none⟩) n2 k2) ∧ W.cell? ⟨w.heap.size, 2, none⟩ = some (.slice A3 n3 k3) ∧ W.cell? ⟨w.heap.size, 3, none⟩ = some (.int .i64 nb))
    (first
      | with_reducible exact (KP.out _ hb0.drew).1
      | with_reducible exact (KP.out _ (hb0.alloc Z0 _).drew).1
      | with_reducible exact (KP.out _ Bc).1
      | with_reducible exact (KP.out _ (Bc.alloc Zc _)).1
      | with_reducible exact kS)
    (first
      | (go_at_call 140
         with_reducible refine (HCE.out _ (KP.out _ hb0.drew).2.2).mono ?_
         rintro e w1 ⟨v, rfl, ho, q⟩
         have Bd := hb0.drew
         have Bc := Bd.trans (q.mono (Nat.le_trans Z0 Bd.size))
         have Zc : z ≤ w1.heap.size := Nat.le_trans Z0 Bc.size
         obtain ⟨AE, nE, cE, rfl⟩ := ho.sliceOf'
         have HE := Lib.hid (ho.low (B' := z) (Nat.le_trans Z0 Bd.size))
         have RE := Lib.hid (show ∀ k, (Value.slice AE nE cE).ownBlock = some k → k < w1.heap.size from fun k e => (ho.blockOf e).2)
         clear ho q Bd)
      | (go_at_call 140
         with_reducible refine (HCE.out _ (KP.out _ (hb0.alloc Z0 (.cells #[] 4)).drew).2.2).mono ?_
         rintro e w1 ⟨v, rfl, ho, q⟩
         have Bd := (hb0.alloc Z0 (.cells #[] 4)).drew
         have Bc := Bd.trans (q.mono (Nat.le_trans Z0 Bd.size))
         have Zc : z ≤ w1.heap.size := Nat.le_trans Z0 Bc.size
         obtain ⟨AE, nE, cE, rfl⟩ := ho.sliceOf'
         have HE := Lib.hid (ho.low (B' := z) (Nat.le_trans Z0 Bd.size))
         have RE := Lib.hid (show ∀ k, (Value.slice AE nE cE).ownBlock = some k → k < w1.heap.size from fun k e => (ho.blockOf e).2)
         have HB0 := Lib.hid (HM.out.later q (Nat.le_refl _))
         clear ho q Bd)
      | (go_at_call 140
         with_reducible refine (HCC.out _ (KP.out _ Bc).2.2).mono ?_
         rintro e w3 ⟨v, rfl, ho, q⟩
         have Bd := Bc
         have Bc := Bd.trans (q.mono (Nat.le_trans Z0 Bd.size))
         have Zc : z ≤ w3.heap.size := Nat.le_trans Z0 Bc.size
         obtain ⟨AC, nC, cC, rfl⟩ := ho.sliceOf'
         have HC := Lib.hid (ho.low (B' := z) (Nat.le_trans Z0 Bd.size))
         have RC := Lib.hid (show ∀ k, (Value.slice AC nC cC).ownBlock = some k → w1.heap.size ≤ k from fun k e => Nat.le_trans HBS.out (ho.blockOf e).1)
         have HE' := Lib.hid (HE.out.later q (Nat.le_refl _)); clear HE; have HE := HE'; clear HE'
         have HB' := Lib.hid (HB.out.later q (Nat.le_refl _)); clear HB; have HB := HB'; clear HB'
         have kS := (((((KR.out _ Bc).farA (g' := w.heap.size + 1) (k := 0) (by omega) (.slice AE nE cE)).farA (g' := w.heap.size + 1) (k := 1) (by omega) (.slice AB nB cB)).farA (g' := w.heap.size + 1) (k := 2) (by omega) (.slice AC nC cC)).farA (g' := w.heap.size + 1) (k := 3) (by omega) (.int .i64 nb)).four
         obtain ⟨d0, d1, d2, d3⟩ := (KP.out _ Bc).2.1.four
         obtain ⟨f0, f1, f2, f3, _, _, _, _⟩ := (KP.out _ Bc).2.1.frees
         clear ho q Bd)
      | (have BP := Bc; have ZP := Zc; refine step_append_boolL rfl (.tmp 6) (.tmp 8) rfl (.slice (some ⟨W0.heap.size, 0, none⟩) 0 0) [] rfl HB0.out BP ZP pb po n2 k2 b rfl HLB.out (HCB.out _ (KP.out _ BP).2.2) HS2.out ?_

         intro v2 w2 hp q hgr
         have HBS := Lib.hid (show w1.heap.size ≤ w2.heap.size by first | exact hgr.size | exact Nat.le_trans (by simp) hgr.size)
         have Bc := q
         have Zc : z ≤ w2.heap.size := Nat.le_trans Z0 Bc.size
         obtain ⟨AB, nB, cB, rfl⟩ := hp.sliceOf
         have HB := Lib.hid (show BoolsOwn w2 z (.slice AB nB cB) b from hp)
         try (have HE' := Lib.hid (HE.out.kept hgr (ownApart HE.out HB0.out)); clear HE; have HE := HE'; clear HE')
         try (have HC' := Lib.hid (HC.out.kept hgr (ownApart HC.out HB0.out)); clear HC; have HC := HC'; clear HC')
         obtain ⟨d0, d1, d2, d3⟩ := (KP.out _ Bc).2.1.four
         obtain ⟨f0, f1, f2, f3, _, _, _, _⟩ := (KP.out _ Bc).2.1.frees
         clear hp q hgr BP)
      | (have BP := Bc.alloc Zc (.cells #[] 4); have ZP := Nat.le_trans Z0 BP.size; have HB1 := Lib.hid (BoolsOwn.made w1 (B := z) Zc); have HE1 := Lib.hid (show IntsOwn (w1.alloc (.cells #[] 4)) _ _ _ from World.ownsRow.alloc HE.out _); clear HE; have HE := HE1; clear HE1; refine step_append_boolL rfl (.tmp 6) (.tmp 8) rfl (.slice (some ⟨w1.heap.size, 0, none⟩) 0 0) [] rfl HB1.out BP ZP pb po n2 k2 b rfl HLB.out (HCB.out _ (KP.out _ BP).2.2) HS2.out ?_

         intro v2 w2 hp q hgr
         have HBS := Lib.hid (show w1.heap.size ≤ w2.heap.size by first | exact hgr.size | exact Nat.le_trans (by simp) hgr.size)
         have Bc := q
         have Zc : z ≤ w2.heap.size := Nat.le_trans Z0 Bc.size
         obtain ⟨AB, nB, cB, rfl⟩ := hp.sliceOf
         have HB := Lib.hid (show BoolsOwn w2 z (.slice AB nB cB) b from hp)
         try (have HE' := Lib.hid (HE.out.kept hgr (ownApart HE.out HB1.out)); clear HE; have HE := HE'; clear HE')
         try (have HC' := Lib.hid (HC.out.kept hgr (ownApart HC.out HB1.out)); clear HC; have HC := HC'; clear HC')
         obtain ⟨d0, d1, d2, d3⟩ := (KP.out _ Bc).2.1.four
         obtain ⟨f0, f1, f2, f3, _, _, _, _⟩ := (KP.out _ Bc).2.1.frees
         clear hp q hgr BP)
      )
  all_goals
    have hz2 := HZE.out
    go_wp2
    refine bodyPost_ret (results_cell_row Try.results72 _ _ _ _ #[.slice AE nE cE, .slice AB nB cB, .slice AC nC cC, .int .i64 nb] _ _ rfl (((((KP.out _ Bc).2.1.set_ 0 _).set_ 1 _).set_ 2 _).set_ 3 _) Try.underlying27 rfl infoWe) rfl ⟨_, rfl, ⟨_, _, _, rfl, ⟨(HE.out.sames fun k e => ?_).low (by omega), fun k e => ?_⟩, ⟨(HB.out.sames fun k e => ?_).low (by omega), fun k e => ?_⟩, ⟨(HC.out.sames fun k e => ?_).low (by omega), fun k e => ?_⟩, ownApart HE.out HB.out, ?_, own_ne (ownApart HC.out HB.out)⟩, ?_⟩
    · have := (HE.out.blockOf e).1
      repeat rw [Below.heap_setCell _ ⟨_, _, none⟩ _ k (by simp; omega)]
    · have := (HE.out.blockOf e).2; simpa using this
    · have := (HB.out.blockOf e).1
      repeat rw [Below.heap_setCell _ ⟨_, _, none⟩ _ k (by simp; omega)]
    · have := (HB.out.blockOf e).2; simpa using this
    · have := (HC.out.blockOf e).1
      repeat rw [Below.heap_setCell _ ⟨_, _, none⟩ _ k (by simp; omega)]
    · have := (HC.out.blockOf e).2; simpa using this
    · cases hq : (Value.slice AE nE cE).ownBlock with
      | none => exact .inl rfl
      | some k => exact .inr fun e => by have := RE.out k hq; have := RC.out k e.symm; omega
    · repeat refine bset ?_ (by omega) _
      exact (KP.out _ Bc).2.2
end Go.Proofs.Ytgamoiagpglcmaa
