/- The proof's own lemmas, part 39: PmX PmB WoI. -/
import Derived.Test.YtainlanblpccjaaProg
import Derived.Test.YtainlanblpccjaaMg37
import Derived.Test.YtainlanblpccjaaMg11
import Derived.Test.YtainlanblpccjaaMg13
import Derived.Deep.RegionHeld3
import Derived.Deep.Cut
import Derived.Lib.LazyBuf
import Derived.Deep.DeepCutAuto
import Derived.Test.YtainlanblpccjaaMg14
import Derived.Deep.RegionLaw
/- NewMap, in the model: the contract. -/
namespace Go.Proofs.Ytainlanblpccjaa
open Go.RowKit
set_option linter.unusedVariables false
set_option linter.unusedSimpArgs false
/-- Rows of different types are different blocks. -/
theorem ownApart {w : World} {B : Nat} {v u : Value} {l : List Int} {m : List Bool} (h : IntsOwn w B v l) (k : BoolsOwn w B u m) : v.ownBlock = none ∨ v.ownBlock ≠ u.ownBlock := by
  rcases h.2 with ⟨h1, _⟩ | ⟨g, cap, cur, h1, h2, h3, h4⟩
  · left; rw [h1]; rfl
  · right
    rcases k.2 with ⟨k1, _⟩ | ⟨g', cap', cur', k1, k2, k3, k4⟩
    · rw [h1, k1]; intro e; cases e
    · rw [h1, k1]
      intro e
      obtain rfl : g = g' := Option.some.inj e
      rw [h3] at k3
      injection k3 with k3
      injection k3 with e1 e2
      exact absurd e2 (by decide)
theorem wpList_append_intG {Q : Exit → Act → World → Prop} {ops : Array Oper} {rest : List Oper} {o : Oper} {a : Act} {w0 wr : World} {B : Nat} (hgd : o.guard = none) (s x : Operand)
    (ho : o.op = .call { callee := .builtin .append, args := #[s, x], argTypes := #[22, 22] })
    (v : Value) (l : List Int) (hs : a.eval s = v) (hown : IntsOwn wr B v l) (hb : Below B w0 wr) (hB : B ≤ wr.heap.size)
    (b : Int) (c : Nat) (hx : a.eval x = .slice (some ⟨wr.heap.size, 0, none⟩) 1 c) (hl : l.length + 1 ≤ 1000000)
    (h : ∀ v' w', IntsOwn w' B v' (l ++ [b]) → Below B w0 w' → wr.grownBy w' v.ownBlock → wpList Try.prog ops Q rest (a.put o.dst v') w') :
    wpList Try.prog ops Q (o :: rest) a (wr.alloc (.cells #[.int .i64 b] 2)) := by
  obtain ⟨i0, hi, hz0, hz1, hz2⟩ := info_parts info64
  refine wpList_append_own _ hgd s x _ ho B 2 i0 (.int .i64 0) 1 8 Try.underlying22 hi hz0 hz1 hz2 rfl (by decide) v l.length (l.map (Value.int .i64)) hs (World.ownsRow.alloc hown _) ⟨wr.heap.size, 0, none⟩ 1 c [.int .i64 b] hx rfl ?_ ?_ (by unfold maxLen; omega) (by omega) (by simp; omega) ?_
  · intro j u hj
    match j, hj with
    | 0, hj => simp at hj; subst hj; simp [Addr.add]
  · intro u hu; simp at hu; subst hu; rfl
  · intro v' w' h1 h2 _
    refine h v' w' ?_ ?_ ?_
    · unfold IntsOwn; simpa using h1
    · exact (hb.alloc hB _).grown h2 (by simp; omega) fun k hk => (World.ownsRow.lt hown k hk).1
    · exact ⟨h2.os, h2.tape, h2.output, Nat.le_trans (by simp) h2.size, fun j hj hne => (h2.block j (by simp; omega) hne).trans (Below.heap_alloc wr _ j hj)⟩
theorem wpList_append_boolG {Q : Exit → Act → World → Prop} {ops : Array Oper} {rest : List Oper} {o : Oper} {a : Act} {w0 wr : World} {B : Nat} (hgd : o.guard = none) (s x : Operand)
    (ho : o.op = .call { callee := .builtin .append, args := #[s, x], argTypes := #[23, 23] })
    (v : Value) (l : List Bool) (hs : a.eval s = v) (hown : BoolsOwn wr B v l) (hb : Below B w0 wr) (hB : B ≤ wr.heap.size)
    (b : Bool) (c : Nat) (hx : a.eval x = .slice (some ⟨wr.heap.size, 0, none⟩) 1 c) (hl : l.length + 1 ≤ 1000000)
    (h : ∀ v' w', BoolsOwn w' B v' (l ++ [b]) → Below B w0 w' → wr.grownBy w' v.ownBlock → wpList Try.prog ops Q rest (a.put o.dst v') w') :
    wpList Try.prog ops Q (o :: rest) a (wr.alloc (.cells #[.bool b] 4)) := by
  obtain ⟨i0, hi, hz0, hz1, hz2⟩ := info_parts infoBo
  refine wpList_append_own _ hgd s x _ ho B 4 i0 (.bool false) 1 1 Try.underlying23 hi hz0 hz1 hz2 rfl (by decide) v l.length (l.map Value.bool) hs (World.ownsRow.alloc hown _) ⟨wr.heap.size, 0, none⟩ 1 c [.bool b] hx rfl ?_ ?_ (by unfold maxLen; omega) (by omega) (by simp; omega) ?_
  · intro j u hj
    match j, hj with
    | 0, hj => simp at hj; subst hj; simp [Addr.add]
  · intro u hu; simp at hu; subst hu; rfl
  · intro v' w' h1 h2 _
    refine h v' w' ?_ ?_ ?_
    · unfold BoolsOwn; simpa using h1
    · exact (hb.alloc hB _).grown h2 (by simp; omega) fun k hk => (World.ownsRow.lt hown k hk).1
    · exact ⟨h2.os, h2.tape, h2.output, Nat.le_trans (by simp) h2.size, fun j hj hne => (h2.block j (by simp; omega) hne).trans (Below.heap_alloc wr _ j hj)⟩
end Go.Proofs.Ytainlanblpccjaa
/- A list of bools copied (append of a whole list, slices.Clone): the contracts. -/
namespace Go.Proofs.Ytainlanblpccjaa
open Go.RowKit
set_option linter.unusedVariables false
set_option linter.unusedSimpArgs false
theorem wpList_append_boolL {Q : Exit → Act → World → Prop} {ops : Array Oper} {rest : List Oper} {o : Oper} {a : Act} {w0 wr : World} {B : Nat} (hgd : o.guard = none) (s x : Operand)
    (ho : o.op = .call { callee := .builtin .append, args := #[s, x], argTypes := #[23, 23] })
    (v : Value) (l : List Bool) (hs : a.eval s = v) (hown : BoolsOwn wr B v l) (hb : Below B w0 wr) (hB : B ≤ wr.heap.size)
    (pb po m c : Nat) (L : List Bool) (hx : a.eval x = .slice (some ⟨pb, po, none⟩) m c) (hL : L.length = m) (hc : ∀ i, i < m → wr.cell? ⟨pb, po + i, none⟩ = some (.bool (L.getD i false))) (hl : l.length + m ≤ 2097152)
    (h : ∀ v' w', BoolsOwn w' B v' (l ++ L) → Below B w0 w' → wr.grownBy w' v.ownBlock → wpList Try.prog ops Q rest (a.put o.dst v') w') :
    wpList Try.prog ops Q (o :: rest) a wr := by
  obtain ⟨i0, hi, hz0, hz1, hz2⟩ := info_parts infoBo
  refine wpList_append_own _ hgd s x _ ho B 4 i0 (.bool false) 1 1 Try.underlying23 hi hz0 hz1 hz2 rfl (by decide) v l.length (l.map Value.bool) hs hown ⟨pb, po, none⟩ m c (L.map Value.bool) hx (by simp [hL]) ?_ ?_ (by unfold maxLen; omega) (by omega) hB ?_
  · intro j u hj
    have hlt : j < L.length := by
      rcases Nat.lt_or_ge j L.length with h | h
      · exact h
      · rw [List.getElem?_eq_none (by simpa using h)] at hj; cases hj
    rw [Addr.add_lit, hc j (by omega)]
    simp [hlt] at hj ⊢
    exact hj
  · intro u hu; simp at hu; rcases hu with ⟨_, rfl⟩ | ⟨_, rfl⟩ <;> rfl
  · intro v' w' h1 h2 _
    refine h v' w' ?_ (hb.grown h2 hB fun k hk => (World.ownsRow.lt hown k hk).1) h2
    unfold BoolsOwn; simpa [hL] using h1
/-- The same inside a region that draws its order. -/
theorem step_append_boolL {Q : Exit → Act → World → Prop} {K : Act → World → Prop} {E : Prop} {ops : Array Oper} {o : Oper} {a : Act} {w0 wr : World} {B : Nat} (hgd : o.guard = none) (s x : Operand)
    (ho : o.op = .call { callee := .builtin .append, args := #[s, x], argTypes := #[23, 23] })
    (v : Value) (l : List Bool) (hs : a.eval s = v) (hown : BoolsOwn wr B v l) (hb : Below B w0 wr) (hB : B ≤ wr.heap.size)
    (pb po m c : Nat) (L : List Bool) (hx : a.eval x = .slice (some ⟨pb, po, none⟩) m c) (hL : L.length = m) (hc : ∀ i, i < m → wr.cell? ⟨pb, po + i, none⟩ = some (.bool (L.getD i false))) (hl : l.length + m ≤ 2097152)
    (h : ∀ v' w', BoolsOwn w' B v' (l ++ L) → Below B w0 w' → wr.grownBy w' v.ownBlock → K (a.put o.dst v') w') :
    if Region.wanted o (yielded ops a.tmps) = true then Oper.wp Try.prog o a wr K Q else E := by
  have hw : Region.wanted o (yielded ops a.tmps) = true := by simp [Region.wanted, hgd]
  rw [if_pos hw]
  obtain ⟨i0, hi, hz0, hz1, hz2⟩ := info_parts infoBo
  refine wp_append_own wr s x _ ho B 4 i0 (.bool false) 1 1 Try.underlying23 hi hz0 hz1 hz2 rfl (by decide) v l.length (l.map Value.bool) hs hown ⟨pb, po, none⟩ m c (L.map Value.bool) hx (by simp [hL]) ?_ ?_ (by unfold maxLen; omega) (by omega) hB ?_
  · intro j u hj
    have hlt : j < L.length := by
      rcases Nat.lt_or_ge j L.length with h | h
      · exact h
      · rw [List.getElem?_eq_none (by simpa using h)] at hj; cases hj
    rw [Addr.add_lit, hc j (by omega)]
    simp [hlt] at hj ⊢
    exact hj
  · intro u hu; simp at hu; rcases hu with ⟨_, rfl⟩ | ⟨_, rfl⟩ <;> rfl
  · intro v' w' h1 h2 _
    refine h v' w' ?_ (hb.grown h2 hB fun k hk => (World.ownsRow.lt hown k hk).1) h2
    unfold BoolsOwn; simpa [hL] using h1
set_option maxRecDepth 100000 in
theorem cloneBools_any (v : Value) (L : List Bool) (w : World) (hi : Nat) (hv : NB w hi v L) (hh : hi ≤ w.heap.size) (h0 : 0 < L.length) (hl : L.length ≤ 1048576) :
    Calls Try.prog 165 #[v] w (CopyPostB L w) := by
  obtain ⟨A, n, c, rfl, _, _, hn, hA⟩ := hv
  obtain ⟨pb, po, rfl, hp2, hpx⟩ := hA (by omega)
  have hi1 := BoolsOwn.made w (B := w.heap.size) (Nat.le_refl _)
  have hb1 := (Below.refl w.heap.size w).alloc (Nat.le_refl _) (.cells #[] 4)
  have HC := Lib.hid (fun (i : Nat) (h : i < n) => (hb1.cell (p := ⟨pb, po + i, none⟩) (by show pb < _; omega)).trans (hpx i h))
  have hz : w.heap.size ≤ (w.alloc (.cells #[] 4)).heap.size := by simp
  have HI := Lib.hid hi1
  have HB := Lib.hid hb1
  have HN := Lib.hid hn
  have HL := Lib.hid (show n ≤ 1048576 by omega)
  clear hpx hA hi1 hb1 hn hl h0
  have hnil := fun (W : World) => run_eql_slice_nil (P := Try.prog) W 23 4 (some ⟨pb, po, none⟩) n c Try.underlying23
  simp only [Option.isNone_some] at hnil
  go_enter Try.func165, Try.ntmps165
  go_wp2_with (at_builtin; refine wpList_append_boolL rfl _ _ rfl _ [] rfl HI.out HB.out hz pb po n c L rfl HN.out HC.out (by have := HL.out; simp; omega) ?_; intro v' w1 ho hb2 _; have HO := Lib.hid ho; have HB2 := Lib.hid hb2; clear ho hb2)
  go_ret
  exact ⟨_, rfl, by simpa using HO.out, HB2.out⟩
end Go.Proofs.Ytainlanblpccjaa
/- A state of the blocks copied, in the program (clone): the contract. -/
namespace Go.Proofs.Ytainlanblpccjaa
open Go.RowKit
set_option linter.unusedVariables false
set_option linter.unusedSimpArgs false
set_option maxHeartbeats 8000000 in
set_option maxRecDepth 100000 in
theorem implClone12_any (g : Nat) (M : We) (a0 a1 a2 : Value) (w : World) (hi : Nat) (hR : Rw w g 27 (wec M a0 a1 a2)) (i1 : NI w hi a0 M.e) (i2 : NB w hi a1 M.b) (i3 : NI w hi a2 M.c) (hh : hi ≤ w.heap.size) (h1 : 1 ≤ M.e.length) (h2 : M.b.length = M.e.length) (h3 : M.c.length = M.e.length) (hz : M.e.length ≤ 36) :
    Calls Try.prog 92 #[.pointer (some ⟨g, 0, none⟩)] w (WePost1 M w) := by
  have HCE := Lib.hid (fun (W : World) (b : Below w.heap.size w W) => cloneInts_any a0 M.e W hi (i1.below b hh) (Nat.le_trans hh b.size) (by omega) (by omega))
  have HCB := Lib.hid (fun (W : World) (b : Below w.heap.size w W) => cloneBools_any a1 M.b W hi (i2.below b hh) (Nat.le_trans hh b.size) (by omega) (by omega))
  have HCC := Lib.hid (fun (W : World) (b : Below w.heap.size w W) => cloneInts_any a2 M.c W hi (i3.below b hh) (Nat.le_trans hh b.size) (by omega) (by omega))
  obtain ⟨A1, n1, k1, rfl⟩ := i1.slice
  obtain ⟨A2, n2, k2, rfl⟩ := i2.slice
  obtain ⟨A3, n3, k3, rfl⟩ := i3.slice
  obtain ⟨e, b, c, nb⟩ := M
  unfold wec at hR
  simp only at *
  have hg := hR.lt
  obtain ⟨W0, hW0⟩ : ∃ W0, W0 = w.alloc (.cells #[.slice none 0 0, .slice none 0 0, .slice none 0 0, .int .i64 0] 27) := ⟨_, rfl⟩
  have bb : Below w.heap.size w W0 := by rw [hW0]; exact (Below.refl _ w).alloc (Nat.le_refl _) _
  have r1 : Rw W0 w.heap.size 27 #[.slice none 0 0, .slice none 0 0, .slice none 0 0, .int .i64 0] := by rw [hW0]; exact Rw.new w _ _
  obtain ⟨z, hzz⟩ : ∃ z, z = w.heap.size + 1 := ⟨_, rfl⟩
  have hz0 : W0.heap.size = z := by rw [hW0, hzz]; simp
  have KR := Lib.hid (fun (W : World) (b : Below z W0 W) => show Rw W g 27 #[.slice A1 n1 k1, .slice A2 n2 k2, .slice A3 n3 k3, .int .i64 nb] from (hR.below bb (by omega)).below b (by omega))
  have KP := Lib.hid (fun (W : World) (b : Below z W0 W) => show Rw W w.heap.size 27 #[.slice none 0 0, .slice none 0 0, .slice none 0 0, .int .i64 0] ∧ Below w.heap.size w W from ⟨r1.below b (by omega), bb.trans (b.mono (by omega))⟩)
  have hb0 : Below z W0 W0 := Below.refl _ _
  have HZE := Lib.hid hzz
  have Z0 : z ≤ W0.heap.size := by omega
  have kA := (KR.out _ hb0.drew).four
  clear r1 bb i1 i2 i3 h1 h2 h3 hz hh hzz hz0 hR
  go_enter Try.func92, Try.ntmps92
  go_upto_region 1 with fail
  rw [← hW0]
  clear hW0
  go_region_held3 (fun W => W.cell? ⟨g, 0, none⟩ = some (.slice A1 n1 k1) ∧ W.cell? ⟨g, 1, none⟩ = some (.slice A2 n2 k2) ∧ W.cell? ⟨g, 2, none⟩ = some (.slice A3 n3 k3) ∧ W.cell? ⟨g, 3, none⟩ = some (.int .i64 nb))
    (first
      | with_reducible exact kA
      | with_reducible exact kE
      | with_reducible exact kB
      | with_reducible exact kC
      | with_reducible exact kS)
    (first
      | (go_at_call 139
         with_reducible refine (HCE.out _ (KP.out _ hb0.drew).2).mono ?_
         rintro e w1 ⟨v, rfl, ho, q⟩
         have B1 := hb0.drew.trans (q.mono (Nat.le_trans Z0 hb0.drew.size))
         obtain ⟨AE, nE, cE, rfl⟩ := ho.sliceOf'
         have HE1 := Lib.hid (ho.low (B' := z) (Nat.le_trans Z0 hb0.drew.size))
         have RE := Lib.hid (show ∀ k, (Value.slice AE nE cE).ownBlock = some k → k < w1.heap.size from fun k e => (ho.blockOf e).2)
         have kE := (KR.out _ B1).four
         clear ho q)
      | (go_at_call 165
         with_reducible refine (HCB.out _ (KP.out _ B1).2).mono ?_
         rintro e w2 ⟨v, rfl, ho, q⟩
         have B2 := B1.trans (q.mono (Nat.le_trans Z0 B1.size))
         obtain ⟨AB, nB, cB, rfl⟩ := ho.sliceOf
         have HE2 := Lib.hid (HE1.out.later q (Nat.le_refl _))
         have HB2 := Lib.hid (ho.low (B' := z) (Nat.le_trans Z0 B1.size))
         have HBS := Lib.hid q.size
         have kB := (KR.out _ B2).four
         clear ho q)
      | (go_at_call 139
         with_reducible refine (HCC.out _ (KP.out _ B2).2).mono ?_
         rintro e w3 ⟨v, rfl, ho, q⟩
         have B3 := B2.trans (q.mono (Nat.le_trans Z0 B2.size))
         obtain ⟨AC, nC, cC, rfl⟩ := ho.sliceOf'
         have HE := Lib.hid (HE2.out.later q (Nat.le_refl _))
         have HB := Lib.hid (HB2.out.later q (Nat.le_refl _))
         have HC := Lib.hid (ho.low (B' := z) (Nat.le_trans Z0 B2.size))
         have RC := Lib.hid (show ∀ k, (Value.slice AC nC cC).ownBlock = some k → w1.heap.size ≤ k from fun k e => Nat.le_trans HBS.out (ho.blockOf e).1)
         have kC := (KR.out _ B3).four
         have kS := (((((KR.out _ B3).farA (g' := w.heap.size) (k := 0) (by omega) (.slice AE nE cE)).farA (g' := w.heap.size) (k := 1) (by omega) (.slice AB nB cB)).farA (g' := w.heap.size) (k := 2) (by omega) (.slice AC nC cC)).farA (g' := w.heap.size) (k := 3) (by omega) (.int .i64 nb)).four
         obtain ⟨d0, d1, d2, d3⟩ := (KP.out _ B3).1.four
         obtain ⟨f0, f1, f2, f3, _, _, _, _⟩ := (KP.out _ B3).1.frees
         clear ho q))
  all_goals
    have hz2 := HZE.out
    go_wp2
    refine bodyPost_ret (results_cell_row Try.results92 _ _ _ _ #[.slice AE nE cE, .slice AB nB cB, .slice AC nC cC, .int .i64 nb] _ _ rfl (((((KP.out _ B3).1.set_ 0 _).set_ 1 _).set_ 2 _).set_ 3 _) Try.underlying27 rfl infoWe) rfl ⟨_, rfl, ⟨_, _, _, rfl, ⟨(HE.out.sames fun k e => ?_).low (by omega), fun k e => ?_⟩, ⟨(HB.out.sames fun k e => ?_).low (by omega), fun k e => ?_⟩, ⟨(HC.out.sames fun k e => ?_).low (by omega), fun k e => ?_⟩, ownApartW HE.out HB.out, ?_, own_ne (ownApartW HC.out HB.out)⟩, ?_⟩
    · have := (HE.out.blockOf e).1
      repeat rw [Below.heap_setCell _ ⟨_, _, none⟩ _ k (by simp; omega)]
    · have := (HE.out.blockOf e).2; simpa using this
    · have := (HB.out.blockOf e).1
      repeat rw [Below.heap_setCell _ ⟨_, _, none⟩ _ k (by simp; omega)]
    · have := (HB.out.blockOf e).2; simpa using this
    · have := (HC.out.blockOf e).1
      repeat rw [Below.heap_setCell _ ⟨_, _, none⟩ _ k (by simp; omega)]
    · have := (HC.out.blockOf e).2; simpa using this
    · cases hq : (Value.slice AE nE cE).ownBlock with
      | none => exact .inl rfl
      | some k => exact .inr fun e => by have := RE.out k hq; have := RC.out k e.symm; omega
    · repeat refine bset ?_ (by omega) _
      exact (KP.out _ B3).2
end Go.Proofs.Ytainlanblpccjaa
