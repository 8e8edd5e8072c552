/- The proof's own lemmas, part 15: WoS WrN CeN CxN. -/
import Derived.Test.YtainlanblpccjaaProg
import Derived.Test.YtainlanblpccjaaMg10
import Derived.Test.YtainlanblpccjaaMg12
import Derived.Test.YtainlanblpccjaaMg13
import Derived.Test.YtainlanblpccjaaMg11
import Derived.Deep.RegionLaw
import Derived.Deep.RegionHeld3
import Derived.Deep.Cut
import Derived.Deep.DeepCutAuto
import Derived.StillTailTactics
import Derived.Test.YtainlanblpccjaaMg2
/- A state of the blocks copied, in the model (l12Own): the contract. -/
namespace Go.Proofs.Ytainlanblpccjaa
open Go.RowKit
set_option linter.unusedVariables false
set_option linter.unusedSimpArgs false
theorem ownApartW {w : World} {B : Nat} {v u : Value} {l : List Int} {m : List Bool} (h : IntsOwn w B v l) (k : BoolsOwn w B u m) : v.ownBlock = none ∨ v.ownBlock ≠ u.ownBlock := by
  rcases h.2 with ⟨h1, _⟩ | ⟨g, cap, cur, h1, h2, h3, h4⟩
  · left; rw [h1]; rfl
  · right
    rcases k.2 with ⟨k1, _⟩ | ⟨g', cap', cur', k1, k2, k3, k4⟩
    · rw [h1, k1]; intro e; cases e
    · rw [h1, k1]
      intro e
      obtain rfl : g = g' := Option.some.inj e
      rw [h3] at k3
      injection k3 with k3
      injection k3 with e1 e2
      exact absurd e2 (by decide)
theorem step_append_boolW {Q : Exit → Act → World → Prop} {K : Act → World → Prop} {E : Prop} {ops : Array Oper} {o : Oper} {a : Act} {w0 wr : World} {B : Nat} (hgd : o.guard = none) (s x : Operand)
    (ho : o.op = .call { callee := .builtin .append, args := #[s, x], argTypes := #[23, 23] })
    (v : Value) (l : List Bool) (hs : a.eval s = v) (hown : BoolsOwn wr B v l) (hb : Below B w0 wr) (hB : B ≤ wr.heap.size)
    (pb po m c : Nat) (L : List Bool) (hx : a.eval x = .slice (some ⟨pb, po, none⟩) m c) (hL : L.length = m) (hc : ∀ i, i < m → wr.cell? ⟨pb, po + i, none⟩ = some (.bool (L.getD i false))) (hl : l.length + m ≤ 2097152)
    (h : ∀ v' w', BoolsOwn w' B v' (l ++ L) → Below B w0 w' → wr.grownBy w' v.ownBlock → K (a.put o.dst v') w') :
    if Region.wanted o (yielded ops a.tmps) = true then Oper.wp Try.prog o a wr K Q else E := by
  have hw : Region.wanted o (yielded ops a.tmps) = true := by simp [Region.wanted, hgd]
  rw [if_pos hw]
  obtain ⟨i0, hi, hz0, hz1, hz2⟩ := info_parts infoBo
  refine wp_append_own wr s x _ ho B 4 i0 (.bool false) 1 1 Try.underlying23 hi hz0 hz1 hz2 rfl (by decide) v l.length (l.map Value.bool) hs hown ⟨pb, po, none⟩ m c (L.map Value.bool) hx (by simp [hL]) ?_ ?_ (by unfold maxLen; omega) (by omega) hB ?_
  · intro j u hj
    have hlt : j < L.length := by
      rcases Nat.lt_or_ge j L.length with h | h
      · exact h
      · rw [List.getElem?_eq_none (by simpa using h)] at hj; cases hj
    rw [Addr.add_lit, hc j (by omega)]
    simp [hlt] at hj ⊢
    exact hj
  · intro u hu; simp at hu; rcases hu with ⟨_, rfl⟩ | ⟨_, rfl⟩ <;> rfl
  · intro v' w' h1 h2 _
    refine h v' w' ?_ (hb.grown h2 hB fun k hk => (World.ownsRow.lt hown k hk).1) h2
    unfold BoolsOwn; simpa [hL] using h1

def WePost1 (M : We) (w : World) (e : Ending) (w' : World) : Prop := ∃ u, e = .returned u ∧ WeOwn w' w.heap.size w'.heap.size u M ∧ Below w.heap.size w w'
set_option maxHeartbeats 8000000 in
set_option maxRecDepth 100000 in
theorem specOwn12_any (u : Value) (M : We) (w : World) (hi : Nat) (h : WeIn w hi u M) (hh : hi ≤ w.heap.size) (h1 : 1 ≤ M.e.length) (h2 : M.b.length = M.e.length) (h3 : M.c.length = M.e.length) (hz : M.e.length ≤ 36) :
    Calls Try.prog 90 #[u] w (WePost1 M w) := by
  obtain ⟨ae, ab, ac, rfl, i1, i2, i3⟩ := h
  have HCE := Lib.hid (fun (W : World) (b : Below w.heap.size w W) => ownAny_any ae M.e W hi (i1.below b hh) (Nat.le_trans hh b.size) (by omega))
  have HCC := Lib.hid (fun (W : World) (b : Below w.heap.size w W) => ownAny_any ac M.c W hi (i3.below b hh) (Nat.le_trans hh b.size) (by omega))
  obtain ⟨A1, n1, k1, rfl⟩ := i1.slice
  obtain ⟨A3, n3, k3, rfl⟩ := i3.slice
  obtain ⟨A2, n2, k2, rfl, _, _, hn2, hA2⟩ := i2
  obtain ⟨pb, po, rfl, hpb, hxb⟩ := hA2 (by omega)
  obtain ⟨e, b, c, nb⟩ := M
  unfold wec
  simp only at *
  have HLB := Lib.hid hn2
  have HCB := Lib.hid (fun (W : World) (B : Below w.heap.size w W) (i : Nat) (hi2 : i < n2) => (B.cell (p := ⟨pb, po + i, none⟩) (by show pb < _; omega)).trans (hxb i hi2))
  obtain ⟨r0, r1, bb⟩ := Rw.two_new w 27 27 #[.slice A1 n1 k1, .slice (some ⟨pb, po, none⟩) n2 k2, .slice A3 n3 k3, .int .i64 nb] #[.slice none 0 0, .slice none 0 0, .slice none 0 0, .int .i64 0]
  obtain ⟨W0, hW0⟩ : ∃ W0, W0 = (w.alloc (.cells #[.slice A1 n1 k1, .slice (some ⟨pb, po, none⟩) n2 k2, .slice A3 n3 k3, .int .i64 nb] 27)).alloc (.cells #[.slice none 0 0, .slice none 0 0, .slice none 0 0, .int .i64 0] 27) := ⟨_, rfl⟩
  obtain ⟨z, hzz⟩ : ∃ z, z = w.heap.size + 2 := ⟨_, rfl⟩
  have hz0 : W0.heap.size = z := by rw [hW0, hzz]; simp
  rw [← hW0] at r0 r1 bb
  have KP := Lib.hid (fun (W : World) (b : Below z W0 W) => show (W.cell? ⟨w.heap.size, 0, none⟩ = some (.slice A1 n1 k1) ∧ W.cell? ⟨w.heap.size, 1, none⟩ = some (.slice (some ⟨pb, po, none⟩) n2 k2) ∧ W.cell? ⟨w.heap.size, 2, none⟩ = some (.slice A3 n3 k3) ∧ W.cell? ⟨w.heap.size, 3, none⟩ = some (.int .i64 nb)) ∧ Rw W (w.heap.size + 1) 27 #[.slice none 0 0, .slice none 0 0, .slice none 0 0, .int .i64 0] ∧ Below w.heap.size w W from
    ⟨(r0.below b (by omega)).four, r1.below b (by omega), bb.trans (b.mono (by omega))⟩)
  have KR := Lib.hid (fun (W : World) (b : Below z W0 W) => show Rw W w.heap.size 27 #[.slice A1 n1 k1, .slice (some ⟨pb, po, none⟩) n2 k2, .slice A3 n3 k3, .int .i64 nb] from r0.below b (by omega))
  have hb0 : Below z W0 W0 := Below.refl _ _
  have HZ := Lib.hid hz0
  have HZE := Lib.hid hzz
  have Z0 : z ≤ W0.heap.size := by omega
  have HM := Lib.hid (show BoolsOwn (W0.alloc (.cells #[] 4)).drew z (.slice (some ⟨W0.heap.size, 0, none⟩) 0 0) [] from BoolsOwn.made W0 (B := z) Z0)
  have HSZ := Lib.hid (show n2 ≤ 36 by omega)
  have HS2 := Lib.hid (show ([] : List Bool).length + n2 ≤ 2097152 by simp; omega)
  clear r0 r1 bb i1 i3 hA2 hxb h1 h2 h3 hz hn2 hh hpb hzz hz0
  go_enter Try.func90, Try.ntmps90
  go_upto_region 1 with fail
  rw [← hW0]
  clear hW0
  obtain ⟨⟨q0, q1, q2, q3⟩, kr, kb⟩ := KP.out _ hb0.drew
  clear kr kb
  go_region_held3 (fun W => W.cell? ⟨w.heap.size, 0, none⟩ = some (.slice A1 n1 k1) ∧ W.cell? ⟨w.heap.size, 1, none⟩ = some (.slice (some ⟨pb, po, none⟩) n2 k2) ∧ W.cell? ⟨w.heap.size, 2, none⟩ = some (.slice A3 n3 k3) ∧ W.cell? ⟨w.heap.size, 3, none⟩ = some (.int .i64 nb))
    (first
      | with_reducible exact (KP.out _ hb0.drew).1
      | with_reducible exact (KP.out _ (hb0.alloc Z0 _).drew).1
      | with_reducible exact (KP.out _ Bc).1
      | with_reducible exact (KP.out _ (Bc.alloc Zc _)).1
      | with_reducible exact kS)
    (first
      | (go_at_call 131
         with_reducible refine (HCE.out _ (KP.out _ hb0.drew).2.2).mono ?_
         rintro e w1 ⟨v, rfl, ho, q⟩
         have Bd := hb0.drew
         have Bc := Bd.trans (q.mono (Nat.le_trans Z0 Bd.size))
         have Zc : z ≤ w1.heap.size := Nat.le_trans Z0 Bc.size
         obtain ⟨AE, nE, cE, rfl⟩ := ho.sliceOf'
         have HE := Lib.hid (ho.low (B' := z) (Nat.le_trans Z0 Bd.size))
         have RE := Lib.hid (show ∀ k, (Value.slice AE nE cE).ownBlock = some k → k < w1.heap.size from fun k e => (ho.blockOf e).2)
         clear ho q Bd)
      | (go_at_call 131
         with_reducible refine (HCE.out _ (KP.out _ (hb0.alloc Z0 (.cells #[] 4)).drew).2.2).mono ?_
         rintro e w1 ⟨v, rfl, ho, q⟩
         have Bd := (hb0.alloc Z0 (.cells #[] 4)).drew
         have Bc := Bd.trans (q.mono (Nat.le_trans Z0 Bd.size))
         have Zc : z ≤ w1.heap.size := Nat.le_trans Z0 Bc.size
         obtain ⟨AE, nE, cE, rfl⟩ := ho.sliceOf'
         have HE := Lib.hid (ho.low (B' := z) (Nat.le_trans Z0 Bd.size))
         have RE := Lib.hid (show ∀ k, (Value.slice AE nE cE).ownBlock = some k → k < w1.heap.size from fun k e => (ho.blockOf e).2)
         have HB0 := Lib.hid (HM.out.later q (Nat.le_refl _))
         clear ho q Bd)
      | (go_at_call 131
         with_reducible refine (HCC.out _ (KP.out _ Bc).2.2).mono ?_
         rintro e w3 ⟨v, rfl, ho, q⟩
         have Bd := Bc
         have Bc := Bd.trans (q.mono (Nat.le_trans Z0 Bd.size))
         have Zc : z ≤ w3.heap.size := Nat.le_trans Z0 Bc.size
         obtain ⟨AC, nC, cC, rfl⟩ := ho.sliceOf'
         have HC := Lib.hid (ho.low (B' := z) (Nat.le_trans Z0 Bd.size))
         have RC := Lib.hid (show ∀ k, (Value.slice AC nC cC).ownBlock = some k → w1.heap.size ≤ k from fun k e => Nat.le_trans HBS.out (ho.blockOf e).1)
         have HE' := Lib.hid (HE.out.later q (Nat.le_refl _)); clear HE; have HE := HE'; clear HE'
         have HB' := Lib.hid (HB.out.later q (Nat.le_refl _)); clear HB; have HB := HB'; clear HB'
         have kS := (((((KR.out _ Bc).farA (g' := w.heap.size + 1) (k := 0) (by omega) (.slice AE nE cE)).farA (g' := w.heap.size + 1) (k := 1) (by omega) (.slice AB nB cB)).farA (g' := w.heap.size + 1) (k := 2) (by omega) (.slice AC nC cC)).farA (g' := w.heap.size + 1) (k := 3) (by omega) (.int .i64 nb)).four
         obtain ⟨d0, d1, d2, d3⟩ := (KP.out _ Bc).2.1.four
         obtain ⟨f0, f1, f2, f3, _, _, _, _⟩ := (KP.out _ Bc).2.1.frees
         clear ho q Bd)
      | (have BP := Bc; have ZP := Zc; refine step_append_boolW rfl (.tmp 6) (.tmp 8) rfl (.slice (some ⟨W0.heap.size, 0, none⟩) 0 0) [] rfl HB0.out BP ZP pb po n2 k2 b rfl HLB.out (HCB.out _ (KP.out _ BP).2.2) HS2.out ?_

         intro v2 w2 hp q hgr
         have HBS := Lib.hid (show w1.heap.size ≤ w2.heap.size by first | exact hgr.size | exact Nat.le_trans (by simp) hgr.size)
         have Bc := q
         have Zc : z ≤ w2.heap.size := Nat.le_trans Z0 Bc.size
         obtain ⟨AB, nB, cB, rfl⟩ := hp.sliceOf
         have HB := Lib.hid (show BoolsOwn w2 z (.slice AB nB cB) b from hp)
         try (have HE' := Lib.hid (HE.out.kept hgr (ownApartW HE.out HB0.out)); clear HE; have HE := HE'; clear HE')
         try (have HC' := Lib.hid (HC.out.kept hgr (ownApartW HC.out HB0.out)); clear HC; have HC := HC'; clear HC')
         obtain ⟨d0, d1, d2, d3⟩ := (KP.out _ Bc).2.1.four
         obtain ⟨f0, f1, f2, f3, _, _, _, _⟩ := (KP.out _ Bc).2.1.frees
         clear hp q hgr BP)
      | (have BP := Bc.alloc Zc (.cells #[] 4); have ZP := Nat.le_trans Z0 BP.size; have HB1 := Lib.hid (BoolsOwn.made w1 (B := z) Zc); have HE1 := Lib.hid (show IntsOwn (w1.alloc (.cells #[] 4)) _ _ _ from World.ownsRow.alloc HE.out _); clear HE; have HE := HE1; clear HE1; refine step_append_boolW rfl (.tmp 6) (.tmp 8) rfl (.slice (some ⟨w1.heap.size, 0, none⟩) 0 0) [] rfl HB1.out BP ZP pb po n2 k2 b rfl HLB.out (HCB.out _ (KP.out _ BP).2.2) HS2.out ?_

         intro v2 w2 hp q hgr
         have HBS := Lib.hid (show w1.heap.size ≤ w2.heap.size by first | exact hgr.size | exact Nat.le_trans (by simp) hgr.size)
         have Bc := q
         have Zc : z ≤ w2.heap.size := Nat.le_trans Z0 Bc.size
         obtain ⟨AB, nB, cB, rfl⟩ := hp.sliceOf
         have HB := Lib.hid (show BoolsOwn w2 z (.slice AB nB cB) b from hp)
         try (have HE' := Lib.hid (HE.out.kept hgr (ownApartW HE.out HB1.out)); clear HE; have HE := HE'; clear HE')
         try (have HC' := Lib.hid (HC.out.kept hgr (ownApartW HC.out HB1.out)); clear HC; have HC := HC'; clear HC')
         obtain ⟨d0, d1, d2, d3⟩ := (KP.out _ Bc).2.1.four
         obtain ⟨f0, f1, f2, f3, _, _, _, _⟩ := (KP.out _ Bc).2.1.frees
         clear hp q hgr BP)
      )
  all_goals
    have hz2 := HZE.out
    go_wp2
    refine bodyPost_ret (results_cell_row Try.results90 _ _ _ _ #[.slice AE nE cE, .slice AB nB cB, .slice AC nC cC, .int .i64 nb] _ _ rfl (((((KP.out _ Bc).2.1.set_ 0 _).set_ 1 _).set_ 2 _).set_ 3 _) Try.underlying27 rfl infoWe) rfl ⟨_, rfl, ⟨_, _, _, rfl, ⟨(HE.out.sames fun k e => ?_).low (by omega), fun k e => ?_⟩, ⟨(HB.out.sames fun k e => ?_).low (by omega), fun k e => ?_⟩, ⟨(HC.out.sames fun k e => ?_).low (by omega), fun k e => ?_⟩, ownApartW HE.out HB.out, ?_, own_ne (ownApartW HC.out HB.out)⟩, ?_⟩
    · have := (HE.out.blockOf e).1
      repeat rw [Below.heap_setCell _ ⟨_, _, none⟩ _ k (by simp; omega)]
    · have := (HE.out.blockOf e).2; simpa using this
    · have := (HB.out.blockOf e).1
      repeat rw [Below.heap_setCell _ ⟨_, _, none⟩ _ k (by simp; omega)]
    · have := (HB.out.blockOf e).2; simpa using this
    · have := (HC.out.blockOf e).1
      repeat rw [Below.heap_setCell _ ⟨_, _, none⟩ _ k (by simp; omega)]
    · have := (HC.out.blockOf e).2; simpa using this
    · cases hq : (Value.slice AE nE cE).ownBlock with
      | none => exact .inl rfl
      | some k => exact .inr fun e => by have := RE.out k hq; have := RC.out k e.symm; omega
    · repeat refine bset ?_ (by omega) _
      exact (KP.out _ Bc).2.2
end Go.Proofs.Ytainlanblpccjaa
/- Plain facts: which block comes first in an order of erase counts; the counts of the good blocks. -/
namespace Go.Proofs.Ytainlanblpccjaa
open Go.RowKit
set_option linter.unusedVariables false
def cmpI (x y : Int) : Int := if x < y then -1 else if y < x then 1 else 0
theorem cmpI_bd (x y : Int) : -1 ≤ cmpI x y ∧ cmpI x y ≤ 1 := by unfold cmpI; split <;> (try split) <;> omega
def orI (a b : Int) : Int := if a = 0 then b else a
/-- By the order o, and by the number where o leaves it open. -/
def byNum (o : Int → Int → Int) (a b : Int) : Int := orI (o a b) (cmpI a b)
/-- The first of the least of the first k + 1 elements. -/
def bestBy (c : Int → Int → Int) (l : List Int) : Nat → Int
  | 0 => l.getD 0 0
  | k + 1 => if c (l.getD (k + 1) 0) (bestBy c l k) < 0 then l.getD (k + 1) 0 else bestBy c l k
theorem bestBy_at (c : Int → Int → Int) (l : List Int) (k : Nat) : ∃ i, i ≤ k ∧ bestBy c l k = l.getD i 0 := by
  induction k with
  | zero => exact ⟨0, Nat.le_refl _, rfl⟩
  | succ k ih =>
    unfold bestBy
    split
    · exact ⟨k + 1, Nat.le_refl _, rfl⟩
    · obtain ⟨i, h, e⟩ := ih; exact ⟨i, by omega, e⟩
theorem bestBy_yes {c : Int → Int → Int} {l : List Int} {k : Nat} (h : c (l.getD (k + 1) 0) (bestBy c l k) < 0) : bestBy c l (k + 1) = l.getD (k + 1) 0 := by rw [bestBy, if_pos h]
theorem bestBy_no {c : Int → Int → Int} {l : List Int} {k : Nat} (h : ¬ c (l.getD (k + 1) 0) (bestBy c l k) < 0) : bestBy c l (k + 1) = bestBy c l k := by rw [bestBy, if_neg h]
/-- The best of the first k, -1 where there is none. -/
def bestF (c : Int → Int → Int) (l : List Int) : Nat → Int
  | 0 => -1
  | k + 1 => bestBy c l k
def firstV (o : Int → Int → Int) (l : List Int) : Int := bestF (byNum o) l l.length
def ordE (er : List Int) (hot : Bool) (a b : Int) : Int := if hot = true then cmpI (er.getD a.toNat 0) (er.getD b.toNat 0) else cmpI (er.getD b.toNat 0) (er.getD a.toNat 0)
def FreeOk (er fr : List Int) : Prop := ∀ i, i < fr.length → 0 ≤ fr.getD i 0 ∧ fr.getD i 0 < (er.length : Int)
def pickV (er fr : List Int) (hot r : Bool) : Int := if r = true then firstV (ordE er hot) fr else -1
theorem bestF_in {er fr : List Int} {c : Int → Int → Int} {k : Nat} (h : ∀ i, i < k → 0 ≤ fr.getD i 0 ∧ fr.getD i 0 < (er.length : Int)) : (k = 0 ∧ bestF c fr k = -1) ∨ (0 < k ∧ 0 ≤ bestF c fr k ∧ bestF c fr k < (er.length : Int)) := by
  cases k with
  | zero => exact .inl ⟨rfl, rfl⟩
  | succ k =>
    obtain ⟨i, hi, e⟩ := bestBy_at c fr k
    have := h i (by omega)
    exact .inr ⟨by omega, by show 0 ≤ bestBy c fr k; omega, by show bestBy c fr k < _; omega⟩
/-- One round of the search. -/
theorem bestF_step (c : Int → Int → Int) (l : List Int) (k : Nat) : bestF c l (k + 1) = if k = 0 ∨ c (l.getD k 0) (bestF c l k) < 0 then l.getD k 0 else bestF c l k := by
  cases k with
  | zero => rfl
  | succ k =>
    show bestBy c l (k + 1) = _
    rw [bestBy]
    by_cases h : c (l.getD (k + 1) 0) (bestBy c l k) < 0
    · rw [if_pos h, if_pos (.inr h)]
    · rw [if_neg h, if_neg (by rintro (e | e); · omega
                               · exact h e)]
      rfl
/-- The good blocks among the first k. -/
def goodL (bad : List Bool) : Nat → List Int
  | 0 => []
  | k + 1 => if bad.getD k false = true then goodL bad k else goodL bad k ++ [(k : Int)]
theorem goodL_le (bad : List Bool) (k : Nat) : (goodL bad k).length ≤ k := by
  induction k with
  | zero => simp [goodL]
  | succ k ih =>
    unfold goodL
    split
    · omega
    · rw [List.length_append, List.length_singleton]; omega
theorem goodL_mem (bad : List Bool) (k : Nat) (i : Nat) (h : i < (goodL bad k).length) : 0 ≤ (goodL bad k).getD i 0 ∧ (goodL bad k).getD i 0 < (k : Int) := by
  induction k with
  | zero => simp [goodL] at h
  | succ k ih =>
    unfold goodL at h ⊢
    split at h
    · rename_i hb
      rw [if_pos hb]
      have := ih h; omega
    · rename_i hb
      rw [if_neg hb]
      by_cases e : i < (goodL bad k).length
      · have := ih e
        rw [List.getD_eq_getElem?_getD] at this ⊢
        rw [List.getElem?_append_left e]
        omega
      · have e2 : i = (goodL bad k).length := by simp at h; omega
        rw [List.getD_eq_getElem?_getD, List.getElem?_append_right (show (goodL bad k).length ≤ i by omega)]
        subst e2
        simp
        omega
def cntL (er : List Int) (l : List Int) : List Int := l.map fun b => er.getD b.toNat 0
theorem cntL_length (er l : List Int) : (cntL er l).length = l.length := by unfold cntL; simp
/-- The largest, the smallest element, 0 of none. -/
def hiL : List Int → Int
  | [] => 0
  | x :: r => r.foldl (fun m y => if m < y then y else m) x
def loL : List Int → Int
  | [] => 0
  | x :: r => r.foldl (fun m y => if y < m then y else m) x
theorem hiL_snoc (l : List Int) (y : Int) : hiL (l ++ [y]) = if l = [] then y else if hiL l < y then y else hiL l := by
  cases l with
  | nil => rfl
  | cons x r => rw [if_neg (show ¬ (x :: r = []) by simp)]; simp only [List.cons_append, hiL, List.foldl_append, List.foldl_cons, List.foldl_nil]; rfl
theorem loL_snoc (l : List Int) (y : Int) : loL (l ++ [y]) = if l = [] then y else if y < loL l then y else loL l := by
  cases l with
  | nil => rfl
  | cons x r => rw [if_neg (show ¬ (x :: r = []) by simp)]; simp only [List.cons_append, loL, List.foldl_append, List.foldl_cons, List.foldl_nil]; rfl
theorem hiL_take (l : List Int) (k : Nat) (h : k < l.length) (h0 : 0 < k) : hiL (l.take (k + 1)) = if hiL (l.take k) < l.getD k 0 then l.getD k 0 else hiL (l.take k) := by
  rw [List.take_succ_eq_append_getElem h, hiL_snoc, if_neg (by intro e; have := congrArg List.length e; rw [List.length_take] at this; simp only [List.length_nil] at this; omega), List.getD_eq_getElem?_getD, List.getElem?_eq_getElem h]
  rfl
theorem loL_take (l : List Int) (k : Nat) (h : k < l.length) (h0 : 0 < k) : loL (l.take (k + 1)) = if l.getD k 0 < loL (l.take k) then l.getD k 0 else loL (l.take k) := by
  rw [List.take_succ_eq_append_getElem h, loL_snoc, if_neg (by intro e; have := congrArg List.length e; rw [List.length_take] at this; simp only [List.length_nil] at this; omega), List.getD_eq_getElem?_getD, List.getElem?_eq_getElem h]
  rfl
def CountsOk (er : List Int) : Prop := ∀ i, i < er.length → 0 ≤ er.getD i 0 ∧ er.getD i 0 ≤ 1000
/-- The counts of the good ones among the first k blocks. -/
def gcL (er : List Int) (bad : List Bool) (k : Nat) : List Int := cntL er (goodL bad k)
theorem gcL_zero (er : List Int) (bad : List Bool) : gcL er bad 0 = [] := rfl
theorem gcL_bad {er : List Int} {bad : List Bool} {k : Nat} (h : bad.getD k false = true) : gcL er bad (k + 1) = gcL er bad k := by unfold gcL; rw [goodL, if_pos h]
theorem gcL_good {er : List Int} {bad : List Bool} {k : Nat} (h : ¬ bad.getD k false = true) : gcL er bad (k + 1) = gcL er bad k ++ [er.getD k 0] := by unfold gcL; rw [goodL, if_neg h]; simp [cntL]
theorem gcL_in {er : List Int} {bad : List Bool} (h : CountsOk er) (k : Nat) (hk : k ≤ er.length) : ∀ i, i < (gcL er bad k).length → 0 ≤ (gcL er bad k).getD i 0 ∧ (gcL er bad k).getD i 0 ≤ 1000 := by
  intro i hi
  have hi2 : i < (goodL bad k).length := by unfold gcL at hi; rwa [cntL_length] at hi
  have hm := goodL_mem bad k i hi2
  have e : (gcL er bad k).getD i 0 = er.getD ((goodL bad k).getD i 0).toNat 0 := by
    unfold gcL cntL
    simp only [List.getD_eq_getElem?_getD, List.getElem?_map, List.getElem?_eq_getElem hi2]
    simp
  rw [e]
  exact h _ (by omega)
theorem hiL_in (l : List Int) (h : ∀ i, i < l.length → 0 ≤ l.getD i 0 ∧ l.getD i 0 ≤ 1000) : ∀ k, k ≤ l.length → (0 ≤ hiL (l.take k) ∧ hiL (l.take k) ≤ 1000) ∧ (0 ≤ loL (l.take k) ∧ loL (l.take k) ≤ 1000) := by
  intro k
  induction k with
  | zero => intro _; simp [hiL, loL]
  | succ k ih =>
    intro hk
    have h1 := ih (by omega)
    have h2 := h k (by omega)
    rcases Nat.eq_zero_or_pos k with e | e
    · subst e
      have : l.take (0 + 1) = [l.getD 0 0] := by
        rw [List.take_succ_eq_append_getElem (by omega)]; simp [List.getD_eq_getElem?_getD, List.getElem?_eq_getElem (show 0 < l.length by omega)]
      rw [this]; simp only [hiL, loL, List.foldl]; exact ⟨h2, h2⟩
    · rw [hiL_take l k (by omega) e, loL_take l k (by omega) e]
      constructor <;> split <;> omega
def gapV (er : List Int) (bad : List Bool) (r : Bool) : Int := if r = true then hiL (gcL er bad er.length) - loL (gcL er bad er.length) else 0
/-- Static: the good blocks that are not excluded. -/
def statL (bad : List Bool) (ex : List Int) (n : Nat) : List Int := (goodL bad n).filter fun x => !(ex.contains x)
def statV (er : List Int) (bad : List Bool) (ex : List Int) : Int := firstV (ordE er true) (statL bad ex er.length)
end Go.Proofs.Ytainlanblpccjaa
/- Plain data: Cells. -/
namespace Go.Proofs.Ytainlanblpccjaa
open Go.RowKit
set_option linter.unusedVariables false
structure Ce where
  c : List Int
def Ce.zero : Ce := ⟨[]⟩
instance : Inhabited Ce := ⟨Ce.zero⟩
/-- It fits. -/
def CeSz (M : Ce) : Prop := M.c.length ≤ 1048576
theorem Ce.zero_sz : CeSz Ce.zero := by unfold CeSz Ce.zero; simp
end Go.Proofs.Ytainlanblpccjaa
/- Memory cells as plain data: what is valid, what an erase leaves. No program in it. -/
namespace Go.Proofs.Ytainlanblpccjaa
open Go.RowKit
set_option linter.unusedVariables false
/-- One charge is in its bounds. -/
def ChOk (c : List Int) (i : Nat) : Prop := 0 ≤ c.getD i 0 ∧ c.getD i 0 ≤ 255
def CeOk (M : Ce) : Prop := M.c.length ≤ 64 ∧ ∀ i, i < M.c.length → ChOk M.c i
def eraC (M : Ce) : Ce := ⟨M.c.map (· / 4)⟩
def eraE (M : Ce) (r : Bool) : Ce := bif r then eraC M else Ce.zero
theorem eraE_sz {M : Ce} {r : Bool} (z : CeSz M) : CeSz (eraE M r) := by
  unfold CeSz at z ⊢
  cases r
  · simp [eraE, Ce.zero]
  · simpa [eraE, eraC] using z
/-- Two charges differ. -/
def Leaks (M : Ce) : Prop := ∃ i, i < M.c.length ∧ M.c.getD i 0 ≠ M.c.getD 0 0
end Go.Proofs.Ytainlanblpccjaa
