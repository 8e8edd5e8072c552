/- A list of integers copied (slices.Clone, the model's l00Own); write counters copied: the contracts. -/
import Derived.Test.YtgkanacaijlljaaProg
import Derived.Test.YtgkanacaijlljaaHtX
import Derived.Deep.RegionHeld3
import Derived.Deep.Cut
import Derived.Lib.LazyBuf
import Derived.Deep.DeepCutAuto
namespace Go.Proofs.Ytgkanacaijlljaa
open Go.RowKit
set_option linter.unusedVariables false
set_option linter.unusedSimpArgs false
theorem wpList_append_ints {Q : Exit → Act → World → Prop} {ops : Array Oper} {rest : List Oper} {o : Oper} {a : Act} {w0 wr : World} {B : Nat} (hgd : o.guard = none) (s x : Operand)
    (ho : o.op = .call { callee := .builtin .append, args := #[s, x], argTypes := #[22, 22] })
    (v : Value) (l : List Int) (hs : a.eval s = v) (hown : IntsOwn wr B v l) (hb : Below B w0 wr) (hB : B ≤ wr.heap.size)
    (pb po m c : Nat) (L : List Int) (hx : a.eval x = .slice (some ⟨pb, po, none⟩) m c) (hL : L.length = m) (hc : ∀ i, i < m → wr.cell? ⟨pb, po + i, none⟩ = some (.int .i64 (L.getD i 0))) (hl : l.length + m ≤ 2097152)
    (h : ∀ v' w', IntsOwn w' B v' (l ++ L) → Below B w0 w' → wr.grownBy w' v.ownBlock → wpList Try.prog ops Q rest (a.put o.dst v') w') :
    wpList Try.prog ops Q (o :: rest) a wr := by
  obtain ⟨i0, hi, hz0, hz1, hz2⟩ := info_parts info64
  refine wpList_append_own _ hgd s x _ ho B 2 i0 (.int .i64 0) 1 8 Try.underlying22 hi hz0 hz1 hz2 rfl (by decide) v l.length (l.map (Value.int .i64)) hs hown ⟨pb, po, none⟩ m c (L.map (Value.int .i64)) hx (by simp [hL]) ?_ ?_ (by unfold maxLen; omega) (by omega) hB ?_
  · intro j u hj
    have hlt : j < L.length := by
      rcases Nat.lt_or_ge j L.length with h | h
      · exact h
      · rw [List.getElem?_eq_none (by simpa using h)] at hj; cases hj
    rw [Addr.add_lit, hc j (by omega)]
    simp [hlt] at hj ⊢
    exact hj
  · intro u hu; simp at hu; obtain ⟨z, _, rfl⟩ := hu; rfl
  · intro v' w' h1 h2 _
    refine h v' w' ?_ (hb.grown h2 hB fun k hk => (World.ownsRow.lt hown k hk).1) h2
    unfold IntsOwn; simpa [hL] using h1
def wpCopyFacts (w : World) (hi pb po n : Nat) (L : List Int) : Prop := pb < hi ∧ hi ≤ w.heap.size ∧ ∀ i, i < n → w.cell? ⟨pb, po + i, none⟩ = some (.int .i64 (L.getD i 0))
set_option maxRecDepth 100000 in
theorem cloneInts_any (v : Value) (L : List Int) (w : World) (hi : Nat) (hv : NI w hi v L) (hh : hi ≤ w.heap.size) (h0 : 0 < L.length) (hl : L.length ≤ 1048576) :
    Calls Try.prog 95 #[v] w (CopyPostI L w) := by
  obtain ⟨A, n, c, rfl, _, _, hn, hA⟩ := hv
  obtain ⟨pb, po, rfl, hp2, hpx⟩ := hA (by omega)
  have hi1 := IntsOwn.made w (B := w.heap.size) (Nat.le_refl _)
  have hb1 := (Below.refl w.heap.size w).alloc (Nat.le_refl _) (.cells #[] 2)
  have HC := Lib.hid (fun (i : Nat) (h : i < n) => (hb1.cell (p := ⟨pb, po + i, none⟩) (by show pb < _; omega)).trans (hpx i h))
  have hz : w.heap.size ≤ (w.alloc (.cells #[] 2)).heap.size := by simp
  have HI := Lib.hid hi1
  have HB := Lib.hid hb1
  have HN := Lib.hid hn
  have HL := Lib.hid (show n ≤ 1048576 by omega)
  clear hpx hA hi1 hb1 hn hl h0
  have hnil := fun (W : World) => run_eql_slice_nil (P := Try.prog) W 22 2 (some ⟨pb, po, none⟩) n c Try.underlying22
  simp only [Option.isNone_some] at hnil
  go_enter Try.func95, Try.ntmps95
  go_wp2_with (at_builtin; refine wpList_append_ints rfl _ _ rfl _ [] rfl HI.out HB.out hz pb po n c L rfl HN.out HC.out (by have := HL.out; simp; omega) ?_; intro v' w1 ho hb2 _; have HO := Lib.hid ho; have HB2 := Lib.hid hb2; clear ho hb2)
  go_ret
  exact ⟨_, rfl, by simpa using HO.out, HB2.out⟩
set_option maxRecDepth 100000 in
theorem ownInts_any (v : Value) (L : List Int) (w : World) (hi : Nat) (hv : NI w hi v L) (hh : hi ≤ w.heap.size) (h0 : 0 < L.length) (hl : L.length ≤ 1048576) :
    Calls Try.prog 93 #[v] w (CopyPostI L w) := by
  obtain ⟨A, n, c, rfl, _, _, hn, hA⟩ := hv
  obtain ⟨pb, po, rfl, hp2, hpx⟩ := hA (by omega)
  have hi1 := IntsOwn.made w (B := w.heap.size) (Nat.le_refl _)
  have hb1 := (Below.refl w.heap.size w).alloc (Nat.le_refl _) (.cells #[] 2)
  have HC := Lib.hid (fun (i : Nat) (h : i < n) => (hb1.cell (p := ⟨pb, po + i, none⟩) (by show pb < _; omega)).trans (hpx i h))
  have hz : w.heap.size ≤ (w.alloc (.cells #[] 2)).heap.size := by simp
  have HI := Lib.hid hi1
  have HB := Lib.hid hb1
  have HN := Lib.hid hn
  have HL := Lib.hid (show n ≤ 1048576 by omega)
  clear hpx hA hi1 hb1 hn hl h0
  go_enter Try.func93, Try.ntmps93
  go_wp2_with (at_builtin; refine wpList_append_ints rfl _ _ rfl _ [] rfl HI.out HB.out hz pb po n c L rfl HN.out HC.out (by have := HL.out; simp; omega) ?_; intro v' w1 ho hb2 _; have HO := Lib.hid ho; have HB2 := Lib.hid hb2; clear ho hb2)
  go_ret
  exact ⟨_, rfl, by simpa using HO.out, HB2.out⟩
set_option maxHeartbeats 2000000 in
theorem cloneHt_any (g : Nat) (cs : List Int) (x : Int) (u : Value) (w : World) (hi : Nat) (hR : Rw w g 27 #[u, .int .i64 x]) (hu : NI w hi u cs) (hh : hi ≤ w.heap.size) (h0 : 0 < cs.length) (hl : cs.length ≤ 1048576) :
    Calls Try.prog 68 #[.pointer (some ⟨g, 0, none⟩)] w (HtPost1 ⟨cs, x⟩ w) := by
  obtain ⟨W0, hW0⟩ : ∃ W0, W0 = w.alloc (.cells #[.slice none 0 0, .int .i64 0] 27) := ⟨_, rfl⟩
  have BW0 := Lib.hid (show Below w.heap.size w W0 ∧ W0.heap.size = w.heap.size + 1 ∧ Rw W0 w.heap.size 27 #[.slice none 0 0, .int .i64 0] from by
    rw [hW0]
    exact ⟨(Below.refl w.heap.size w).alloc (Nat.le_refl _) _, by simp, Rw.new w _ _⟩)
  have hg := hR.lt
  have HC := Lib.hid (fun (W : World) (b : Below w.heap.size w W) => cloneInts_any u cs W hi (hu.below b hh) (Nat.le_trans hh b.size) h0 hl)
  obtain ⟨A, n, c, rfl⟩ := hu.slice
  have KP := Lib.hid (fun (W : World) (b : Below (w.heap.size + 1) W0 W) => show (W.cell? ⟨g, 0, none⟩ = some (.slice A n c) ∧ W.cell? ⟨g, 1, none⟩ = some (.int .i64 x)) ∧ Rw W w.heap.size 27 #[.slice none 0 0, .int .i64 0] ∧ Below w.heap.size w W from
    ⟨((hR.below BW0.out.1 hg).below b (by omega)).two, BW0.out.2.2.below b (by omega), BW0.out.1.trans (b.mono (by omega))⟩)
  have KS := Lib.hid (fun (W : World) (b : Below w.heap.size w W) => show W.cell? ⟨g, 0, none⟩ = some (.slice A n c) ∧ W.cell? ⟨g, 1, none⟩ = some (.int .i64 x) from (hR.below b hg).two)
  have hzz : w.heap.size + 1 ≤ W0.heap.size := by rw [BW0.out.2.1]; omega
  clear hR hu hh h0 hl
  go_enter Try.func68, Try.ntmps68
  go_wp2_with fail
  rw [← hW0]
  clear hW0
  have hb0 := Below.refl (w.heap.size + 1) W0
  have hz1 : W0.drew.heap.size = w.heap.size + 1 := BW0.out.2.1
  obtain ⟨⟨k0, k1⟩, kr, kb⟩ := KP.out _ hb0.drew
  go_region_held3 (fun W => W.cell? ⟨g, 0, none⟩ = some (.slice A n c) ∧ W.cell? ⟨g, 1, none⟩ = some (.int .i64 x))
    (first
      | with_reducible exact (KP.out _ hb0.drew).1
      | with_reducible exact (KP.out _ B1).1
      | with_reducible exact KS.out _ (bset (bset KR.out.2 (Nat.le_refl _) _) (Nat.le_refl _) _))
    (first
      | (go_at_call 95
         refine (HC.out _ (KP.out _ hb0.drew).2.2).mono ?_
         rintro e w1 ⟨v, rfl, ho, b⟩
         have B1 := hb0.drew.trans (b.mono (by rw [hz1]; omega))
         obtain ⟨A1, n1, c1, rfl⟩ := ho.sliceOfH
         have KR := Lib.hid (KP.out _ B1).2
         have HO := Lib.hid ho
         obtain ⟨d0, d1⟩ := KR.out.1.two
         obtain ⟨f0, f1, _, _, _, _, _, _⟩ := KR.out.1.frees))
  all_goals (
    go_wp2
    refine bodyPost_ret (results_cell_row Try.results68 _ _ _ _ _ _ _ rfl ((KR.out.1.set_ 0 _).set_ 1 _) Try.underlying27 rfl infoHt) rfl ?_
    refine ⟨_, rfl, ⟨_, rfl, ⟨(HO.out.sames fun k e => ?_).low (by omega), fun k e => ?_⟩⟩, ?_⟩
    · have := (HO.out.blockOf e).1
      rw [hz1] at this
      repeat rw [Below.heap_setCell _ ⟨_, _, none⟩ _ k (by simp; omega)]
    · have := (HO.out.blockOf e).2; simp; omega
    · repeat refine bset ?_ (Nat.le_refl _) _
      exact KR.out.2)
end Go.Proofs.Ytgkanacaijlljaa
