/- A list of bools copied (append of a whole list, slices.Clone): the contracts. -/
import Derived.Test.YtgkanacaijlljaaProg
import Derived.Test.YtgkanacaijlljaaPmX
import Derived.Test.YtgkanacaijlljaaHtC
import Derived.Deep.RegionHeld3
import Derived.Deep.Cut
import Derived.Lib.LazyBuf
import Derived.Deep.DeepCutAuto
namespace Go.Proofs.Ytgkanacaijlljaa
open Go.RowKit
set_option linter.unusedVariables false
set_option linter.unusedSimpArgs false
theorem wpList_append_boolL {Q : Exit → Act → World → Prop} {ops : Array Oper} {rest : List Oper} {o : Oper} {a : Act} {w0 wr : World} {B : Nat} (hgd : o.guard = none) (s x : Operand)
    (ho : o.op = .call { callee := .builtin .append, args := #[s, x], argTypes := #[55, 55] })
    (v : Value) (l : List Bool) (hs : a.eval s = v) (hown : BoolsOwn wr B v l) (hb : Below B w0 wr) (hB : B ≤ wr.heap.size)
    (pb po m c : Nat) (L : List Bool) (hx : a.eval x = .slice (some ⟨pb, po, none⟩) m c) (hL : L.length = m) (hc : ∀ i, i < m → wr.cell? ⟨pb, po + i, none⟩ = some (.bool (L.getD i false))) (hl : l.length + m ≤ 2097152)
    (h : ∀ v' w', BoolsOwn w' B v' (l ++ L) → Below B w0 w' → wr.grownBy w' v.ownBlock → wpList Try.prog ops Q rest (a.put o.dst v') w') :
    wpList Try.prog ops Q (o :: rest) a wr := by
  obtain ⟨i0, hi, hz0, hz1, hz2⟩ := info_parts infoBo
  refine wpList_append_own _ hgd s x _ ho B 4 i0 (.bool false) 1 1 Try.underlying55 hi hz0 hz1 hz2 rfl (by decide) v l.length (l.map Value.bool) hs hown ⟨pb, po, none⟩ m c (L.map Value.bool) hx (by simp [hL]) ?_ ?_ (by unfold maxLen; omega) (by omega) hB ?_
  · intro j u hj
    have hlt : j < L.length := by
      rcases Nat.lt_or_ge j L.length with h | h
      · exact h
      · rw [List.getElem?_eq_none (by simpa using h)] at hj; cases hj
    rw [Addr.add_lit, hc j (by omega)]
    simp [hlt] at hj ⊢
    exact hj
  · intro u hu; simp at hu; rcases hu with ⟨_, rfl⟩ | ⟨_, rfl⟩ <;> rfl
  · intro v' w' h1 h2 _
    refine h v' w' ?_ (hb.grown h2 hB fun k hk => (World.ownsRow.lt hown k hk).1) h2
    unfold BoolsOwn; simpa [hL] using h1
/-- The same inside a region that draws its order. -/
theorem step_append_boolL {Q : Exit → Act → World → Prop} {K : Act → World → Prop} {E : Prop} {ops : Array Oper} {o : Oper} {a : Act} {w0 wr : World} {B : Nat} (hgd : o.guard = none) (s x : Operand)
    (ho : o.op = .call { callee := .builtin .append, args := #[s, x], argTypes := #[55, 55] })
    (v : Value) (l : List Bool) (hs : a.eval s = v) (hown : BoolsOwn wr B v l) (hb : Below B w0 wr) (hB : B ≤ wr.heap.size)
    (pb po m c : Nat) (L : List Bool) (hx : a.eval x = .slice (some ⟨pb, po, none⟩) m c) (hL : L.length = m) (hc : ∀ i, i < m → wr.cell? ⟨pb, po + i, none⟩ = some (.bool (L.getD i false))) (hl : l.length + m ≤ 2097152)
    (h : ∀ v' w', BoolsOwn w' B v' (l ++ L) → Below B w0 w' → wr.grownBy w' v.ownBlock → K (a.put o.dst v') w') :
    if Region.wanted o (yielded ops a.tmps) = true then Oper.wp Try.prog o a wr K Q else E := by
  have hw : Region.wanted o (yielded ops a.tmps) = true := by simp [Region.wanted, hgd]
  rw [if_pos hw]
  obtain ⟨i0, hi, hz0, hz1, hz2⟩ := info_parts infoBo
  refine wp_append_own wr s x _ ho B 4 i0 (.bool false) 1 1 Try.underlying55 hi hz0 hz1 hz2 rfl (by decide) v l.length (l.map Value.bool) hs hown ⟨pb, po, none⟩ m c (L.map Value.bool) hx (by simp [hL]) ?_ ?_ (by unfold maxLen; omega) (by omega) hB ?_
  · intro j u hj
    have hlt : j < L.length := by
      rcases Nat.lt_or_ge j L.length with h | h
      · exact h
      · rw [List.getElem?_eq_none (by simpa using h)] at hj; cases hj
    rw [Addr.add_lit, hc j (by omega)]
    simp [hlt] at hj ⊢
    exact hj
  · intro u hu; simp at hu; rcases hu with ⟨_, rfl⟩ | ⟨_, rfl⟩ <;> rfl
  · intro v' w' h1 h2 _
    refine h v' w' ?_ (hb.grown h2 hB fun k hk => (World.ownsRow.lt hown k hk).1) h2
    unfold BoolsOwn; simpa [hL] using h1
set_option maxRecDepth 100000 in
theorem cloneBools_any (v : Value) (L : List Bool) (w : World) (hi : Nat) (hv : NB w hi v L) (hh : hi ≤ w.heap.size) (h0 : 0 < L.length) (hl : L.length ≤ 1048576) :
    Calls Try.prog 100 #[v] w (CopyPostB L w) := by
  obtain ⟨A, n, c, rfl, _, _, hn, hA⟩ := hv
  obtain ⟨pb, po, rfl, hp2, hpx⟩ := hA (by omega)
  have hi1 := BoolsOwn.made w (B := w.heap.size) (Nat.le_refl _)
  have hb1 := (Below.refl w.heap.size w).alloc (Nat.le_refl _) (.cells #[] 4)
  have HC := Lib.hid (fun (i : Nat) (h : i < n) => (hb1.cell (p := ⟨pb, po + i, none⟩) (by show pb < _; omega)).trans (hpx i h))
  have hz : w.heap.size ≤ (w.alloc (.cells #[] 4)).heap.size := by simp
  have HI := Lib.hid hi1
  have HB := Lib.hid hb1
  have HN := Lib.hid hn
  have HL := Lib.hid (show n ≤ 1048576 by omega)
  clear hpx hA hi1 hb1 hn hl h0
  have hnil := fun (W : World) => run_eql_slice_nil (P := Try.prog) W 55 4 (some ⟨pb, po, none⟩) n c Try.underlying55
  simp only [Option.isNone_some] at hnil
  go_enter Try.func100, Try.ntmps100
  go_wp2_with (at_builtin; refine wpList_append_boolL rfl _ _ rfl _ [] rfl HI.out HB.out hz pb po n c L rfl HN.out HC.out (by have := HL.out; simp; omega) ?_; intro v' w1 ho hb2 _; have HO := Lib.hid ho; have HB2 := Lib.hid hb2; clear ho hb2)
  go_ret
  exact ⟨_, rfl, by simpa using HO.out, HB2.out⟩
end Go.Proofs.Ytgkanacaijlljaa
