/- A list of integers copied (slices.Clone, the model's l00Own); write counters copied: the contracts. -/
import Derived.Test.YtmbgagkpabepcaaProg
import Derived.Test.YtmbgagkpabepcaaHtX
import Derived.Deep.RegionHeld3
import Derived.Deep.Cut
import Derived.Lib.LazyBuf
import Derived.Deep.DeepCutAuto
namespace Go.Proofs.Ytmbgagkpabepcaa
open Go.RowKit
set_option linter.unusedVariables false
set_option linter.unusedSimpArgs false
theorem wpList_append_ints {Q : Exit → Act → World → Prop} {ops : Array Oper} {rest : List Oper} {o : Oper} {a : Act} {w0 wr : World} {B : Nat} (hgd : o.guard = none) (s x : Operand)
    (ho : o.op = .call { callee := .builtin .append, args := #[s, x], argTypes := #[22, 22] })
    (v : Value) (l : List Int) (hs : a.eval s = v) (hown : IntsOwn wr B v l) (hb : Below B w0 wr) (hB : B ≤ wr.heap.size)
    (pb po m c : Nat) (L : List Int) (hx : a.eval x = .slice (some ⟨pb, po, none⟩) m c) (hL : L.length = m) (hc : ∀ i, i < m → wr.cell? ⟨pb, po + i, none⟩ = some (.int .i64 (L.getD i 0))) (hl : l.length + m ≤ 2097152)
    (h : ∀ v' w', IntsOwn w' B v' (l ++ L) → Below B w0 w' → wr.grownBy w' v.ownBlock → wpList Try.prog ops Q rest (a.put o.dst v') w') :
    wpList Try.prog ops Q (o :: rest) a wr := by
  obtain ⟨i0, hi, hz0, hz1, hz2⟩ := info_parts info64
  refine wpList_append_own _ hgd s x _ ho B 2 i0 (.int .i64 0) 1 8 Try.underlying22 hi hz0 hz1 hz2 rfl (by decide) v l.length (l.map (Value.int .i64)) hs hown ⟨pb, po, none⟩ m c (L.map (Value.int .i64)) hx (by simp [hL]) ?_ ?_ (by unfold maxLen; omega) (by omega) hB ?_
  · intro j u hj
    have hlt : j < L.length := by
      rcases Nat.lt_or_ge j L.length with h | h
      · exact h
      · rw [List.getElem?_eq_none (by simpa using h)] at hj; cases hj
    rw [Addr.add_lit, hc j (by omega)]
    simp [hlt] at hj ⊢
    exact hj
  · intro u hu; simp at hu; obtain ⟨z, _, rfl⟩ := hu; rfl
  · intro v' w' h1 h2 _
    refine h v' w' ?_ (hb.grown h2 hB fun k hk => (World.ownsRow.lt hown k hk).1) h2
    unfold IntsOwn; simpa [hL] using h1
def wpCopyFacts (w : World) (hi pb po n : Nat) (L : List Int) : Prop := pb < hi ∧ hi ≤ w.heap.size ∧ ∀ i, i < n → w.cell? ⟨pb, po + i, none⟩ = some (.int .i64 (L.getD i 0))
set_option maxRecDepth 100000 in
theorem ownInts_any (v : Value) (L : List Int) (w : World) (hi : Nat) (hv : NI w hi v L) (hh : hi ≤ w.heap.size) (h0 : 0 < L.length) (hl : L.length ≤ 1048576) :
    Calls Try.prog 67 #[v] w (CopyPostI L w) := by
  obtain ⟨A, n, c, rfl, _, _, hn, hA⟩ := hv
  obtain ⟨pb, po, rfl, hp2, hpx⟩ := hA (by omega)
  have hi1 := IntsOwn.made w (B := w.heap.size) (Nat.le_refl _)
  have hb1 := (Below.refl w.heap.size w).alloc (Nat.le_refl _) (.cells #[] 2)
  have HC := Lib.hid (fun (i : Nat) (h : i < n) => (hb1.cell (p := ⟨pb, po + i, none⟩) (by show pb < _; omega)).trans (hpx i h))
  have hz : w.heap.size ≤ (w.alloc (.cells #[] 2)).heap.size := by simp
  have HI := Lib.hid hi1
  have HB := Lib.hid hb1
  have HN := Lib.hid hn
  have HL := Lib.hid (show n ≤ 1048576 by omega)
  clear hpx hA hi1 hb1 hn hl h0
  go_enter Try.func67, Try.ntmps67
  go_wp2_with (at_builtin; refine wpList_append_ints rfl _ _ rfl _ [] rfl HI.out HB.out hz pb po n c L rfl HN.out HC.out (by have := HL.out; simp; omega) ?_; intro v' w1 ho hb2 _; have HO := Lib.hid ho; have HB2 := Lib.hid hb2; clear ho hb2)
  go_ret
  exact ⟨_, rfl, by simpa using HO.out, HB2.out⟩
end Go.Proofs.Ytmbgagkpabepcaa
