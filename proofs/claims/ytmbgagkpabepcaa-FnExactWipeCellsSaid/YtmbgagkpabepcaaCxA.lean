/- One number, or several, appended to a list of the call's own inside a region that draws its order. -/
import Derived.Test.YtmbgagkpabepcaaProg
import Derived.Test.YtmbgagkpabepcaaCeM
import Derived.Test.YtmbgagkpabepcaaIntsR
import Derived.Deep.RegionLaw
import Derived.StillTailTactics
namespace Go.Proofs.Ytmbgagkpabepcaa
open Go.RowKit
set_option linter.unusedVariables false
set_option linter.unusedSimpArgs false

theorem step_append_intL {Q : Exit → Act → World → Prop} {K : Act → World → Prop} {E : Prop} {ops : Array Oper} {o : Oper} {a : Act} {w0 wr : World} {B : Nat} (hgd : o.guard = none) (s x : Operand)
    (ho : o.op = .call { callee := .builtin .append, args := #[s, x], argTypes := #[22, 22] })
    (v : Value) (l : List Int) (hs : a.eval s = v) (hown : IntsOwn wr B v l) (hb : Below B w0 wr) (hB : B ≤ wr.heap.size)
    (pb po m c : Nat) (L : List Int) (hx : a.eval x = .slice (some ⟨pb, po, none⟩) m c) (hL : L.length = m) (hc : ∀ i, i < m → wr.cell? ⟨pb, po + i, none⟩ = some (.int .i64 (L.getD i 0))) (hl : l.length + m ≤ 2097152)
    (h : ∀ v' w', IntsOwn w' B v' (l ++ L) → Below B w0 w' → wr.grownBy w' v.ownBlock → K (a.put o.dst v') w') :
    if Region.wanted o (yielded ops a.tmps) = true then Oper.wp Try.prog o a wr K Q else E := by
  have hw : Region.wanted o (yielded ops a.tmps) = true := by simp [Region.wanted, hgd]
  rw [if_pos hw]
  obtain ⟨i0, hi, hz0, hz1, hz2⟩ := info_parts info64
  refine wp_append_own wr s x _ ho B 2 i0 (.int .i64 0) 1 8 Try.underlying22 hi hz0 hz1 hz2 rfl (by decide) v l.length (l.map (Value.int .i64)) hs hown ⟨pb, po, none⟩ m c (L.map (Value.int .i64)) hx (by simp [hL]) ?_ ?_ (by unfold maxLen; omega) (by omega) hB ?_
  · intro j u hj
    have hlt : j < L.length := by
      rcases Nat.lt_or_ge j L.length with h | h
      · exact h
      · rw [List.getElem?_eq_none (by simpa using h)] at hj; cases hj
    rw [Addr.add_lit, hc j (by omega)]
    simp [hlt] at hj ⊢
    exact hj
  · intro u hu; simp at hu; obtain ⟨_, _, rfl⟩ := hu; rfl
  · intro v' w' h1 h2 _
    refine h v' w' ?_ (hb.grown h2 hB fun k hk => (World.ownsRow.lt hown k hk).1) h2
    unfold IntsOwn; simpa [hL] using h1
/-- A block of one number. -/
theorem oneCell (w : World) (x : Int) (t : TypeId) (i : Nat) (h : i < 1) : (w.alloc (.cells #[.int .i64 x] t)).cell? ⟨w.heap.size, 0 + i, none⟩ = some (.int .i64 ([x].getD i 0)) := by
  obtain rfl : i = 0 := by omega
  exact (Rw.new w t #[.int .i64 x]).cell 0
end Go.Proofs.Ytmbgagkpabepcaa
