/- NewMap, in the model: the contract. -/
import Derived.Test.YtgkanacaijlljaaProg
import Derived.Test.YtgkanacaijlljaaPmW
import Derived.Test.YtgkanacaijlljaaPmK
namespace Go.Proofs.Ytgkanacaijlljaa
open Go.RowKit
set_option linter.unusedVariables false
set_option linter.unusedSimpArgs false
/-- Rows of different types are different blocks. -/
theorem ownApart {w : World} {B : Nat} {v u : Value} {l : List Int} {m : List Bool} (h : IntsOwn w B v l) (k : BoolsOwn w B u m) : v.ownBlock = none ∨ v.ownBlock ≠ u.ownBlock := by
  rcases h.2 with ⟨h1, _⟩ | ⟨g, cap, cur, h1, h2, h3, h4⟩
  · left; rw [h1]; rfl
  · right
    rcases k.2 with ⟨k1, _⟩ | ⟨g', cap', cur', k1, k2, k3, k4⟩
    · rw [h1, k1]; intro e; cases e
    · rw [h1, k1]
      intro e
      obtain rfl : g = g' := Option.some.inj e
      rw [h3] at k3
      injection k3 with k3
      injection k3 with e1 e2
      exact absurd e2 (by decide)
theorem wpList_append_intG {Q : Exit → Act → World → Prop} {ops : Array Oper} {rest : List Oper} {o : Oper} {a : Act} {w0 wr : World} {B : Nat} (hgd : o.guard = none) (s x : Operand)
    (ho : o.op = .call { callee := .builtin .append, args := #[s, x], argTypes := #[22, 22] })
    (v : Value) (l : List Int) (hs : a.eval s = v) (hown : IntsOwn wr B v l) (hb : Below B w0 wr) (hB : B ≤ wr.heap.size)
    (b : Int) (c : Nat) (hx : a.eval x = .slice (some ⟨wr.heap.size, 0, none⟩) 1 c) (hl : l.length + 1 ≤ 1000000)
    (h : ∀ v' w', IntsOwn w' B v' (l ++ [b]) → Below B w0 w' → wr.grownBy w' v.ownBlock → wpList Try.prog ops Q rest (a.put o.dst v') w') :
    wpList Try.prog ops Q (o :: rest) a (wr.alloc (.cells #[.int .i64 b] 2)) := by
  obtain ⟨i0, hi, hz0, hz1, hz2⟩ := info_parts info64
  refine wpList_append_own _ hgd s x _ ho B 2 i0 (.int .i64 0) 1 8 Try.underlying22 hi hz0 hz1 hz2 rfl (by decide) v l.length (l.map (Value.int .i64)) hs (World.ownsRow.alloc hown _) ⟨wr.heap.size, 0, none⟩ 1 c [.int .i64 b] hx rfl ?_ ?_ (by unfold maxLen; omega) (by omega) (by simp; omega) ?_
  · intro j u hj
    match j, hj with
    | 0, hj => simp at hj; subst hj; simp [Addr.add]
  · intro u hu; simp at hu; subst hu; rfl
  · intro v' w' h1 h2 _
    refine h v' w' ?_ ?_ ?_
    · unfold IntsOwn; simpa using h1
    · exact (hb.alloc hB _).grown h2 (by simp; omega) fun k hk => (World.ownsRow.lt hown k hk).1
    · exact ⟨h2.os, h2.tape, h2.output, Nat.le_trans (by simp) h2.size, fun j hj hne => (h2.block j (by simp; omega) hne).trans (Below.heap_alloc wr _ j hj)⟩
theorem wpList_append_boolG {Q : Exit → Act → World → Prop} {ops : Array Oper} {rest : List Oper} {o : Oper} {a : Act} {w0 wr : World} {B : Nat} (hgd : o.guard = none) (s x : Operand)
    (ho : o.op = .call { callee := .builtin .append, args := #[s, x], argTypes := #[55, 55] })
    (v : Value) (l : List Bool) (hs : a.eval s = v) (hown : BoolsOwn wr B v l) (hb : Below B w0 wr) (hB : B ≤ wr.heap.size)
    (b : Bool) (c : Nat) (hx : a.eval x = .slice (some ⟨wr.heap.size, 0, none⟩) 1 c) (hl : l.length + 1 ≤ 1000000)
    (h : ∀ v' w', BoolsOwn w' B v' (l ++ [b]) → Below B w0 w' → wr.grownBy w' v.ownBlock → wpList Try.prog ops Q rest (a.put o.dst v') w') :
    wpList Try.prog ops Q (o :: rest) a (wr.alloc (.cells #[.bool b] 4)) := by
  obtain ⟨i0, hi, hz0, hz1, hz2⟩ := info_parts infoBo
  refine wpList_append_own _ hgd s x _ ho B 4 i0 (.bool false) 1 1 Try.underlying55 hi hz0 hz1 hz2 rfl (by decide) v l.length (l.map Value.bool) hs (World.ownsRow.alloc hown _) ⟨wr.heap.size, 0, none⟩ 1 c [.bool b] hx rfl ?_ ?_ (by unfold maxLen; omega) (by omega) (by simp; omega) ?_
  · intro j u hj
    match j, hj with
    | 0, hj => simp at hj; subst hj; simp [Addr.add]
  · intro u hu; simp at hu; subst hu; rfl
  · intro v' w' h1 h2 _
    refine h v' w' ?_ ?_ ?_
    · unfold BoolsOwn; simpa using h1
    · exact (hb.alloc hB _).grown h2 (by simp; omega) fun k hk => (World.ownsRow.lt hown k hk).1
    · exact ⟨h2.os, h2.tape, h2.output, Nat.le_trans (by simp) h2.size, fun j hj hne => (h2.block j (by simp; omega) hne).trans (Below.heap_alloc wr _ j hj)⟩
end Go.Proofs.Ytgkanacaijlljaa
