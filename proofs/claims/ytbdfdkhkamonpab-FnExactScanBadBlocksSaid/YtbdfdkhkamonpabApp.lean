/- One number appended to a list of the call's own: what else lies in memory stays. -/
import Derived.Test.YtbdfdkhkamonpabProg
import Derived.Test.YtbdfdkhkamonpabInts
import Derived.Test.YtbdfdkhkamonpabRw
import Derived.Test.YtbdfdkhkamonpabTbM
namespace Go.Proofs.Ytbdfdkhkamonpab
open Go.RowKit
set_option linter.unusedVariables false
theorem wpList_append_int3 {Q : Exit → Act → World → Prop} {ops : Array Oper} {rest : List Oper} {o : Oper} {a : Act} {w0 wr : World} {B B0 : Nat} (hgd : o.guard = none) (s x : Operand)
    (ho : o.op = .call { callee := .builtin .append, args := #[s, x], argTypes := #[24, 24] })
    (v : Value) (l : List Int) (hs : a.eval s = v) (hown : IntsOwn wr B v l) (hb : Below B0 w0 wr) (hB : B ≤ wr.heap.size) (hB0 : B0 ≤ B)
    (b : Int) (c : Nat) (hx : a.eval x = .slice (some ⟨wr.heap.size, 0, none⟩) 1 c) (hl : l.length + 1 ≤ 4000000)
    (h : ∀ v' w', IntsOwn w' B v' (l ++ [b]) → Below B0 w0 w' → (∀ g, g < wr.heap.size → v.ownBlock ≠ some g → w'.heap[g]? = wr.heap[g]?) → wr.heap.size ≤ w'.heap.size → wpList Try.prog ops Q rest (a.put o.dst v') w') :
    wpList Try.prog ops Q (o :: rest) a (wr.alloc (.cells #[.int .i64 b] 2)) := by
  obtain ⟨i0, hi, hz0, hz1, hz2⟩ := info_parts info64
  refine wpList_append_own _ hgd s x _ ho B 2 i0 (.int .i64 0) 1 8 Try.underlying24 hi hz0 hz1 hz2 rfl (by decide) v l.length (l.map (Value.int .i64)) hs (World.ownsRow.alloc hown _) ⟨wr.heap.size, 0, none⟩ 1 c [.int .i64 b] hx rfl ?_ ?_ (by unfold maxLen; omega) (by omega) (by simp; omega) ?_
  · intro j u hj
    match j, hj with
    | 0, hj => simp at hj; subst hj; simp [Addr.add]
  · intro u hu; simp at hu; subst hu; rfl
  · intro v' w' h1 h2 _
    refine h v' w' ?_ ?_ ?_ (by have := h2.size; simp at this; omega)
    · unfold IntsOwn; simpa using h1
    · exact (hb.alloc (Nat.le_trans hB0 hB) _).grown h2 (by simp; omega) fun k hk => by have := (World.ownsRow.lt hown k hk).1; omega
    · intro g hg hne
      exact (h2.block g (by simp; omega) (fun e => hne e.symm)).trans (Below.heap_alloc wr _ g hg)
theorem wpList_append_int4 {Q : Exit → Act → World → Prop} {ops : Array Oper} {rest : List Oper} {o : Oper} {a : Act} {w0 wr : World} {B B0 : Nat} (hgd : o.guard = none) (s x : Operand)
    (ho : o.op = .call { callee := .builtin .append, args := #[s, x], argTypes := #[24, 24] })
    (v : Value) (l : List Int) (hs : a.eval s = v) (hown : IntsOwn wr B v l) (hb : Below B0 w0 wr) (hB : B ≤ wr.heap.size) (hB0 : B0 ≤ B)
    (b : Int) (m c : Nat) (hx : a.eval x = .slice (some ⟨m, 0, none⟩) 1 c) (hm : m = wr.heap.size) (hl : l.length + 1 ≤ 4000000)
    (h : ∀ v' w', IntsOwn w' B v' (l ++ [b]) → Below B0 w0 w' → (∀ g, g < wr.heap.size → v.ownBlock ≠ some g → w'.heap[g]? = wr.heap[g]?) → wr.heap.size ≤ w'.heap.size → wpList Try.prog ops Q rest (a.put o.dst v') w') :
    wpList Try.prog ops Q (o :: rest) a (wr.alloc (.cells #[.int .i64 b] 2)) := by
  subst hm
  exact wpList_append_int3 hgd s x ho v l hs hown hb hB hB0 b c hx hl h
theorem IntsOwn.ne {w : World} {B : Nat} {v : Value} {l : List Int} (h : IntsOwn w B v l) {g : Nat} (hg : g < B) : v.ownBlock ≠ some g := fun e => by have := (h.blockOf e).1; omega
theorem Rw.at_ {w w' : World} {g : Nat} {t : TypeId} {cs : Array Value} (h : Rw w g t cs) (e : w'.heap[g]? = w.heap[g]?) : Rw w' g t cs := e.trans h
end Go.Proofs.Ytbdfdkhkamonpab
