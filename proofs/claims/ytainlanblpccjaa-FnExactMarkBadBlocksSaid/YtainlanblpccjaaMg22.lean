/- The proof's own lemmas, part 23: Bs. -/
import Derived.Test.YtainlanblpccjaaProg
import Derived.Test.YtainlanblpccjaaMg2
import Derived.Maps.OwnOps
import Derived.Maps.OwnSet
import Derived.Maps.Views
/- A map of the call's own from integers to bools, used as a set: what it holds, and the operations upon it. -/
namespace Go.Proofs.Ytainlanblpccjaa
open Go.RowKit Go.Maps
set_option linter.unusedVariables false
theorem keyed64 : Keyed Try.prog 2 := int_keyed Try.underlying2
theorem zeroBool (w : World) : (zeroValue 4).run Try.prog w = .ok (.bool false) w := by kernel_rfl
set_option maxRecDepth 100000 in
theorem plainBool_inv {H : Type} {v : Value} {z : DataW H × List MemPlace} (h : plainElem Try.prog 4 v = some z) : ∃ x, v = .bool x ∧ z = (.lit (.bool x), []) := by
  unfold plainElem at h
  rw [Try.underlying4] at h
  cases v <;> simp at h
  exact ⟨_, rfl, h.symm⟩
def kI (x : Int) : Lit := .int .i64 x
theorem kI_key {x : Int} (h : WfI x) : keyOf Try.prog 2 (.int .i64 x) = some (kI x) := keyOf_int_mk Try.underlying2 h
theorem kI_ne {x y : Int} (h : x ≠ y) : kI x ≠ kI y := fun e => h (by injection e)
/-- Block b is a map that holds true at the numbers that S holds of, and nothing else; U holds all of them, once each; n bounds how many. -/
def BSet (w : World) (b : Nat) (S : Int → Bool) (n : Nat) : Prop :=
  ∃ D : DataW Unit, w.ownsMap Try.prog 2 (plainElem Try.prog 4) b n D ∧ ∀ x, WfI x → D.atKey (kI x) (.lit (.bool false)) = .lit (.bool (S x)) ∧ Maps.has D (kI x) = S x
section
variable {w w' : World} {b n : Nat} {S : Int → Bool}
theorem BSet.made (w : World) : BSet (w.alloc (.map #[] 0)) w.heap.size (fun _ => false) 0 :=
  ⟨.map [], World.ownsMap_made _ _ _ _, fun x _ => ⟨rfl, rfl⟩⟩
theorem BSet.lt (h : BSet w b S n) : b < w.heap.size := by obtain ⟨D, h, _⟩ := h; exact h.lt
theorem BSet.kept {row : Option Nat} (h : BSet w b S n) (hg : w.grownBy w' row) (hne : some b ≠ row) : BSet w' b S n := by
  obtain ⟨D, h, h2⟩ := h; exact ⟨D, h.kept hg hne, h2⟩
theorem BSet.below {B : Nat} (h : BSet w b S n) (hb : Below B w w') (hB : b < B) : BSet w' b S n := by
  obtain ⟨D, ⟨es, clock, h, r⟩, h2⟩ := h; exact ⟨D, ⟨es, clock, (hb.block b hB).trans h, r⟩, h2⟩
theorem BSet.alloc (h : BSet w b S n) (o : Obj) : BSet (w.alloc o) b S n := by obtain ⟨D, h, h2⟩ := h; exact ⟨D, h.alloc o, h2⟩
theorem BSet.setCell (h : BSet w b S n) {g k : Nat} (hne : b ≠ g) (u : Value) : BSet (w.setCell ⟨g, k, none⟩ u) b S n := by
  obtain ⟨D, h, h2⟩ := h; exact ⟨D, h.setCell (a := ⟨g, k, none⟩) hne u, h2⟩
theorem BSet.mono (h : BSet w b S n) {m : Nat} (hm : n ≤ m) : BSet w b S m := by obtain ⟨D, h, h2⟩ := h; exact ⟨D, h.mono hm, h2⟩
theorem BSet.alike {S' : Int → Bool} (h : BSet w b S n) (e : ∀ x, WfI x → S x = S' x) : BSet w b S' n := by
  obtain ⟨D, h, h2⟩ := h; exact ⟨D, h, fun x hx => by rw [← e x hx]; exact h2 x hx⟩
end
section
variable {Q : Exit → Act → World → Prop} {ops : Array Oper} {rest : List Oper} {o : Oper} {a : Act} {w : World} {b n : Nat} {S : Int → Bool}
set_option maxRecDepth 100000 in
theorem wpList_look_bset (hg : o.guard = none) (m x : Operand) (hop : o.op = Op.lookup 131 m x false) (hm : a.eval m = .map (some b)) (hS : BSet w b S n) (y : Int) (hx : a.eval x = .int .i64 y) (hw : WfI y)
    (hK : wpList Try.prog ops Q rest (a.put o.dst (.bool (S y))) w) : wpList Try.prog ops Q (o :: rest) a w := by
  obtain ⟨D, hown, hat⟩ := hS
  refine wpList_plain hg fun K' hK' => ?_
  obtain ⟨v, ps, hrun, hv⟩ := hown.lookup keyed64 Try.underlying131 (zeroBool w) (plainElem_bool Try.underlying4 false) (kI_key hw)
  obtain ⟨c, rfl, hc⟩ := plainBool_inv hv
  simp only [Prod.mk.injEq] at hc
  rw [(hat y hw).1] at hc
  obtain rfl : S y = c := by have := hc.1; injection this with h1; injection h1
  unfold Oper.wp
  simp [execOp, hop, hm, hx, hrun, Result.andThen]
  exact hK' _ _ hK
theorem wpList_put_bset (hg : o.guard = none) (m x v : Operand) (hop : o.op = Op.mapUpdate 131 m x v) (hm : a.eval m = .map (some b)) (hS : BSet w b S n) (hn : n ≤ 1048576) (y : Int) (hx : a.eval x = .int .i64 y) (hv : a.eval v = .bool true) (hw : WfI y)
    (hK : ∀ w', BSet w' b (fun z => z == y || S z) (n + 1) → w.grownBy w' (some b) → wpList Try.prog ops Q rest (a.put o.dst undef) w') : wpList Try.prog ops Q (o :: rest) a w := by
  obtain ⟨D, hown, hat⟩ := hS
  refine wpList_mapUpdate_own w hg m x v _ hop 2 4 keyed64 Try.underlying131 (plainElem Try.prog 4) b n D hm hown (by unfold maxLen; omega) _ _ (kI y) hx hv (kI_key hw) (.lit (.bool true)) [] (plainElem_bool Try.underlying4 true) ?_
  intro w' h1 h2
  refine hK w' ⟨_, h1, fun z hz => ?_⟩ h2
  by_cases e : z = y
  · subst e
    rw [atKey_put_same hown.isMap (keyed64.key (kI_key hw)), has_put_same hown.isMap (keyed64.key (kI_key hw))]
    simp
  · rw [atKey_put_other (kI_ne e), has_put_other (kI_ne e)]
    have h3 : (z == y) = false := by simp [e]
    simp only [h3, Bool.false_or]
    exact hat z hz
theorem wpList_del_bset (hg : o.guard = none) (m x : Operand) (hop : o.op = Op.call { callee := Callee.builtin Builtin.delete, args := #[m, x], argTypes := #[131, 2] }) (hm : a.eval m = .map (some b)) (hS : BSet w b S n) (y : Int) (hx : a.eval x = .int .i64 y) (hw : WfI y)
    (hK : ∀ w', BSet w' b (fun z => z != y && S z) n → w.grownBy w' (some b) → wpList Try.prog ops Q rest (a.put o.dst (.tuple #[])) w') : wpList Try.prog ops Q (o :: rest) a w := by
  obtain ⟨D, hown, hat⟩ := hS
  refine wpList_delete_own w hg m x _ _ hop 4 keyed64 Try.underlying131 (plainElem Try.prog 4) b n D hm hown _ (kI y) hx (kI_key hw) ?_
  intro w' h1 h2
  refine hK w' ⟨_, h1, fun z hz => ?_⟩ h2.grown
  by_cases e : z = y
  · subst e
    rw [atKey_del_same, has_del_same]
    simp
  · rw [atKey_del_other (kI_ne e), has_del_other (kI_ne e)]
    have h3 : (z != y) = true := by simp [e]
    simp only [h3, Bool.true_and]
    exact hat z hz
end
set_option maxRecDepth 100000 in
/-- What a lookup runs to. -/
theorem BSet.look {w : World} {b n : Nat} {S : Int → Bool} (h : BSet w b S n) {y : Int} (hw : WfI y) : (Instr.lookup 131 (.map (some b)) (.int .i64 y) false).run Try.prog w = .ok (.bool (S y)) w := by
  obtain ⟨D, hown, hat⟩ := h
  obtain ⟨v, ps, hrun, hv⟩ := hown.lookup keyed64 Try.underlying131 (zeroBool w) (plainElem_bool Try.underlying4 false) (kI_key hw)
  obtain ⟨c, rfl, hc⟩ := plainBool_inv hv
  simp only [Prod.mk.injEq] at hc
  rw [(hat y hw).1] at hc
  obtain rfl : S y = c := by have := hc.1; injection this with h1; injection h1
  exact hrun
set_option maxRecDepth 100000 in
/-- What an update runs to. -/
theorem BSet.put {w : World} {b n : Nat} {S : Int → Bool} (h : BSet w b S n) (hn : n ≤ 1048576) {y : Int} (hw : WfI y) : ∃ w', (Instr.mapUpdate 131 (.map (some b)) (.int .i64 y) (.bool true)).run Try.prog w = .ok () w' ∧ BSet w' b (fun z => z == y || S z) (n + 1) ∧ w.grownBy w' (some b) := by
  obtain ⟨D, hown, hat⟩ := h
  obtain ⟨w', h0, h1, h2⟩ := hown.update keyed64 Try.underlying131 (by unfold maxLen; omega) (kI_key hw) (plainElem_bool Try.underlying4 true)
  refine ⟨w', h0, ⟨_, h1, fun z hz => ?_⟩, h2⟩
  by_cases e : z = y
  · subst e
    rw [atKey_put_same hown.isMap (keyed64.key (kI_key hw)), has_put_same hown.isMap (keyed64.key (kI_key hw))]
    simp
  · rw [atKey_put_other (kI_ne e), has_put_other (kI_ne e)]
    have h3 : (z == y) = false := by simp [e]
    simp only [h3, Bool.false_or]
    exact hat z hz
end Go.Proofs.Ytainlanblpccjaa
