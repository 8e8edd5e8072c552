/- A map of the call's own from integers to integers: what it holds, and the operations upon it. -/
import Derived.Test.YtbehoeabnomlaaaProg
import Derived.Test.YtbehoeabnomlaaaBs
import Derived.Maps.OwnOps
import Derived.Maps.OwnSet
import Derived.Maps.Views
namespace Go.Proofs.Ytbehoeabnomlaaa
open Go.RowKit Go.Maps
set_option linter.unusedVariables false
theorem zeroInt64 (w : World) : (zeroValue 2).run Try.prog w = .ok (.int .i64 0) w := by kernel_rfl
/-- Block b is a map that holds what f says, and nothing else; n bounds how many. -/
def IMp (w : World) (b : Nat) (f : Int → Option Int) (n : Nat) : Prop :=
  ∃ D : DataW Unit, w.ownsMap Try.prog 2 (plainElem Try.prog 2) b n D ∧ ∀ x, WfI x → D.atKey (kI x) (.lit (.int .i64 0)) = .lit (.int .i64 ((f x).getD 0)) ∧ Maps.has D (kI x) = (f x).isSome
section
variable {w w' : World} {b n : Nat} {f : Int → Option Int}
theorem IMp.made (w : World) : IMp (w.alloc (.map #[] 0)) w.heap.size (fun _ => none) 0 :=
  ⟨.map [], World.ownsMap_made _ _ _ _, fun x _ => ⟨rfl, rfl⟩⟩
theorem IMp.lt (h : IMp w b f n) : b < w.heap.size := by obtain ⟨D, h, _⟩ := h; exact h.lt
theorem IMp.below {B : Nat} (h : IMp w b f n) (hb : Below B w w') (hB : b < B) : IMp w' b f n := by
  obtain ⟨D, ⟨es, clock, h, r⟩, h2⟩ := h; exact ⟨D, ⟨es, clock, (hb.block b hB).trans h, r⟩, h2⟩
theorem IMp.at (h : IMp w b f n) (hs : w'.heap[b]? = w.heap[b]?) : IMp w' b f n := by
  obtain ⟨D, ⟨es, clock, h, r⟩, h2⟩ := h; exact ⟨D, ⟨es, clock, hs.trans h, r⟩, h2⟩
theorem IMp.mono (h : IMp w b f n) {m : Nat} (hm : n ≤ m) : IMp w b f m := by obtain ⟨D, h, h2⟩ := h; exact ⟨D, h.mono hm, h2⟩
theorem IMp.alike {f' : Int → Option Int} (h : IMp w b f n) (e : ∀ x, WfI x → f x = f' x) : IMp w b f' n := by
  obtain ⟨D, h, h2⟩ := h; exact ⟨D, h, fun x hx => by rw [← e x hx]; exact h2 x hx⟩
end
set_option maxRecDepth 100000 in
/-- What a lookup with 'ok' runs to. -/
theorem IMp.look {w : World} {b n : Nat} {f : Int → Option Int} (h : IMp w b f n) {y : Int} (hw : WfI y) : (Instr.lookup 80 (.map (some b)) (.int .i64 y) true).run Try.prog w = .ok (.tuple #[.int .i64 ((f y).getD 0), .bool (f y).isSome]) w := by
  obtain ⟨D, hown, hat⟩ := h
  obtain ⟨v, ps, hrun, hv⟩ := hown.look_ok keyed64 Try.underlying80 (zeroInt64 w) (plainElem_int Try.underlying2 (by decide)) (kI_key hw)
  obtain ⟨c, rfl, hc, _⟩ := plainElem_int_inv Try.underlying2 hv
  simp only [Prod.mk.injEq] at hc
  rw [(hat y hw).1] at hc
  obtain rfl : (f y).getD 0 = c := by have := hc.1; injection this with h1; injection h1
  rw [(hat y hw).2] at hrun
  exact hrun
set_option maxRecDepth 100000 in
/-- What an update runs to. -/
theorem IMp.put {w : World} {b n : Nat} {f : Int → Option Int} (h : IMp w b f n) (hn : n ≤ 1048576) {y z : Int} (hw : WfI y) (hz : WfI z) : ∃ w', (Instr.mapUpdate 80 (.map (some b)) (.int .i64 y) (.int .i64 z)).run Try.prog w = .ok () w' ∧ IMp w' b (fun x => if x = y then some z else f x) (n + 1) ∧ w.grownBy w' (some b) := by
  obtain ⟨D, hown, hat⟩ := h
  obtain ⟨w', h0, h1, h2⟩ := hown.update keyed64 Try.underlying80 (by unfold maxLen; omega) (kI_key hw) (plainElem_int Try.underlying2 hz)
  refine ⟨w', h0, ⟨_, h1, fun x hx => ?_⟩, h2⟩
  by_cases e : x = y
  · subst e
    rw [atKey_put_same hown.isMap (keyed64.key (kI_key hw)), has_put_same hown.isMap (keyed64.key (kI_key hw))]
    simp
  · rw [atKey_put_other (kI_ne e), has_put_other (kI_ne e)]
    simp only [e, if_false]
    exact hat x hx
end Go.Proofs.Ytbehoeabnomlaaa
