/- The proof's own lemmas, part 34: Im PmL. -/
import Derived.Test.YtgamoiagpglcmaaProg
import Derived.Test.YtgamoiagpglcmaaMg32
import Derived.Maps.OwnOps
import Derived.Maps.OwnSet
import Derived.Maps.Views
/- A map of the call's own from integers to integers: what it holds, and the operations upon it. -/
namespace Go.Proofs.Ytgamoiagpglcmaa
open Go.RowKit Go.Maps
set_option linter.unusedVariables false
theorem zeroInt64 (w : World) : (zeroValue 2).run Try.prog w = .ok (.int .i64 0) w := by kernel_rfl
/-- Block b is a map that holds what f says, and nothing else; n bounds how many. -/
def IMp (w : World) (b : Nat) (f : Int → Option Int) (n : Nat) : Prop :=
  ∃ D : DataW Unit, w.ownsMap Try.prog 2 (plainElem Try.prog 2) b n D ∧ ∀ x, WfI x → D.atKey (kI x) (.lit (.int .i64 0)) = .lit (.int .i64 ((f x).getD 0)) ∧ Maps.has D (kI x) = (f x).isSome
section
variable {w w' : World} {b n : Nat} {f : Int → Option Int}
theorem IMp.made (w : World) : IMp (w.alloc (.map #[] 0)) w.heap.size (fun _ => none) 0 :=
  ⟨.map [], World.ownsMap_made _ _ _ _, fun x _ => ⟨rfl, rfl⟩⟩
theorem IMp.lt (h : IMp w b f n) : b < w.heap.size := by obtain ⟨D, h, _⟩ := h; exact h.lt
theorem IMp.below {B : Nat} (h : IMp w b f n) (hb : Below B w w') (hB : b < B) : IMp w' b f n := by
  obtain ⟨D, ⟨es, clock, h, r⟩, h2⟩ := h; exact ⟨D, ⟨es, clock, (hb.block b hB).trans h, r⟩, h2⟩
theorem IMp.at (h : IMp w b f n) (hs : w'.heap[b]? = w.heap[b]?) : IMp w' b f n := by
  obtain ⟨D, ⟨es, clock, h, r⟩, h2⟩ := h; exact ⟨D, ⟨es, clock, hs.trans h, r⟩, h2⟩
theorem IMp.mono (h : IMp w b f n) {m : Nat} (hm : n ≤ m) : IMp w b f m := by obtain ⟨D, h, h2⟩ := h; exact ⟨D, h.mono hm, h2⟩
theorem IMp.alike {f' : Int → Option Int} (h : IMp w b f n) (e : ∀ x, WfI x → f x = f' x) : IMp w b f' n := by
  obtain ⟨D, h, h2⟩ := h; exact ⟨D, h, fun x hx => by rw [← e x hx]; exact h2 x hx⟩
end
end Go.Proofs.Ytgamoiagpglcmaa
/- Which logical page owns a physical one, in the program and in the model: the contracts. -/
namespace Go.Proofs.Ytgamoiagpglcmaa
open Go.RowKit
set_option linter.unusedVariables false
set_option linter.unusedSimpArgs false
theorem wfI_nat (k : Nat) (h : (k : Int) ≤ 9223372036854775807) : WfI (k : Int) := by
  have h1 : IntKind.i64.min = -9223372036854775808 := by decide
  have h2 : IntKind.i64.max = 9223372036854775807 := by decide
  simp [WfI, Lit.wf]
  omega
/-- Of the first k entries: the last one that holds z, where z is a physical page. -/
def ownF (mp : List Int) : Nat → Int → Option Int
  | 0, _ => none
  | k + 1, z => if mp.getD k 0 ≠ -1 ∧ z = mp.getD k 0 then some (k : Int) else ownF mp k z
theorem ownF_none {H : Int} {mp : List Int} {tr : List Bool} {n : Nat} (he : ∀ i, i < n → EntOk H mp tr i) {z : Int} (h : ¬ (0 ≤ z ∧ ∃ k, k < n ∧ mp.getD k 0 = z)) : ownF mp n z = none := by
  induction n with
  | zero => rfl
  | succ n ih =>
    unfold ownF
    rw [if_neg, ih (fun i hi => he i (by omega)) (fun ⟨h1, k, h2, h3⟩ => h ⟨h1, k, by omega, h3⟩)]
    rintro ⟨e1, e2⟩
    rcases he n (by omega) with e | e
    · exact e1 e.1
    · exact h ⟨by omega, n, by omega, e2.symm⟩
theorem ent_ne {H : Int} {mp : List Int} {tr : List Bool} {i j : Nat} (hj : j < mp.length) (hij : i < j) (he : EntOk H mp tr j) (hz : 0 ≤ mp.getD j 0) : mp.getD i 0 ≠ mp.getD j 0 := by
  rcases he with e | e
  · omega
  · exact fun q => e.2 ((mem_take_iff (by omega)).2 ⟨i, hij, q⟩)
theorem ownF_some {H : Int} {mp : List Int} {tr : List Bool} {n k : Nat} (hn : n ≤ mp.length) (he : ∀ i, i < n → EntOk H mp tr i) {z : Int} (h0 : 0 ≤ z) (hk : k < n) (hz : mp.getD k 0 = z) : ownF mp n z = some (k : Int) := by
  induction n with
  | zero => omega
  | succ n ih =>
    unfold ownF
    by_cases e : k = n
    · subst e
      rw [if_pos ⟨by omega, hz.symm⟩]
    · rw [if_neg, ih (by omega) (fun i hi => he i (by omega)) (by omega)]
      rintro ⟨e1, e2⟩
      exact ent_ne (i := k) (by omega) (by omega) (he n (by omega)) (by omega) (by omega)
end Go.Proofs.Ytgamoiagpglcmaa
