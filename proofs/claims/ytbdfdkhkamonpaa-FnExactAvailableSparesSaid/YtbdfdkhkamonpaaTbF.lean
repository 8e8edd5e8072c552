/- The available spare blocks of a die, the program: the map, its length; AvailableSpares, both sides. -/
import Derived.Test.YtbdfdkhkamonpaaProg
import Derived.Test.YtbdfdkhkamonpaaTbY
import Derived.Test.YtbdfdkhkamonpaaTbK
import Derived.Test.YtbdfdkhkamonpaaBs
import Derived.Test.YtbdfdkhkamonpaaPmE
import Derived.Maps.RangeWalk
namespace Go.Proofs.Ytbdfdkhkamonpaa
open Go.RowKit Go.Maps Go.WideShapes
open Go.WideElems (Fit rd rg pl rd_key rd_val rg_of other_key)
set_option linter.unusedVariables false
set_option linter.unusedSimpArgs false
theorem nodup_le : ∀ (xs ys : List Int), xs.Nodup → (∀ x ∈ xs, x ∈ ys) → xs.length ≤ ys.length
  | [], _, _, _ => by simp
  | x :: xs, ys, h, hs => by
    have hx := hs x (by simp)
    obtain ⟨h1, h2⟩ := List.nodup_cons.1 h
    have ih := nodup_le xs (ys.erase x) h2 (fun y hy => (List.mem_erase_of_ne (fun (e : y = x) => h1 (by rw [← e]; exact hy))).2 (hs y (by simp [hy])))
    have hl := List.length_erase_of_mem hx
    have hp := List.length_pos_of_mem hx
    rw [List.length_cons]
    omega
theorem nodup_same {xs ys : List Int} (h1 : xs.Nodup) (h2 : ys.Nodup) (h : ∀ x, x ∈ xs ↔ x ∈ ys) : xs.length = ys.length :=
  Nat.le_antisymm (nodup_le xs ys h1 fun x hx => (h x).1 hx) (nodup_le ys xs h2 fun x hx => (h x).2 hx)
theorem avTo_mem (T : Tb) (f : Int) (k : Nat) (x : Int) : x ∈ avTo T f k ↔ (f ≤ x ∧ x < f + (k : Int)) ∧ ¬ (x ∈ T.bad ∨ x ∈ T.rm) := by
  induction k with
  | zero => simp [avTo]; omega
  | succ k ih =>
    unfold avTo
    split
    · rename_i h
      rw [ih]
      constructor
      · rintro ⟨h1, h2⟩; exact ⟨by omega, h2⟩
      · rintro ⟨h1, h2⟩
        refine ⟨?_, h2⟩
        by_cases e : x = f + (k : Int)
        · subst e; exact absurd h h2
        · omega
    · rename_i h
      rw [List.mem_append, ih, List.mem_singleton]
      constructor
      · rintro (⟨h1, h2⟩ | rfl)
        · exact ⟨by omega, h2⟩
        · exact ⟨by omega, h⟩
      · rintro ⟨h1, h2⟩
        by_cases e : x = f + (k : Int)
        · exact .inr e
        · exact .inl ⟨by omega, h2⟩
theorem avTo_nodup (T : Tb) (f : Int) (k : Nat) : (avTo T f k).Nodup := by
  induction k with
  | zero => simp [avTo]
  | succ k ih =>
    unfold avTo
    split
    · exact ih
    · rw [List.nodup_append]
      refine ⟨ih, by simp, ?_⟩
      intro a ha c hc
      rw [List.mem_singleton] at hc
      have := (avTo_mem T f k a).1 ha
      omega
/-- Every key of such a map is an integer, none stands twice. -/
theorem BSet.keys {w : World} {b n : Nat} {D : DataW Unit} (h : w.ownsMap Try.prog 2 (plainElem Try.prog 4) b n D) : ∃ es, D = .map es ∧ es.Pairwise (fun p q => p.1 ≠ q.1) ∧ ∀ p ∈ es, ∃ x, p.1 = kI x ∧ WfI x := by
  obtain ⟨es0, clock, hb, F, hs, rfl⟩ := h
  refine ⟨_, rfl, ((sorted_perm _).pairwise_iff (fun {_ _} hne => Ne.symm hne)).2 (Maps.fit_apart keyed64 F), fun p hp => ?_⟩
  obtain ⟨x, hx, rfl⟩ := List.mem_map.1 (mem_sorted.1 hp)
  obtain ⟨y, hy⟩ := F.reads x hx
  rw [rg_of hy]
  obtain ⟨z, _, e, hw⟩ := Maps.keyOf_int_inv Try.underlying2 (rd_key hy)
  exact ⟨z, e, hw⟩
def litNum : Lit → Int
  | .int _ x => x
  | _ => 0
theorem BSet.count {w : World} {b n : Nat} {S : Int → Bool} (h : BSet w b S n) {ys : List Int} (hy : ys.Nodup) (hm : ∀ x, x ∈ ys ↔ (WfI x ∧ S x = true)) :
    ∀ ty, (Builtin.len_ #[105] ty #[.map (some b)]).run Try.prog w = .ok (.int .i64 (ys.length : Int)) w := by
  intro ty
  obtain ⟨D, hown, hat⟩ := h
  rw [hown.len Try.underlying105 ty]
  obtain ⟨es, rfl, hp, hk⟩ := BSet.keys hown
  have hxs : (es.map fun p => litNum p.1).Nodup := by
    unfold List.Nodup
    rw [List.pairwise_map]
    refine List.Pairwise.imp_of_mem ?_ hp
    intro p q hp1 hq1 hne e
    obtain ⟨x, ex, _⟩ := hk p hp1
    obtain ⟨y, ey, _⟩ := hk q hq1
    rw [ex, ey] at hne e
    exact hne (by show kI x = kI y; have : x = y := e; rw [this])
  have hmem : ∀ x, x ∈ (es.map fun p => litNum p.1) ↔ x ∈ ys := by
    intro x
    rw [hm x, List.mem_map]
    constructor
    · rintro ⟨p, hp1, e⟩
      obtain ⟨y, ey, hwy⟩ := hk p hp1
      have hyx : y = x := by rw [ey] at e; exact e
      subst hyx
      refine ⟨hwy, ?_⟩
      rw [← (hat y hwy).2]
      exact List.any_eq_true.2 ⟨p, hp1, by rw [ey]; exact WideAt.sameKey_self (keyed64.key (kI_key hwy))⟩
    · rintro ⟨hw, hs⟩
      rw [← (hat x hw).2] at hs
      obtain ⟨p, hp1, hpk⟩ := List.any_eq_true.1 hs
      obtain ⟨y, ey, hwy⟩ := hk p hp1
      refine ⟨p, hp1, ?_⟩
      have := WideAt.sameKey_eq hpk
      rw [ey] at this ⊢
      have e2 : y = x := by injection this
      show y = x
      exact e2
  have := nodup_same hxs hy hmem
  rw [List.length_map] at this
  show Result.ok (Value.int .i64 ((es.length : Nat) : Int)) w = _
  rw [this]
end Go.Proofs.Ytbdfdkhkamonpaa
