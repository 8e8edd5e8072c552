/- The operations keep an array valid. No program in it. -/
import Derived.Test.YteigdjocjcjkiaaFlM
namespace Go.Proofs.Yteigdjocjcjkiaa
open Go.RowKit
set_option linter.unusedVariables false

theorem PageOk.more {a b : Int} {i : Nat} {s : ByteArray} (h : PageOk a i s) (hab : a ≤ b) : PageOk b i s := by
  rcases h with h | ⟨h, h2⟩
  · exact .inl h
  · exact .inr ⟨h, by omega⟩
theorem BlkOk.prog {p : Int} {x : Blk} (h : BlkOk p x) (hn : x.nx < p) {raw : ByteArray} (hr : raw.size = 91) : BlkOk p (x.prog raw) := by
  obtain ⟨h1, h2, h3, h4⟩ := h
  refine ⟨h1, ⟨by show 0 ≤ x.nx + 1; omega, by show x.nx + 1 ≤ p; omega⟩, by show ((x.pg.set _ _).length : Int) = p; rw [List.length_set]; exact h3, fun i hi => ?_⟩
  change i < (x.pg.set _ _).length at hi
  rw [List.length_set] at hi
  show PageOk (x.nx + 1) i ((x.pg.set x.nx.toNat raw).getD i ByteArray.empty)
  by_cases e : x.nx.toNat = i
  · subst e; rw [getD_set_eq _ _ _ _ hi]; exact .inr ⟨hr, by omega⟩
  · rw [getD_set_ne _ _ _ _ _ e]; exact (h4 i hi).more (by omega)
theorem BlkOk.torn {p : Int} {x : Blk} (h : BlkOk p x) (hn : x.nx < p) {raw : ByteArray} (hr : raw.size = 91) {ke : Int} (hk : 0 ≤ ke ∧ ke ≤ 91) : BlkOk p (x.torn raw ke) := by
  obtain ⟨h1, h2, h3, h4⟩ := h
  have ht := tornB_size (k := ke.toNat) hr (by omega)
  have key : ∀ L : List ByteArray, L.length = x.pg.length → (∀ i, i < L.length → PageOk (x.nx + 1) i (L.getD i ByteArray.empty)) → BlkOk p { x with pg := L.set x.nx.toNat (tornB raw ke.toNat), nx := x.nx + 1 } := by
    intro L hL hp
    refine ⟨h1, ⟨by show 0 ≤ x.nx + 1; omega, by show x.nx + 1 ≤ p; omega⟩, by show ((L.set _ _).length : Int) = p; rw [List.length_set, hL]; exact h3, fun i hi => ?_⟩
    change i < (L.set _ _).length at hi
    rw [List.length_set] at hi
    show PageOk (x.nx + 1) i ((L.set x.nx.toNat (tornB raw ke.toNat)).getD i ByteArray.empty)
    by_cases e : x.nx.toNat = i
    · subst e; rw [getD_set_eq _ _ _ _ hi]; exact .inr ⟨ht, by omega⟩
    · rw [getD_set_ne _ _ _ _ _ e]; exact hp i hi
  unfold Blk.torn
  by_cases hc : x.nx.toNat % 2 = 1 ∧ ke < 91
  · rw [if_pos hc]
    refine key _ (List.length_set) fun i hi => ?_
    rw [List.length_set] at hi
    by_cases e : x.nx.toNat - 1 = i
    · subst e; rw [getD_set_eq _ _ _ _ hi]; exact .inr ⟨destB_size, by omega⟩
    · rw [getD_set_ne _ _ _ _ _ e]; exact (h4 i hi).more (by omega)
  · rw [if_neg hc]
    exact key _ rfl fun i hi => (h4 i hi).more (by omega)
theorem emptied_at (l : List ByteArray) (m i : Nat) (hi : i < l.length) : (emptied l m).getD i ByteArray.empty = if i < m then ByteArray.empty else l.getD i ByteArray.empty := by
  unfold emptied
  rw [List.getD_eq_getElem?_getD]
  by_cases h : i < m
  · rw [if_pos h, List.getElem?_append_left (by simp; omega), List.getElem?_replicate]
    split <;> rfl
  · rw [if_neg h, List.getElem?_append_right (by simp; omega), List.length_replicate, Nat.min_eq_left (by omega), List.getElem?_drop, List.getD_eq_getElem?_getD]
    rw [show m + (i - m) = i by omega]
theorem BlkOk.erase {p : Int} {x : Blk} (h : BlkOk p x) (he : x.er ≠ 1000) (m : Nat) : BlkOk p (x.erase m) := by
  obtain ⟨h1, h2, h3, h4⟩ := h
  refine ⟨⟨by show 0 ≤ x.er + 1; omega, by show x.er + 1 ≤ 1000; omega⟩, ?_, by show ((emptied _ _).length : Int) = p; rw [emptied_length]; exact h3, fun i hi => ?_⟩
  · show 0 ≤ (if m < x.pg.length then (x.pg.length : Int) else 0) ∧ (if m < x.pg.length then (x.pg.length : Int) else 0) ≤ p
    split <;> omega
  · change i < (emptied _ _).length at hi
    rw [emptied_length] at hi
    show PageOk (if m < x.pg.length then (x.pg.length : Int) else 0) i ((emptied x.pg m).getD i ByteArray.empty)
    rw [emptied_at _ _ _ hi]
    by_cases h : i < m
    · rw [if_pos h]; exact .inl rfl
    · rw [if_neg h, if_pos (by omega)]; exact (h4 i hi).more (by omega)
theorem FlOk.upd {F : Fl} (h : FlOk F) (k : Nat) {x : Blk} (hx : BlkOk F.p x) : FlOk (F.upd k x) := by
  obtain ⟨a, b, c, d, e, f⟩ := h
  refine ⟨a, by show ((F.bs.set k x).length : Int) = _; rw [List.length_set]; exact b, fun i hi => ?_, d, e, f⟩
  change i < (F.bs.set k x).length at hi
  rw [List.length_set] at hi
  show BlkOk F.p ((F.bs.set k x).getD i Blk.zero)
  by_cases e : k = i
  · subst e; rw [getD_set_eq _ _ _ _ hi]; exact hx
  · rw [getD_set_ne _ _ _ _ _ e]; exact c i hi
theorem FlOk.tick {F : Fl} (h : FlOk F) (ho : F.op < 9223372036854775807) : FlOk F.tick := by
  obtain ⟨a, b, c, d, e, f⟩ := h
  refine ⟨a, b, c, ?_, e, ?_⟩
  · show -1 ≤ (if F.fu = 0 then -1 else if 0 < F.fu then F.fu - 1 else F.fu) ∧ (if F.fu = 0 then -1 else if 0 < F.fu then F.fu - 1 else F.fu) ≤ 1000000
    split
    · omega
    · split <;> omega
  · show 0 ≤ wrap64 (F.op + 1)
    rw [IntWalk.wrap64_in _ (by omega)]; omega
theorem FlOk.prog {F : Fl} (h : FlOk F) (ho : F.op < 9223372036854775807) {k : Nat} (hk : k < F.bs.length) (hn : (F.blk k).nx < F.p) {raw : ByteArray} (hr : raw.size = 91) : FlOk (F.prog k raw) := by
  have hb := h.2.2.1 k hk
  unfold Fl.prog
  split
  · split
    · exact h.tick ho
    · exact (h.tick ho).upd k (x := (F.blk k).torn raw F.ke) (hb.torn hn hr h.2.2.2.2.1)
  · exact (h.tick ho).upd k (x := (F.blk k).prog raw) (hb.prog hn hr)
theorem FlOk.erase {F : Fl} (h : FlOk F) (ho : F.op < 9223372036854775807) {k : Nat} (hk : k < F.bs.length) (he : (F.blk k).er ≠ 1000) : FlOk (F.erase k) :=
  (h.tick ho).upd k (x := (F.blk k).erase _) ((h.2.2.1 k hk).erase he _)
end Go.Proofs.Yteigdjocjcjkiaa
