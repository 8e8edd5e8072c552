/- Plain facts on the exclusive or of several texts. -/
import Derived.Test.YtegjppihopncoaaWords
import Derived.WalkKit
namespace Go.Proofs.Ytegjppihopncoaa
open Go.RowKit

theorem str_ext2 {s t : ByteArray} (hs : s.size = t.size) (h : ∀ j, j < s.size → byteAt s j = byteAt t j) : s = t := by
  apply ByteArray.ext
  apply Array.toList_inj.1
  apply List.ext_getElem
  · simpa using hs
  · intro k h1 h2
    have h1' : k < s.size := by simpa using h1
    have := h k h1'
    unfold byteAt at this
    rw [List.getD_eq_getElem?_getD, List.getElem?_eq_getElem h1, List.getD_eq_getElem?_getD, List.getElem?_eq_getElem h2] at this
    simpa using UInt8.toNat_inj.1 this
theorem byteAt_nums (l : List Int) (k : Nat) (hk : k < l.length) (hb : ∀ x ∈ l, 0 ≤ x ∧ x < 256) : (byteAt (strOfNums l) k : Int) = l.getD k 0 := by
  have h1 := hb _ (List.getElem_mem hk)
  unfold byteAt
  rw [strOfNums_data, List.getD_eq_getElem?_getD, List.getElem?_map, List.getD_eq_getElem?_getD, List.getElem?_eq_getElem hk]
  simp only [Option.map_some, Option.getD_some]
  rw [UInt8.toNat_ofNat']
  omega
/-- The exclusive or of the bytes j. -/
def xorAll : List ByteArray → Nat → Nat
  | [], _ => 0
  | u :: L, j => byteAt u j ^^^ xorAll L j
theorem xorAll_lt : ∀ (L : List ByteArray) (j : Nat), xorAll L j < 256
  | [], _ => by rw [xorAll]; omega
  | u :: L, j => Nat.xor_lt_two_pow (n := 8) (by have := byteAt_le u j; omega) (xorAll_lt L j)
theorem xorAll_app : ∀ (L M : List ByteArray) (j : Nat), xorAll (L ++ M) j = xorAll L j ^^^ xorAll M j
  | [], M, j => by rw [List.nil_append, xorAll, Nat.zero_xor]
  | u :: L, M, j => by rw [List.cons_append, xorAll, xorAll, xorAll_app L M, Nat.xor_assoc]
theorem xorAll_take {L : List ByteArray} {k : Nat} (h : k < L.length) (j : Nat) : xorAll (L.take (k + 1)) j = xorAll (L.take k) j ^^^ byteAt (L.getD k ByteArray.empty) j := by
  rw [List.take_succ_eq_append_getElem h, xorAll_app, xorAll, xorAll, Nat.xor_zero, List.getD_eq_getElem?_getD, List.getElem?_eq_getElem h]; rfl
/-- The bytes of the exclusive or, m of them. -/
def sumB (L : List ByteArray) (m : Nat) : List Int := (List.range m).map fun (j : Nat) => ((xorAll L j : Nat) : Int)
theorem sumB_length (L : List ByteArray) (m : Nat) : (sumB L m).length = m := by simp [sumB]
theorem sumB_at (L : List ByteArray) {m j : Nat} (h : j < m) : (sumB L m).getD j 0 = ((xorAll L j : Nat) : Int) := by simp [sumB, List.getD_eq_getElem?_getD, h]
theorem sumB_ok (L : List ByteArray) (m : Nat) : ∀ x ∈ sumB L m, 0 ≤ x ∧ x < 256 := by
  intro x hx
  simp only [sumB, List.mem_map] at hx
  obtain ⟨j, _, rfl⟩ := hx
  have := xorAll_lt L j
  omega
def sumS (L : List ByteArray) (m : Nat) : ByteArray := strOfNums (sumB L m)
theorem sumS_size (L : List ByteArray) (m : Nat) : (sumS L m).size = m := by unfold sumS; rw [strOfNums_size, sumB_length]
theorem sumS_at (L : List ByteArray) {m j : Nat} (h : j < m) : byteAt (sumS L m) j = xorAll L j := by
  have := byteAt_nums (sumB L m) j (by rw [sumB_length]; exact h) (sumB_ok L m)
  rw [sumB_at L h] at this
  exact Int.ofNat_inj.1 this
/-- A text is the exclusive or of itself alone. -/
theorem sumS_one (u : ByteArray) : sumS [u] u.size = u :=
  str_ext2 (sumS_size _ _) fun j hj => by rw [sumS_size] at hj; rw [sumS_at _ hj, xorAll, xorAll, Nat.xor_zero]
/-- May the texts be a stripe's? -/
def Units (L : List ByteArray) (m : Nat) : Prop := 1 ≤ L.length ∧ L.length ≤ 8 ∧ m ≤ 256 ∧ ∀ i, i < L.length → (L.getD i ByteArray.empty).size = m
/-- The first unit of another length, if all else is in bounds. -/
theorem units_or (L : List ByteArray) : (∃ m, Units L m) ∨ (L.length < 1 ∨ 8 < L.length ∨ 256 < (L.getD 0 ByteArray.empty).size) ∨
    (1 ≤ L.length ∧ L.length ≤ 8 ∧ (L.getD 0 ByteArray.empty).size ≤ 256 ∧ ∃ k, 1 ≤ k ∧ k < L.length ∧ (∀ i, i < k → (L.getD i ByteArray.empty).size = (L.getD 0 ByteArray.empty).size) ∧ (L.getD k ByteArray.empty).size ≠ (L.getD 0 ByteArray.empty).size) := by
  by_cases h1 : L.length < 1 ∨ 8 < L.length ∨ 256 < (L.getD 0 ByteArray.empty).size
  · exact .inr (.inl h1)
  · have first : ∀ n, n ≤ L.length → (∀ i, i < n → (L.getD i ByteArray.empty).size = (L.getD 0 ByteArray.empty).size) ∨ ∃ k, k < n ∧ (∀ i, i < k → (L.getD i ByteArray.empty).size = (L.getD 0 ByteArray.empty).size) ∧ (L.getD k ByteArray.empty).size ≠ (L.getD 0 ByteArray.empty).size := by
      intro n
      induction n with
      | zero => intro _; exact .inl fun i hi => by omega
      | succ n ih =>
        intro hn
        rcases ih (by omega) with h | ⟨k, hk, h2, h3⟩
        · by_cases he : (L.getD n ByteArray.empty).size = (L.getD 0 ByteArray.empty).size
          · exact .inl fun i hi => if e : i = n then e ▸ he else h i (by omega)
          · exact .inr ⟨n, by omega, h, he⟩
        · exact .inr ⟨k, by omega, h2, h3⟩
    rcases first L.length (Nat.le_refl _) with h | ⟨k, hk, h2, h3⟩
    · exact .inl ⟨(L.getD 0 ByteArray.empty).size, by omega, by omega, by omega, h⟩
    · refine .inr (.inr ⟨by omega, by omega, by omega, k, ?_, hk, h2, h3⟩)
      rcases Nat.eq_zero_or_pos k with e | e
      · subst e; exact absurd rfl h3
      · exact e

/-- A table of 256. -/
def tab (f : Nat → Int) : List Int := (List.range 256).map f
theorem tab_length (f : Nat → Int) : (tab f).length = 256 := by simp [tab]
theorem tab_at (f : Nat → Int) {j : Nat} (h : j < 256) : (tab f).getD j 0 = f j := by simp [tab, List.getD_eq_getElem?_getD, h]
theorem tab_congr {f g : Nat → Int} (h : ∀ j, j < 256 → f j = g j) : tab f = tab g := by
  unfold tab
  apply List.map_congr_left
  intro j hj
  exact h j (by simpa using hj)
theorem tab_set (f : Nat → Int) (j : Nat) (v : Int) : (tab f).set j v = tab (fun x => if x = j then v else f x) := by
  apply List.ext_getElem
  · simp [tab]
  · intro k h1 h2
    rw [List.getElem_set]
    have hk : k < 256 := by rw [tab_length] at h2; exact h2
    simp only [tab, List.getElem_map, List.getElem_range]
    by_cases e : j = k
    · rw [if_pos e, if_pos e.symm]
    · rw [if_neg e, if_neg (fun h => e h.symm)]
/-- The sum after i units, of the next one j bytes. -/
def stF (L : List ByteArray) (m i j : Nat) (x : Nat) : Int := if x < m then (if x < j then ((xorAll (L.take (i + 1)) x : Nat) : Int) else ((xorAll (L.take i) x : Nat) : Int)) else 0
theorem stF_step (L : List ByteArray) (m i j : Nat) (hj : j < m) (v : Int) (hv : v = ((xorAll (L.take (i + 1)) j : Nat) : Int)) : (tab (stF L m i j)).set j v = tab (stF L m i (j + 1)) := by
  rw [tab_set]
  apply tab_congr
  intro x _
  unfold stF
  by_cases e : x = j
  · subst e; rw [if_pos rfl, if_pos hj, if_pos (by omega), hv]
  · rw [if_neg e]
    by_cases hx : x < m
    · rw [if_pos hx, if_pos hx]
      by_cases hx2 : x < j
      · rw [if_pos hx2, if_pos (by omega)]
      · rw [if_neg hx2, if_neg (by omega)]
    · rw [if_neg hx, if_neg hx]
theorem stF_next (L : List ByteArray) (m i : Nat) : tab (stF L m i m) = tab (stF L m (i + 1) 0) := by
  apply tab_congr
  intro x _
  unfold stF
  by_cases hx : x < m
  · rw [if_pos hx, if_pos hx, if_pos hx, if_neg (by omega)]
  · rw [if_neg hx, if_neg hx]
theorem stF_at (L : List ByteArray) {m i j : Nat} (hj : j < m) (hm : m ≤ 256) : (tab (stF L m i j)).getD j 0 = ((xorAll (L.take i) j : Nat) : Int) := by
  rw [tab_at _ (by omega)]; unfold stF; rw [if_pos hj, if_neg (by omega)]
theorem tab_take (L : List ByteArray) (m : Nat) (hm : m ≤ 256) (h : L.take L.length = L) : (tab (stF L m L.length 0)).take m = sumB L m := by
  apply List.ext_getElem
  · simp [tab_length, sumB_length]; omega
  · intro k h1 h2
    rw [sumB_length] at h2
    rw [List.getElem_take]
    simp only [tab, sumB, List.getElem_map, List.getElem_range]
    unfold stF
    rw [if_pos h2, if_neg (by omega), h]
end Go.Proofs.Ytegjppihopncoaa
