/- The proof's own lemmas, part 46: WnV. -/
import Derived.Test.YtainlanblpccjaaMg27
/- Plain facts of LevelWear: a levelling move leaves a valid state and lowers a measure; the sequence of moves. No program in it. -/
namespace Go.Proofs.Ytainlanblpccjaa
open Go.RowKit
set_option linter.unusedVariables false
/-- The smallest of the counts is one of them. -/
theorem loL_some (l : List Int) (h : l ≠ []) : ∃ i, i < l.length ∧ loL l = l.getD i 0 := by
  have key : ∀ k, k ≤ l.length → 0 < k → ∃ i, i < k ∧ loL (l.take k) = l.getD i 0 := by
    intro k
    induction k with
    | zero => intro _ h0; omega
    | succ k ih =>
      intro hk _
      rcases Nat.eq_zero_or_pos k with e | e
      · subst e
        have : l.take (0 + 1) = [l.getD 0 0] := by
          rw [List.take_succ_eq_append_getElem (by omega)]; simp [List.getD_eq_getElem?_getD, List.getElem?_eq_getElem (show 0 < l.length by omega)]
        exact ⟨0, by omega, by rw [this]; rfl⟩
      · obtain ⟨i, hi, e2⟩ := ih (by omega) e
        rw [loL_take l k (by omega) e]
        split
        · exact ⟨k, by omega, rfl⟩
        · exact ⟨i, by omega, e2⟩
  have hp : 0 < l.length := by
    rcases Nat.eq_zero_or_pos l.length with e | e
    · exact absurd (List.eq_nil_of_length_eq_zero e) h
    · exact e
  obtain ⟨i, hi, e⟩ := key l.length (Nat.le_refl _) hp
  rw [List.take_of_length_le (Nat.le_refl _)] at e
  exact ⟨i, hi, e⟩
/-- The smallest is not above any. -/
theorem loL_le (l : List Int) (i : Nat) (h : i < l.length) : loL l ≤ l.getD i 0 := by
  have key : ∀ k, k ≤ l.length → ∀ i, i < k → loL (l.take k) ≤ l.getD i 0 := by
    intro k
    induction k with
    | zero => intro _ i hi; omega
    | succ k ih =>
      intro hk i hi
      rcases Nat.eq_zero_or_pos k with e | e
      · subst e
        obtain rfl : i = 0 := by omega
        have : l.take (0 + 1) = [l.getD 0 0] := by
          rw [List.take_succ_eq_append_getElem (by omega)]; simp [List.getD_eq_getElem?_getD, List.getElem?_eq_getElem (show 0 < l.length by omega)]
        rw [this]; exact Int.le_refl _
      · rw [loL_take l k (by omega) e]
        rcases (by omega : i < k ∨ i = k) with e2 | e2
        · have := ih (by omega) i e2
          split <;> omega
        · subst e2
          split <;> omega
  have := key l.length (Nat.le_refl _) i h
  rwa [List.take_of_length_le (Nat.le_refl _)] at this
theorem hiL_ge (l : List Int) (i : Nat) (h : i < l.length) : l.getD i 0 ≤ hiL l := by
  have key : ∀ k, k ≤ l.length → ∀ i, i < k → l.getD i 0 ≤ hiL (l.take k) := by
    intro k
    induction k with
    | zero => intro _ i hi; omega
    | succ k ih =>
      intro hk i hi
      rcases Nat.eq_zero_or_pos k with e | e
      · subst e
        obtain rfl : i = 0 := by omega
        have : l.take (0 + 1) = [l.getD 0 0] := by
          rw [List.take_succ_eq_append_getElem (by omega)]; simp [List.getD_eq_getElem?_getD, List.getElem?_eq_getElem (show 0 < l.length by omega)]
        rw [this]; exact Int.le_refl _
      · rw [hiL_take l k (by omega) e]
        rcases (by omega : i < k ∨ i = k) with e2 | e2
        · have := ih (by omega) i e2
          split <;> omega
        · subst e2
          split <;> omega
  have := key l.length (Nat.le_refl _) i h
  rwa [List.take_of_length_le (Nat.le_refl _)] at this
/-- The best of a list is not worse than any of it. -/
theorem bestBy_le {c : Int → Int → Int} {f : Int → Int} (hc : ∀ a b, f a < f b → c a b < 0) (hn : ∀ a b, f b < f a → ¬ c a b < 0) (l : List Int) (k : Nat) : ∀ i, i ≤ k → f (bestBy c l k) ≤ f (l.getD i 0) := by
  induction k with
  | zero =>
    intro i hi
    obtain rfl : i = 0 := by omega
    exact Int.le_refl _
  | succ k ih =>
    intro i hi
    rw [bestBy]
    split
    · rename_i hlt
      have h1 : f (l.getD (k + 1) 0) ≤ f (bestBy c l k) := by
        rcases (by omega : f (l.getD (k + 1) 0) ≤ f (bestBy c l k) ∨ f (bestBy c l k) < f (l.getD (k + 1) 0)) with e | e
        · exact e
        · exact absurd hlt (hn _ _ e)
      rcases (by omega : i ≤ k ∨ i = k + 1) with e | e
      · exact Int.le_trans h1 (ih i e)
      · subst e; exact Int.le_refl _
    · rename_i hlt
      rcases (by omega : i ≤ k ∨ i = k + 1) with e | e
      · exact ih i e
      · subst e
        rcases (by omega : f (bestBy c l k) ≤ f (l.getD (k + 1) 0) ∨ f (l.getD (k + 1) 0) < f (bestBy c l k)) with e | e
        · exact e
        · exact absurd (hc _ _ e) hlt
theorem lvLt (er : List Int) (a b : Int) (h : er.getD a.toNat 0 < er.getD b.toNat 0) : byNum (ordE er true) a b < 0 := by
  have e : cmpI (er.getD a.toNat 0) (er.getD b.toNat 0) = -1 := by unfold cmpI; rw [if_pos h]
  unfold byNum orI ordE
  rw [if_pos rfl, e]
  simp
theorem lvGt (er : List Int) (a b : Int) (h : er.getD b.toNat 0 < er.getD a.toNat 0) : ¬ byNum (ordE er true) a b < 0 := by
  have e : cmpI (er.getD a.toNat 0) (er.getD b.toNat 0) = 1 := by
    unfold cmpI
    rw [if_neg (by omega), if_pos h]
  unfold byNum orI ordE
  rw [if_pos rfl, e]
  simp
theorem getD_elem {L : List Int} {n : Nat} (h : n < L.length) : L.getD n 0 = L[n] := by simp [List.getD_eq_getElem?_getD, List.getElem?_eq_getElem h]
theorem getD_cnt {er l : List Int} {i : Nat} (h : i < l.length) : (cntL er l).getD i 0 = er.getD (l.getD i 0).toNat 0 := by
  unfold cntL
  simp only [List.getD_eq_getElem?_getD, List.getElem?_map, List.getElem?_eq_getElem h]
  rfl
/-- The least worn good block: it is good, and its count is the smallest of the good ones'. -/
theorem lvB_min {M : We} (h : goodL M.b M.e.length ≠ []) : lvB M ∈ goodL M.b M.e.length ∧ M.e.getD (lvB M).toNat 0 = loL (gcL M.e M.b M.e.length) ∧ ∀ x, x ∈ goodL M.b M.e.length → M.e.getD (lvB M).toNat 0 ≤ M.e.getD x.toNat 0 := by
  obtain ⟨L, hL⟩ : ∃ L, L = goodL M.b M.e.length := ⟨_, rfl⟩
  have hv : lvB M = bestF (byNum (ordE M.e true)) L L.length := by unfold lvB statV firstV; rw [statL_nil, hL]
  rw [← hL] at h ⊢
  have hg : gcL M.e M.b M.e.length = cntL M.e L := by unfold gcL; rw [hL]
  rw [hg]
  cases hk : L.length with
  | zero => exact absurd (List.eq_nil_of_length_eq_zero hk) h
  | succ k =>
    rw [hk] at hv
    have hv2 : lvB M = bestBy (byNum (ordE M.e true)) L k := hv
    have hall : ∀ i, i ≤ k → M.e.getD (lvB M).toNat 0 ≤ M.e.getD (L.getD i 0).toNat 0 := by
      rw [hv2]
      exact bestBy_le (f := fun x => M.e.getD x.toNat 0) (lvLt M.e) (lvGt M.e) L k
    obtain ⟨i, hi, e⟩ := bestBy_at (byNum (ordE M.e true)) L k
    have hm : lvB M ∈ L := by rw [hv2, e]; exact mem_getD (by omega)
    have hle : ∀ x, x ∈ L → M.e.getD (lvB M).toNat 0 ≤ M.e.getD x.toNat 0 := by
      intro x hx
      obtain ⟨n, hn, e2⟩ := List.mem_iff_getElem.1 hx
      have := hall n (by omega)
      rw [getD_elem hn, e2] at this
      exact this
    refine ⟨hm, ?_, hle⟩
    have hcl : (cntL M.e L).length = L.length := cntL_length _ _
    obtain ⟨n, hn, e3⟩ := loL_some (cntL M.e L) (fun e => by have := congrArg List.length e; rw [hcl, hk] at this; simp at this)
    have h1 : M.e.getD (lvB M).toNat 0 ≤ loL (cntL M.e L) := by
      rw [e3, getD_cnt (by omega)]
      exact hall n (by omega)
    obtain ⟨t, ht, e4⟩ := List.mem_iff_getElem.1 hm
    have h2 : loL (cntL M.e L) ≤ M.e.getD (lvB M).toNat 0 := by
      have h3 := loL_le (cntL M.e L) t (by omega)
      rw [getD_cnt ht, getD_elem ht, e4] at h3
      exact h3
    omega
theorem gap_bd2 {er : List Int} {bad : List Bool} (h : CountsOk er) : (0 ≤ hiL (gcL er bad er.length) ∧ hiL (gcL er bad er.length) ≤ 1000) ∧ (0 ≤ loL (gcL er bad er.length) ∧ loL (gcL er bad er.length) ≤ 1000) := by
  have := hiL_in (gcL er bad er.length) (gcL_in h er.length (Nat.le_refl _)) (gcL er bad er.length).length (Nat.le_refl _)
  rwa [List.take_of_length_le (Nat.le_refl _)] at this
/-- A move that is needed: the least worn block can still be erased, and the state stays valid. -/
theorem need_good {M : We} (h : lvNeed M = true) (h1 : 1 ≤ M.n) : goodL M.b M.e.length ≠ [] := by
  intro e
  have hg : M.n < gapV M.e M.b true := of_decide_eq_true h
  unfold gapV gcL at hg
  rw [e] at hg
  simp [cntL, hiL, loL] at hg
  omega
theorem lvB_room {M : We} (o : WeOk M) (h : lvNeed M = true) : M.e.getD (lvB M).toNat 0 < 1000 := by
  have hg : M.n < gapV M.e M.b true := of_decide_eq_true h
  have hb := (lvB_min (need_good h o.2.2.2.1.1)).2.1
  have hc : CountsOk M.e := fun i hi => (o.2.2.2.2 i hi).1
  have hx := gap_bd2 (bad := M.b) hc
  unfold gapV at hg
  rw [if_pos rfl] at hg
  have := o.2.2.2.1.1
  omega
theorem lvM_ok {M : We} (o : WeOk M) (h : lvNeed M = true) (hp : M.c.getD (lvB M).toNat 0 = 0 ∨ M.c.getD (lvB M).toNat 0 ≠ 0 ∧ 0 ≤ plcV M false ∧ plcV M false < (M.e.length : Int)) : WeOk (lvM M) := by
  have hr := lvB_room o h
  have hin := lvB_in h o.2.2.2.1.1
  unfold lvM
  split
  · exact ersW_ok o (by omega) hr
  · rename_i hne
    rcases hp with e | ⟨_, h0, h1⟩
    · exact absurd e hne
    · have hc := (o.2.2.2.2 (lvB M).toNat (by omega)).2.1
      exact ersW_ok (plcM_ok o h0 hc) (show (lvB M).toNat < M.e.length by omega) hr
/-- How many erases are left at most. -/
def leftW (e : List Int) : Nat := (e.map fun x => (1000 - x).toNat).sum
theorem leftW_set (e : List Int) (j : Nat) (h : j < e.length) (h0 : e.getD j 0 < 1000) : leftW (e.set j (e.getD j 0 + 1)) + 1 = leftW e := by
  induction e generalizing j with
  | nil => simp at h
  | cons x r ih =>
    cases j with
    | zero =>
      simp [leftW] at h0 ⊢
      omega
    | succ j =>
      have := ih j (by simpa using h) (by simpa using h0)
      simp [leftW] at this ⊢
      omega
theorem lvM_e (M : We) : (lvM M).e = M.e.set (lvB M).toNat (M.e.getD (lvB M).toNat 0 + 1) := by unfold lvM; split <;> rfl
theorem lvM_left {M : We} (o : WeOk M) (h : lvNeed M = true) : leftW (lvM M).e + 1 = leftW M.e := by
  have hin := lvB_in h o.2.2.2.1.1
  rw [lvM_e]
  exact leftW_set M.e _ (by omega) (lvB_room o h)
theorem leftW_le (e : List Int) (h : CountsOk e) : leftW e ≤ 1000 * e.length := by
  unfold leftW
  induction e with
  | nil => simp
  | cons x r ih =>
    have h0 := h 0 (by simp)
    have hr : CountsOk r := fun i hi => by have := h (i + 1) (by simpa using hi); simpa using this
    have := ih hr
    simp at h0 this ⊢
    omega
/-- What a run of moves answers from a valid state, with so many moves before it. -/
def lvRun : Nat → We → Int → We × Int × Int
  | 0, M, k => (M, k, 0)
  | n + 1, M, k => if lvNeed M = true then (if M.c.getD (lvB M).toNat 0 ≠ 0 ∧ plcV M false = -1 then (We.zero, 0, 4) else lvRun n (lvM M) (k + 1)) else (M, k, 0)
theorem lvRun_stop {n : Nat} {M : We} {k : Int} (h : lvNeed M = false) : lvRun n M k = (M, k, 0) := by
  cases n with
  | zero => rfl
  | succ n => rw [lvRun, if_neg (by rw [h]; decide)]
theorem lvRun_full {n : Nat} {M : We} {k : Int} (h : lvNeed M = true) (hf : M.c.getD (lvB M).toNat 0 ≠ 0 ∧ plcV M false = -1) : lvRun (n + 1) M k = (We.zero, 0, 4) := by rw [lvRun, if_pos h, if_pos hf]
theorem lvRun_move {n : Nat} {M : We} {k : Int} (h : lvNeed M = true) (hf : M.c.getD (lvB M).toNat 0 = 0 ∨ M.c.getD (lvB M).toNat 0 ≠ 0 ∧ 0 ≤ plcV M false ∧ plcV M false < (M.e.length : Int)) : lvRun (n + 1) M k = lvRun n (lvM M) (k + 1) := by
  rw [lvRun, if_pos h, if_neg (fun e => by rcases hf with f | f; exact e.1 f; omega)]
/-- What LevelWear answers. -/
def LvwIs (M : We) (r : Bool) (G : We) (k c : Int) : Prop := (r = false ∧ G = We.zero ∧ k = 0 ∧ c = 1) ∨ (r = true ∧ (G, k, c) = lvRun (leftW M.e) M 0)
theorem lvwIs (M : We) (r : Bool) : ∃ G k c, LvwIs M r G k c := by
  cases r with
  | false => exact ⟨_, _, _, .inl ⟨rfl, rfl, rfl, rfl⟩⟩
  | true => exact ⟨_, _, _, .inr ⟨rfl, rfl⟩⟩
theorem lvRun_sz (n : Nat) (M : We) (k : Int) (z : WeSz M) : WeSz (lvRun n M k).1 := by
  induction n generalizing M k with
  | zero => exact z
  | succ n ih =>
    rw [lvRun]
    split
    · split
      · exact We.zero_sz
      · exact ih _ _ (lvM_sz z)
    · exact z
theorem lvwIs_sz {M : We} {r : Bool} {G : We} {k c : Int} (h : LvwIs M r G k c) (z : WeSz M) : WeSz G := by
  rcases h with ⟨_, rfl, _⟩ | ⟨_, h⟩
  · exact We.zero_sz
  · have := lvRun_sz (leftW M.e) M 0 z
    rw [← h] at this
    exact this
end Go.Proofs.Ytainlanblpccjaa
