/- The proof's own lemmas, part 20: WrN CeN CxN CeM. -/
import Derived.Test.YtgamoiagpglcmaaMg3
import Derived.Test.YtgamoiagpglcmaaProg
import Derived.Test.YtgamoiagpglcmaaMg9
import Derived.Test.YtgamoiagpglcmaaMg11
import Derived.Test.YtgamoiagpglcmaaMg12
import Derived.RegionTactic
import Derived.Deep.RegionHeld3
/- Plain facts: which block comes first in an order of erase counts; the counts of the good blocks. -/
namespace Go.Proofs.Ytgamoiagpglcmaa
open Go.RowKit
set_option linter.unusedVariables false
def cmpI (x y : Int) : Int := if x < y then -1 else if y < x then 1 else 0
theorem cmpI_bd (x y : Int) : -1 ≤ cmpI x y ∧ cmpI x y ≤ 1 := by unfold cmpI; split <;> (try split) <;> omega
def orI (a b : Int) : Int := if a = 0 then b else a
/-- By the order o, and by the number where o leaves it open. -/
def byNum (o : Int → Int → Int) (a b : Int) : Int := orI (o a b) (cmpI a b)
/-- The first of the least of the first k + 1 elements. -/
def bestBy (c : Int → Int → Int) (l : List Int) : Nat → Int
  | 0 => l.getD 0 0
  | k + 1 => if c (l.getD (k + 1) 0) (bestBy c l k) < 0 then l.getD (k + 1) 0 else bestBy c l k
theorem bestBy_at (c : Int → Int → Int) (l : List Int) (k : Nat) : ∃ i, i ≤ k ∧ bestBy c l k = l.getD i 0 := by
  induction k with
  | zero => exact ⟨0, Nat.le_refl _, rfl⟩
  | succ k ih =>
    unfold bestBy
    split
    · exact ⟨k + 1, Nat.le_refl _, rfl⟩
    · obtain ⟨i, h, e⟩ := ih; exact ⟨i, by omega, e⟩
theorem bestBy_yes {c : Int → Int → Int} {l : List Int} {k : Nat} (h : c (l.getD (k + 1) 0) (bestBy c l k) < 0) : bestBy c l (k + 1) = l.getD (k + 1) 0 := by rw [bestBy, if_pos h]
theorem bestBy_no {c : Int → Int → Int} {l : List Int} {k : Nat} (h : ¬ c (l.getD (k + 1) 0) (bestBy c l k) < 0) : bestBy c l (k + 1) = bestBy c l k := by rw [bestBy, if_neg h]
/-- The best of the first k, -1 where there is none. -/
def bestF (c : Int → Int → Int) (l : List Int) : Nat → Int
  | 0 => -1
  | k + 1 => bestBy c l k
def firstV (o : Int → Int → Int) (l : List Int) : Int := bestF (byNum o) l l.length
def ordE (er : List Int) (hot : Bool) (a b : Int) : Int := if hot = true then cmpI (er.getD a.toNat 0) (er.getD b.toNat 0) else cmpI (er.getD b.toNat 0) (er.getD a.toNat 0)
def FreeOk (er fr : List Int) : Prop := ∀ i, i < fr.length → 0 ≤ fr.getD i 0 ∧ fr.getD i 0 < (er.length : Int)
def pickV (er fr : List Int) (hot r : Bool) : Int := if r = true then firstV (ordE er hot) fr else -1
theorem bestF_in {er fr : List Int} {c : Int → Int → Int} {k : Nat} (h : ∀ i, i < k → 0 ≤ fr.getD i 0 ∧ fr.getD i 0 < (er.length : Int)) : (k = 0 ∧ bestF c fr k = -1) ∨ (0 < k ∧ 0 ≤ bestF c fr k ∧ bestF c fr k < (er.length : Int)) := by
  cases k with
  | zero => exact .inl ⟨rfl, rfl⟩
  | succ k =>
    obtain ⟨i, hi, e⟩ := bestBy_at c fr k
    have := h i (by omega)
    exact .inr ⟨by omega, by show 0 ≤ bestBy c fr k; omega, by show bestBy c fr k < _; omega⟩
/-- One round of the search. -/
theorem bestF_step (c : Int → Int → Int) (l : List Int) (k : Nat) : bestF c l (k + 1) = if k = 0 ∨ c (l.getD k 0) (bestF c l k) < 0 then l.getD k 0 else bestF c l k := by
  cases k with
  | zero => rfl
  | succ k =>
    show bestBy c l (k + 1) = _
    rw [bestBy]
    by_cases h : c (l.getD (k + 1) 0) (bestBy c l k) < 0
    · rw [if_pos h, if_pos (.inr h)]
    · rw [if_neg h, if_neg (by rintro (e | e); · omega
                               · exact h e)]
      rfl
/-- The good blocks among the first k. -/
def goodL (bad : List Bool) : Nat → List Int
  | 0 => []
  | k + 1 => if bad.getD k false = true then goodL bad k else goodL bad k ++ [(k : Int)]
theorem goodL_le (bad : List Bool) (k : Nat) : (goodL bad k).length ≤ k := by
  induction k with
  | zero => simp [goodL]
  | succ k ih =>
    unfold goodL
    split
    · omega
    · rw [List.length_append, List.length_singleton]; omega
theorem goodL_mem (bad : List Bool) (k : Nat) (i : Nat) (h : i < (goodL bad k).length) : 0 ≤ (goodL bad k).getD i 0 ∧ (goodL bad k).getD i 0 < (k : Int) := by
  induction k with
  | zero => simp [goodL] at h
  | succ k ih =>
    unfold goodL at h ⊢
    split at h
    · rename_i hb
      rw [if_pos hb]
      have := ih h; omega
    · rename_i hb
      rw [if_neg hb]
      by_cases e : i < (goodL bad k).length
      · have := ih e
        rw [List.getD_eq_getElem?_getD] at this ⊢
        rw [List.getElem?_append_left e]
        omega
      · have e2 : i = (goodL bad k).length := by simp at h; omega
        rw [List.getD_eq_getElem?_getD, List.getElem?_append_right (show (goodL bad k).length ≤ i by omega)]
        subst e2
        simp
        omega
def cntL (er : List Int) (l : List Int) : List Int := l.map fun b => er.getD b.toNat 0
theorem cntL_length (er l : List Int) : (cntL er l).length = l.length := by unfold cntL; simp
/-- The largest, the smallest element, 0 of none. -/
def hiL : List Int → Int
  | [] => 0
  | x :: r => r.foldl (fun m y => if m < y then y else m) x
def loL : List Int → Int
  | [] => 0
  | x :: r => r.foldl (fun m y => if y < m then y else m) x
theorem hiL_snoc (l : List Int) (y : Int) : hiL (l ++ [y]) = if l = [] then y else if hiL l < y then y else hiL l := by
  cases l with
  | nil => rfl
  | cons x r => rw [if_neg (show ¬ (x :: r = []) by simp)]; simp only [List.cons_append, hiL, List.foldl_append, List.foldl_cons, List.foldl_nil]; rfl
theorem loL_snoc (l : List Int) (y : Int) : loL (l ++ [y]) = if l = [] then y else if y < loL l then y else loL l := by
  cases l with
  | nil => rfl
  | cons x r => rw [if_neg (show ¬ (x :: r = []) by simp)]; simp only [List.cons_append, loL, List.foldl_append, List.foldl_cons, List.foldl_nil]; rfl
theorem hiL_take (l : List Int) (k : Nat) (h : k < l.length) (h0 : 0 < k) : hiL (l.take (k + 1)) = if hiL (l.take k) < l.getD k 0 then l.getD k 0 else hiL (l.take k) := by
  rw [List.take_succ_eq_append_getElem h, hiL_snoc, if_neg (by intro e; have := congrArg List.length e; rw [List.length_take] at this; simp only [List.length_nil] at this; omega), List.getD_eq_getElem?_getD, List.getElem?_eq_getElem h]
  rfl
theorem loL_take (l : List Int) (k : Nat) (h : k < l.length) (h0 : 0 < k) : loL (l.take (k + 1)) = if l.getD k 0 < loL (l.take k) then l.getD k 0 else loL (l.take k) := by
  rw [List.take_succ_eq_append_getElem h, loL_snoc, if_neg (by intro e; have := congrArg List.length e; rw [List.length_take] at this; simp only [List.length_nil] at this; omega), List.getD_eq_getElem?_getD, List.getElem?_eq_getElem h]
  rfl
def CountsOk (er : List Int) : Prop := ∀ i, i < er.length → 0 ≤ er.getD i 0 ∧ er.getD i 0 ≤ 1000
/-- The counts of the good ones among the first k blocks. -/
def gcL (er : List Int) (bad : List Bool) (k : Nat) : List Int := cntL er (goodL bad k)
theorem gcL_zero (er : List Int) (bad : List Bool) : gcL er bad 0 = [] := rfl
theorem gcL_bad {er : List Int} {bad : List Bool} {k : Nat} (h : bad.getD k false = true) : gcL er bad (k + 1) = gcL er bad k := by unfold gcL; rw [goodL, if_pos h]
theorem gcL_good {er : List Int} {bad : List Bool} {k : Nat} (h : ¬ bad.getD k false = true) : gcL er bad (k + 1) = gcL er bad k ++ [er.getD k 0] := by unfold gcL; rw [goodL, if_neg h]; simp [cntL]
theorem gcL_in {er : List Int} {bad : List Bool} (h : CountsOk er) (k : Nat) (hk : k ≤ er.length) : ∀ i, i < (gcL er bad k).length → 0 ≤ (gcL er bad k).getD i 0 ∧ (gcL er bad k).getD i 0 ≤ 1000 := by
  intro i hi
  have hi2 : i < (goodL bad k).length := by unfold gcL at hi; rwa [cntL_length] at hi
  have hm := goodL_mem bad k i hi2
  have e : (gcL er bad k).getD i 0 = er.getD ((goodL bad k).getD i 0).toNat 0 := by
    unfold gcL cntL
    simp only [List.getD_eq_getElem?_getD, List.getElem?_map, List.getElem?_eq_getElem hi2]
    simp
  rw [e]
  exact h _ (by omega)
theorem hiL_in (l : List Int) (h : ∀ i, i < l.length → 0 ≤ l.getD i 0 ∧ l.getD i 0 ≤ 1000) : ∀ k, k ≤ l.length → (0 ≤ hiL (l.take k) ∧ hiL (l.take k) ≤ 1000) ∧ (0 ≤ loL (l.take k) ∧ loL (l.take k) ≤ 1000) := by
  intro k
  induction k with
  | zero => intro _; simp [hiL, loL]
  | succ k ih =>
    intro hk
    have h1 := ih (by omega)
    have h2 := h k (by omega)
    rcases Nat.eq_zero_or_pos k with e | e
    · subst e
      have : l.take (0 + 1) = [l.getD 0 0] := by
        rw [List.take_succ_eq_append_getElem (by omega)]; simp [List.getD_eq_getElem?_getD, List.getElem?_eq_getElem (show 0 < l.length by omega)]
      rw [this]; simp only [hiL, loL, List.foldl]; exact ⟨h2, h2⟩
    · rw [hiL_take l k (by omega) e, loL_take l k (by omega) e]
      constructor <;> split <;> omega
def gapV (er : List Int) (bad : List Bool) (r : Bool) : Int := if r = true then hiL (gcL er bad er.length) - loL (gcL er bad er.length) else 0
/-- Static: the good blocks that are not excluded. -/
def statL (bad : List Bool) (ex : List Int) (n : Nat) : List Int := (goodL bad n).filter fun x => !(ex.contains x)
def statV (er : List Int) (bad : List Bool) (ex : List Int) : Int := firstV (ordE er true) (statL bad ex er.length)
end Go.Proofs.Ytgamoiagpglcmaa
/- Plain data: Cells. -/
namespace Go.Proofs.Ytgamoiagpglcmaa
open Go.RowKit
set_option linter.unusedVariables false
structure Ce where
  c : List Int
def Ce.zero : Ce := ⟨[]⟩
instance : Inhabited Ce := ⟨Ce.zero⟩
/-- It fits. -/
def CeSz (M : Ce) : Prop := M.c.length ≤ 1048576
theorem Ce.zero_sz : CeSz Ce.zero := by unfold CeSz Ce.zero; simp
end Go.Proofs.Ytgamoiagpglcmaa
/- Memory cells as plain data: what is valid, what an erase leaves. No program in it. -/
namespace Go.Proofs.Ytgamoiagpglcmaa
open Go.RowKit
set_option linter.unusedVariables false
/-- One charge is in its bounds. -/
def ChOk (c : List Int) (i : Nat) : Prop := 0 ≤ c.getD i 0 ∧ c.getD i 0 ≤ 255
def CeOk (M : Ce) : Prop := M.c.length ≤ 64 ∧ ∀ i, i < M.c.length → ChOk M.c i
def eraC (M : Ce) : Ce := ⟨M.c.map (· / 4)⟩
def eraE (M : Ce) (r : Bool) : Ce := bif r then eraC M else Ce.zero
theorem eraE_sz {M : Ce} {r : Bool} (z : CeSz M) : CeSz (eraE M r) := by
  unfold CeSz at z ⊢
  cases r
  · simp [eraE, Ce.zero]
  · simpa [eraE, eraC] using z
/-- Two charges differ. -/
def Leaks (M : Ce) : Prop := ∃ i, i < M.c.length ∧ M.c.getD i 0 ≠ M.c.getD 0 0
end Go.Proofs.Ytgamoiagpglcmaa
/- Cells in memory; what the laws' helpers for it do. -/
namespace Go.Proofs.Ytgamoiagpglcmaa
open Go.RowKit
set_option linter.unusedVariables false
set_option linter.unusedSimpArgs false
def cec (M : Ce) (u0 : Value) : Array Value := #[u0]
def CeIn (w : World) (hi : Nat) (v : Value) (M : Ce) : Prop := ∃ a0, v = .agg (cec M a0) ∧ NI w hi a0 M.c
def CeOwn (w : World) (lo hi : Nat) (v : Value) (M : Ce) : Prop := ∃ a0, v = .agg (cec M a0) ∧ IO w lo hi a0 M.c
section
variable {w w' : World} {lo hi lo' hi' B : Nat} {v : Value} {M : Ce}
theorem CeIn.below (h : CeIn w hi v M) (hb : Below B w w') (hB : hi ≤ B) : CeIn w' hi v M := by
  obtain ⟨a0, e, h0⟩ := h; exact ⟨a0, e, h0.below hb hB⟩
theorem CeIn.same (h : CeIn w hi v M) (hs : Same 0 hi w w') : CeIn w' hi v M := by
  obtain ⟨a0, e, h0⟩ := h; exact ⟨a0, e, h0.same hs⟩
theorem CeIn.wide (h : CeIn w hi v M) (hh : hi ≤ hi') : CeIn w hi' v M := by
  obtain ⟨a0, e, h0⟩ := h; exact ⟨a0, e, h0.wide hh⟩
theorem CeOwn.reads (h : CeOwn w lo hi v M) : CeIn w hi v M := by
  obtain ⟨a0, e, h0⟩ := h; exact ⟨a0, e, h0.reads⟩
theorem CeOwn.same (h : CeOwn w lo hi v M) (hs : Same lo hi w w') : CeOwn w' lo hi v M := by
  obtain ⟨a0, e, h0⟩ := h; exact ⟨a0, e, h0.same hs⟩
theorem CeOwn.wide (h : CeOwn w lo hi v M) (hl : lo' ≤ lo) (hh : hi ≤ hi') : CeOwn w lo' hi' v M := by
  obtain ⟨a0, e, h0⟩ := h; exact ⟨a0, e, h0.wide hl hh⟩
theorem CeOwn.zero (w : World) (lo hi : Nat) : CeOwn w lo hi (.agg #[.slice none 0 0]) Ce.zero := ⟨_, rfl, IO.nil _ _ _⟩
theorem CeIn.agg_ (h : CeIn w hi v M) : ∃ (A0 : Option Addr) (n0 c0 : Nat), v = .agg #[.slice A0 n0 c0] := by
  obtain ⟨a0, e, h0⟩ := h
  obtain ⟨A0, n0, c0, rfl⟩ := h0.slice
  exact ⟨_, _, _, e⟩
theorem CeOwn.agg_ (h : CeOwn w lo hi v M) : ∃ (A0 : Option Addr) (n0 c0 : Nat), v = .agg #[.slice A0 n0 c0] := h.reads.agg_
end
theorem infoCe : (Try.prog.info? 42).map (·.size) = some 1 := by kernel_rfl
end Go.Proofs.Ytgamoiagpglcmaa
