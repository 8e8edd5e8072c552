/- The proof's own lemmas, part 17: WxN HtN HtM. -/
import Derived.Test.YtgamoiagpglcmaaMg12
import Derived.Test.YtgamoiagpglcmaaMg3
import Derived.Test.YtgamoiagpglcmaaProg
import Derived.Test.YtgamoiagpglcmaaMg9
import Derived.RegionTactic
import Derived.Deep.RegionHeld3
/- States of the blocks as plain data: which are valid. No program in it. -/
namespace Go.Proofs.Ytgamoiagpglcmaa
open Go.RowKit
set_option linter.unusedVariables false
/-- One block's values are valid. -/
def WlOk (e : List Int) (b : List Bool) (c : List Int) (i : Nat) : Prop := (0 ≤ e.getD i 0 ∧ e.getD i 0 ≤ 1000) ∧ (0 ≤ c.getD i 0 ∧ c.getD i 0 ≤ 2) ∧ (c.getD i 0 = 0 ∨ b.getD i false = false)
def WeOk (M : We) : Prop := (1 ≤ M.e.length ∧ M.e.length ≤ 36) ∧ M.b.length = M.e.length ∧ M.c.length = M.e.length ∧ (1 ≤ M.n ∧ M.n ≤ 100) ∧ ∀ i, i < M.e.length → WlOk M.e M.b M.c i
end Go.Proofs.Ytgamoiagpglcmaa
/- Write counters as plain data. No program in it. -/
namespace Go.Proofs.Ytgamoiagpglcmaa
open Go.RowKit
set_option linter.unusedVariables false
structure Ht where
  c : List Int
  n : Int
def Ht.zero : Ht := ⟨[], 0⟩
/-- One count is in its bounds. -/
def CntOk (c : List Int) (i : Nat) : Prop := 0 ≤ c.getD i 0 ∧ c.getD i 0 ≤ 1000000
def HtOk (h : Ht) : Prop := (1 ≤ h.c.length ∧ h.c.length ≤ 48) ∧ (0 ≤ h.n ∧ h.n ≤ 15) ∧ ∀ i, i < h.c.length → CntOk h.c i
/-- The counters fit. -/
def HtSz (h : Ht) : Prop := h.c.length ≤ 1048576
/-- What NewHeat answers. -/
def newHt (l : Int) : Ht := ⟨List.replicate l.toNat 0, 0⟩
def NewHtIs (l : Int) (G : Ht) (c : Int) : Prop := ((1 ≤ l ∧ l ≤ 48) ∧ G = newHt l ∧ c = 0) ∨ (¬ (1 ≤ l ∧ l ≤ 48) ∧ G = Ht.zero ∧ c = 2)
theorem newHtIs (l : Int) : ∃ G c, NewHtIs l G c := by
  by_cases h : 1 ≤ l ∧ l ≤ 48
  · exact ⟨_, _, .inl ⟨h, rfl, rfl⟩⟩
  · exact ⟨_, _, .inr ⟨h, rfl, rfl⟩⟩
theorem newHtIs_sz {l : Int} {G : Ht} {c : Int} (h : NewHtIs l G c) : HtSz G := by
  rcases h with ⟨h, rfl, _⟩ | ⟨_, rfl, _⟩
  · unfold HtSz newHt; simp; omega
  · unfold HtSz Ht.zero; simp
/-- The sum of the first k counts. -/
def sumTo (c : List Int) : Nat → Int
  | 0 => 0
  | k + 1 => sumTo c k + c.getD k 0
theorem sumTo_le {c : List Int} (k : Nat) (h : ∀ i, i < k → CntOk c i) : 0 ≤ sumTo c k ∧ sumTo c k ≤ (k : Int) * 1000000 := by
  induction k with
  | zero => simp [sumTo]
  | succ k ih =>
    have a := ih (fun i hi => h i (by omega))
    have b := h k (by omega)
    unfold CntOk at b
    unfold sumTo
    omega
/-- Page l is hot among the counts. -/
def HotAt (c : List Int) (l : Int) : Prop := (0 ≤ l ∧ l < c.length) ∧ c.getD l.toNat 0 * (c.length : Int) > 2 * sumTo c c.length
def HotIs (M : Ht) (r : Bool) (l : Int) : Prop := r = true ∧ HotAt M.c l
open Classical in
/-- The hot pages among the first k. -/
noncomputable def hotTo (c : List Int) : Nat → List Int
  | 0 => []
  | k + 1 => if HotAt c (k : Int) then hotTo c k ++ [(k : Int)] else hotTo c k
theorem hotTo_yes {c : List Int} {k : Nat} (h : HotAt c (k : Int)) : hotTo c (k + 1) = hotTo c k ++ [(k : Int)] := by simp only [hotTo, if_pos h]
theorem hotTo_no {c : List Int} {k : Nat} (h : ¬ HotAt c (k : Int)) : hotTo c (k + 1) = hotTo c k := by simp only [hotTo, if_neg h]
theorem hotTo_le (c : List Int) (k : Nat) : (hotTo c k).length ≤ k := by
  induction k with
  | zero => simp [hotTo]
  | succ k ih =>
    unfold hotTo
    split
    · simp; omega
    · omega
noncomputable def hotL (M : Ht) (r : Bool) : List Int := bif r then hotTo M.c M.c.length else []
theorem hotL_le {M : Ht} {r : Bool} (z : HtSz M) : (hotL M r).length ≤ 1048576 := by
  have := hotTo_le M.c M.c.length
  unfold HtSz at z
  cases r
  · simp [hotL]
  · simp [hotL]; omega
def decL (c : List Int) : List Int := c.map (· / 2)
theorem decL_length (c : List Int) : (decL c).length = c.length := by simp [decL]
theorem decL_at (c : List Int) (i : Nat) (h : i < c.length) : (decL c).getD i 0 = c.getD i 0 / 2 := by simp [decL, List.getD_eq_getElem?_getD, h]
def decayH (M : Ht) : Ht := ⟨decL M.c, 0⟩
def decayE (M : Ht) (r : Bool) : Ht := bif r then decayH M else Ht.zero
theorem decayE_sz {M : Ht} {r : Bool} (z : HtSz M) : HtSz (decayE M r) := by
  unfold HtSz at z ⊢
  cases r
  · simp [decayE, Ht.zero]
  · simpa [decayE, decayH, decL_length] using z
def bumpL (c : List Int) (l : Nat) : List Int := c.set l (min (c.getD l 0 + 1) 1000000)
/-- What a noted write makes of the counters. -/
def noteH (M : Ht) (l : Nat) : Ht := if M.n + 1 = 16 then decayH ⟨bumpL M.c l, M.n + 1⟩ else ⟨bumpL M.c l, M.n + 1⟩
def NoteIs (M : Ht) (r : Bool) (l : Int) (G : Ht) (c : Int) : Prop :=
  (r = false ∧ G = Ht.zero ∧ c = 1) ∨ (r = true ∧ ¬ (0 ≤ l ∧ l < M.c.length) ∧ G = Ht.zero ∧ c = 2) ∨ (r = true ∧ (0 ≤ l ∧ l < M.c.length) ∧ G = noteH M l.toNat ∧ c = 0)
theorem noteIs (M : Ht) (r : Bool) (l : Int) : ∃ G c, NoteIs M r l G c := by
  cases r with
  | false => exact ⟨_, _, .inl ⟨rfl, rfl, rfl⟩⟩
  | true =>
    by_cases h : 0 ≤ l ∧ l < M.c.length
    · exact ⟨_, _, .inr (.inr ⟨rfl, h, rfl, rfl⟩)⟩
    · exact ⟨_, _, .inr (.inl ⟨rfl, h, rfl, rfl⟩)⟩
theorem noteIs_sz {M : Ht} {r : Bool} {l : Int} {G : Ht} {c : Int} (h : NoteIs M r l G c) (z : HtSz M) : HtSz G := by
  unfold HtSz at z ⊢
  rcases h with ⟨_, rfl, _⟩ | ⟨_, _, rfl, _⟩ | ⟨_, _, rfl, _⟩
  · simp [Ht.zero]
  · simp [Ht.zero]
  · unfold noteH
    split
    · simpa [decayH, decL_length, bumpL] using z
    · simpa [bumpL] using z
/-- One step of an own list that is halved in place. -/
theorem decL_step (c : List Int) (k : Nat) (h : k < c.length) : ((decL c).take k ++ c.drop k).set k (c.getD k 0 / 2) = (decL c).take (k + 1) ++ c.drop (k + 1) := by
  have hl := decL_length c
  rw [List.set_append_right _ _ (by simp; omega), List.length_take, Nat.min_eq_left (by omega), Nat.sub_self, List.drop_eq_getElem_cons h, List.set_cons_zero, List.take_succ_eq_append_getElem (by omega : k < (decL c).length), List.append_assoc, ← decL_at c k h, List.getD_eq_getElem?_getD, List.getElem?_eq_getElem (by omega : k < (decL c).length)]; rfl
theorem decL_mid (c : List Int) (k i : Nat) (hk : k ≤ i) (h : i < c.length) : ((decL c).take k ++ c.drop k).getD i 0 = c.getD i 0 := by
  have hl := decL_length c
  rw [List.getD_eq_getElem?_getD, List.getElem?_append_right (by simp; omega), List.length_take, Nat.min_eq_left (by omega), List.getElem?_drop, show k + (i - k) = i by omega, List.getD_eq_getElem?_getD]
end Go.Proofs.Ytgamoiagpglcmaa
/- Write counters in memory; what the laws' helpers for them do. -/
namespace Go.Proofs.Ytgamoiagpglcmaa
open Go.RowKit
set_option linter.unusedVariables false
set_option linter.unusedSimpArgs false
theorem Rw.two {w : World} {g : Nat} {t : TypeId} {a b : Value} (h : Rw w g t #[a, b]) : w.cell? ⟨g, 0, none⟩ = some a ∧ w.cell? ⟨g, 1, none⟩ = some b := ⟨h.cell 0, h.cell 1⟩
/-- The cells of counters whose list is the slice u. -/
def htc (M : Ht) (u : Value) : Array Value := #[u, .int .i64 M.n]
def HtIn (w : World) (hi : Nat) (v : Value) (M : Ht) : Prop := ∃ a, v = .agg (htc M a) ∧ NI w hi a M.c
def HtOwn (w : World) (lo hi : Nat) (v : Value) (M : Ht) : Prop := ∃ a, v = .agg (htc M a) ∧ IO w lo hi a M.c
section
variable {w w' : World} {lo hi lo' hi' B : Nat} {v : Value} {M : Ht}
theorem HtIn.below (h : HtIn w hi v M) (hb : Below B w w') (hB : hi ≤ B) : HtIn w' hi v M := by
  obtain ⟨a, e, h1⟩ := h; exact ⟨a, e, h1.below hb hB⟩
theorem HtIn.same (h : HtIn w hi v M) (hs : Same 0 hi w w') : HtIn w' hi v M := by
  obtain ⟨a, e, h1⟩ := h; exact ⟨a, e, h1.same hs⟩
theorem HtIn.wide (h : HtIn w hi v M) (hh : hi ≤ hi') : HtIn w hi' v M := by
  obtain ⟨a, e, h1⟩ := h; exact ⟨a, e, h1.wide hh⟩
theorem HtOwn.reads (h : HtOwn w lo hi v M) : HtIn w hi v M := by
  obtain ⟨a, e, h1⟩ := h; exact ⟨a, e, h1.reads⟩
theorem HtOwn.same (h : HtOwn w lo hi v M) (hs : Same lo hi w w') : HtOwn w' lo hi v M := by
  obtain ⟨a, e, h1⟩ := h; exact ⟨a, e, h1.same hs⟩
theorem HtOwn.wide (h : HtOwn w lo hi v M) (hl : lo' ≤ lo) (hh : hi ≤ hi') : HtOwn w lo' hi' v M := by
  obtain ⟨a, e, h1⟩ := h; exact ⟨a, e, h1.wide hl hh⟩
theorem HtOwn.zero (w : World) (lo hi : Nat) : HtOwn w lo hi (.agg #[.slice none 0 0, .int .i64 0]) Ht.zero := ⟨_, rfl, IO.nil _ _ _⟩
theorem HtIn.agg2 (h : HtIn w hi v M) : ∃ (A : Option Addr) (n c : Nat) (g : Int), v = .agg #[.slice A n c, .int .i64 g] := by
  obtain ⟨a, e, h1⟩ := h
  obtain ⟨A, n, c, rfl⟩ := h1.slice
  exact ⟨_, _, _, _, e⟩
theorem HtOwn.agg2 (h : HtOwn w lo hi v M) : ∃ (A : Option Addr) (n c : Nat) (g : Int), v = .agg #[.slice A n c, .int .i64 g] := h.reads.agg2
end
theorem IntsOwn.sliceOfH {w : World} {B : Nat} {v : Value} {l : List Int} (h : IntsOwn w B v l) : ∃ A n c, v = .slice A n c := by
  rcases h.shape with ⟨rfl, _⟩ | ⟨g, cap, rfl, _⟩ <;> exact ⟨_, _, _, rfl⟩
end Go.Proofs.Ytgamoiagpglcmaa
