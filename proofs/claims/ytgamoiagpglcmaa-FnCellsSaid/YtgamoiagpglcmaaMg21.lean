/- The proof's own lemmas, part 22: CxG HtN HtM. -/
import Derived.Test.YtgamoiagpglcmaaProg
import Derived.Test.YtgamoiagpglcmaaMg12
import Derived.Test.YtgamoiagpglcmaaMg18
import Derived.Test.YtgamoiagpglcmaaMg20
import Derived.Test.YtgamoiagpglcmaaMg13
import Derived.Test.YtgamoiagpglcmaaShelf
import Derived.Deep.RegionLaw
import Derived.Shelf.Strings.FuncGrows
import Derived.Laws.RangeString
import Derived.Laws.RangeAny
import Derived.StillTailTactics
import Derived.Test.YtgamoiagpglcmaaMg5
import Derived.Test.YtgamoiagpglcmaaMg10
import Derived.RegionTactic
import Derived.Deep.RegionHeld3
/- Bit strings; which string is one, in the model and in the program: the contracts. -/
namespace Go.Proofs.Ytgamoiagpglcmaa
open Go.RowKit
set_option linter.unusedVariables false
set_option linter.unusedSimpArgs false

/-- Byte k is one of the two digits. -/
def BitAt (s : ByteArray) (k : Nat) : Prop := byteAt s k = 48 ∨ byteAt s k = 49
def BitsOk (s : ByteArray) : Prop := ∀ k, k < s.size → BitAt s k
def prgC (M : Ce) (s : ByteArray) : Ce := ⟨mapI (fun i y => if byteAt s i = 48 then 255 else y) M.c⟩
def PrgIs (M : Ce) (r b : Bool) (s : ByteArray) (G : Ce) (c : Int) : Prop :=
  (¬ (r = true ∧ b = true) ∧ G = Ce.zero ∧ c = 1) ∨ ((r = true ∧ b = true) ∧ s.size ≠ M.c.length ∧ G = Ce.zero ∧ c = 2) ∨ ((r = true ∧ b = true) ∧ s.size = M.c.length ∧ G = prgC M s ∧ c = 0)
theorem prgIs (M : Ce) (r b : Bool) (s : ByteArray) : ∃ G c, PrgIs M r b s G c := by
  by_cases g : r = true ∧ b = true
  · by_cases e : s.size = M.c.length
    · exact ⟨_, _, .inr (.inr ⟨g, e, rfl, rfl⟩)⟩
    · exact ⟨_, _, .inr (.inl ⟨g, e, rfl, rfl⟩)⟩
  · exact ⟨_, _, .inl ⟨g, rfl, rfl⟩⟩
theorem prgIs_sz {M : Ce} {r b : Bool} {s : ByteArray} {G : Ce} {c : Int} (h : PrgIs M r b s G c) (z : CeSz M) : CeSz G := by
  unfold CeSz at z ⊢
  rcases h with ⟨_, rfl, _⟩ | ⟨_, _, rfl, _⟩ | ⟨_, _, rfl, _⟩
  · simp [Ce.zero]
  · simp [Ce.zero]
  · unfold prgC; rw [mapI_length]; exact z
/-- A rune that is neither of the two digits. -/
def noBit (R : Nat) : Bool := decide (R ≠ 48 ∧ R ≠ 49)
theorem idx_bits (s : ByteArray) : ∀ f pos, s.size ≤ pos + f → ((0 ≤ Lib.idxFuncFrom noBit true s f pos) ↔ ∃ k, pos ≤ k ∧ k < s.size ∧ ¬ BitAt s k) := by
  intro f
  induction f with
  | zero =>
    intro pos h
    simp only [Lib.idxFuncFrom]
    exact ⟨fun e => by omega, fun ⟨k, h1, h2, _⟩ => by omega⟩
  | succ f ih =>
    intro pos h
    by_cases hlt : pos < s.size
    · simp only [Lib.idxFuncFrom, hlt, if_true]
      have hb := byteAt_eq hlt
      by_cases ha : (s[pos]'hlt).toNat < 128
      · rw [decode_ascii s pos hlt ha]
        simp only
        rw [hb]
        by_cases hbit : BitAt s pos
        · have hn : noBit (byteAt s pos) = false := by unfold noBit; unfold BitAt at hbit; simp; omega
          rw [hn]
          simp only [Bool.false_eq_true, if_false]
          rw [ih (pos + 1) (by omega)]
          exact ⟨fun ⟨k, h1, h2, h3⟩ => ⟨k, by omega, h2, h3⟩, fun ⟨k, h1, h2, h3⟩ => ⟨k, by
            rcases Nat.lt_or_ge pos k with g | g
            · omega
            · exact absurd (by obtain rfl : k = pos := by omega
                               exact hbit) h3, h2, h3⟩⟩
        · have hn : noBit (byteAt s pos) = true := by unfold noBit; unfold BitAt at hbit; simp; omega
          rw [hn]
          simp only [if_true]
          exact ⟨fun _ => ⟨pos, Nat.le_refl _, hlt, hbit⟩, fun _ => by omega⟩
      · have hd := decode_high s pos hlt (by omega)
        have hn : noBit (Utf8.decode s pos).1 = true := by unfold noBit; simp; omega
        rw [hn]
        simp only [if_true]
        exact ⟨fun _ => ⟨pos, Nat.le_refl _, hlt, by unfold BitAt; rw [← hb]; omega⟩, fun _ => by omega⟩
    · rw [Lib.idxFuncFrom_end _ _ _ _ _ hlt]
      exact ⟨fun e => by omega, fun ⟨k, h1, h2, _⟩ => by omega⟩
theorem idx_bits0 {s : ByteArray} {b : Bool} (hb : b = true ↔ BitsOk s) : decide (0 ≤ Lib.idxFunc noBit true s) = !b := by
  have h := idx_bits s s.size 0 (by omega)
  rw [Bool.eq_iff_iff, decide_eq_true_iff]
  show 0 ≤ Lib.idxFuncFrom noBit true s s.size 0 ↔ _
  rw [h]
  constructor
  · rintro ⟨k, _, h2, h3⟩
    cases b with
    | true => exact absurd (hb.1 rfl k h2) h3
    | false => rfl
  · intro e
    have hf : b = false := by simpa using e
    rcases Classical.em (∃ k, 0 ≤ k ∧ k < s.size ∧ ¬ BitAt s k) with g | g
    · exact g
    · have : b = true := hb.2 (fun k hk => by
        rcases Classical.em (BitAt s k) with q | q
        · exact q
        · exact absurd ⟨k, Nat.zero_le _, hk, q⟩ g)
      rw [hf] at this; cases this
theorem noBit_any (R : Nat) (W : World) : Calls Try.prog 96 #[.int .i32 (R : Int)] W fun e w' => e = .returned (.bool (noBit R)) ∧ W = w' := by
  by_cases h48 : R = 48
  · subst h48
    go_enter Try.func96, Try.ntmps96
    go_wp2
    go_ret
    exact ⟨rfl, rfl⟩
  · have d1 : ((R : Int) != 48) = true := by simp; omega
    have hn : noBit R = ((R : Int) != 49) := by unfold noBit; rw [Bool.eq_iff_iff]; simp; omega
    rw [hn]
    clear h48 hn
    go_enter Try.func96, Try.ntmps96
    go_wp2
    go_ret
    exact ⟨rfl, rfl⟩
theorem implBits_any (s : ByteArray) (b : Bool) (w : World) (hb : b = true ↔ BitsOk s) :
    Calls Try.prog 97 #[.string s, .func (.func 96) #[] #[]] w fun e w' => e = .returned (.bool (!b)) ∧ Below w.heap.size w w' := by
  rw [← idx_bits0 hb]
  exact Try.strings_ContainsFunc_grows 96 #[] (fun _ _ => by kernel_rfl) noBit s w (fun W x _ _ => Calls.calm (noBit_any x W))
end Go.Proofs.Ytgamoiagpglcmaa
/- Write counters as plain data. No program in it. -/
namespace Go.Proofs.Ytgamoiagpglcmaa
open Go.RowKit
set_option linter.unusedVariables false
structure Ht where
  c : List Int
  n : Int
def Ht.zero : Ht := ⟨[], 0⟩
/-- One count is in its bounds. -/
def CntOk (c : List Int) (i : Nat) : Prop := 0 ≤ c.getD i 0 ∧ c.getD i 0 ≤ 1000000
def HtOk (h : Ht) : Prop := (1 ≤ h.c.length ∧ h.c.length ≤ 48) ∧ (0 ≤ h.n ∧ h.n ≤ 15) ∧ ∀ i, i < h.c.length → CntOk h.c i
/-- The counters fit. -/
def HtSz (h : Ht) : Prop := h.c.length ≤ 1048576
/-- What NewHeat answers. -/
def newHt (l : Int) : Ht := ⟨List.replicate l.toNat 0, 0⟩
def NewHtIs (l : Int) (G : Ht) (c : Int) : Prop := ((1 ≤ l ∧ l ≤ 48) ∧ G = newHt l ∧ c = 0) ∨ (¬ (1 ≤ l ∧ l ≤ 48) ∧ G = Ht.zero ∧ c = 2)
theorem newHtIs (l : Int) : ∃ G c, NewHtIs l G c := by
  by_cases h : 1 ≤ l ∧ l ≤ 48
  · exact ⟨_, _, .inl ⟨h, rfl, rfl⟩⟩
  · exact ⟨_, _, .inr ⟨h, rfl, rfl⟩⟩
theorem newHtIs_sz {l : Int} {G : Ht} {c : Int} (h : NewHtIs l G c) : HtSz G := by
  rcases h with ⟨h, rfl, _⟩ | ⟨_, rfl, _⟩
  · unfold HtSz newHt; simp; omega
  · unfold HtSz Ht.zero; simp
/-- The sum of the first k counts. -/
def sumTo (c : List Int) : Nat → Int
  | 0 => 0
  | k + 1 => sumTo c k + c.getD k 0
theorem sumTo_le {c : List Int} (k : Nat) (h : ∀ i, i < k → CntOk c i) : 0 ≤ sumTo c k ∧ sumTo c k ≤ (k : Int) * 1000000 := by
  induction k with
  | zero => simp [sumTo]
  | succ k ih =>
    have a := ih (fun i hi => h i (by omega))
    have b := h k (by omega)
    unfold CntOk at b
    unfold sumTo
    omega
/-- Page l is hot among the counts. -/
def HotAt (c : List Int) (l : Int) : Prop := (0 ≤ l ∧ l < c.length) ∧ c.getD l.toNat 0 * (c.length : Int) > 2 * sumTo c c.length
def HotIs (M : Ht) (r : Bool) (l : Int) : Prop := r = true ∧ HotAt M.c l
open Classical in
/-- The hot pages among the first k. -/
noncomputable def hotTo (c : List Int) : Nat → List Int
  | 0 => []
  | k + 1 => if HotAt c (k : Int) then hotTo c k ++ [(k : Int)] else hotTo c k
theorem hotTo_yes {c : List Int} {k : Nat} (h : HotAt c (k : Int)) : hotTo c (k + 1) = hotTo c k ++ [(k : Int)] := by simp only [hotTo, if_pos h]
theorem hotTo_no {c : List Int} {k : Nat} (h : ¬ HotAt c (k : Int)) : hotTo c (k + 1) = hotTo c k := by simp only [hotTo, if_neg h]
theorem hotTo_le (c : List Int) (k : Nat) : (hotTo c k).length ≤ k := by
  induction k with
  | zero => simp [hotTo]
  | succ k ih =>
    unfold hotTo
    split
    · simp; omega
    · omega
noncomputable def hotL (M : Ht) (r : Bool) : List Int := bif r then hotTo M.c M.c.length else []
theorem hotL_le {M : Ht} {r : Bool} (z : HtSz M) : (hotL M r).length ≤ 1048576 := by
  have := hotTo_le M.c M.c.length
  unfold HtSz at z
  cases r
  · simp [hotL]
  · simp [hotL]; omega
def decL (c : List Int) : List Int := c.map (· / 2)
theorem decL_length (c : List Int) : (decL c).length = c.length := by simp [decL]
theorem decL_at (c : List Int) (i : Nat) (h : i < c.length) : (decL c).getD i 0 = c.getD i 0 / 2 := by simp [decL, List.getD_eq_getElem?_getD, h]
def decayH (M : Ht) : Ht := ⟨decL M.c, 0⟩
def decayE (M : Ht) (r : Bool) : Ht := bif r then decayH M else Ht.zero
theorem decayE_sz {M : Ht} {r : Bool} (z : HtSz M) : HtSz (decayE M r) := by
  unfold HtSz at z ⊢
  cases r
  · simp [decayE, Ht.zero]
  · simpa [decayE, decayH, decL_length] using z
def bumpL (c : List Int) (l : Nat) : List Int := c.set l (min (c.getD l 0 + 1) 1000000)
/-- What a noted write makes of the counters. -/
def noteH (M : Ht) (l : Nat) : Ht := if M.n + 1 = 16 then decayH ⟨bumpL M.c l, M.n + 1⟩ else ⟨bumpL M.c l, M.n + 1⟩
def NoteIs (M : Ht) (r : Bool) (l : Int) (G : Ht) (c : Int) : Prop :=
  (r = false ∧ G = Ht.zero ∧ c = 1) ∨ (r = true ∧ ¬ (0 ≤ l ∧ l < M.c.length) ∧ G = Ht.zero ∧ c = 2) ∨ (r = true ∧ (0 ≤ l ∧ l < M.c.length) ∧ G = noteH M l.toNat ∧ c = 0)
theorem noteIs (M : Ht) (r : Bool) (l : Int) : ∃ G c, NoteIs M r l G c := by
  cases r with
  | false => exact ⟨_, _, .inl ⟨rfl, rfl, rfl⟩⟩
  | true =>
    by_cases h : 0 ≤ l ∧ l < M.c.length
    · exact ⟨_, _, .inr (.inr ⟨rfl, h, rfl, rfl⟩)⟩
    · exact ⟨_, _, .inr (.inl ⟨rfl, h, rfl, rfl⟩)⟩
theorem noteIs_sz {M : Ht} {r : Bool} {l : Int} {G : Ht} {c : Int} (h : NoteIs M r l G c) (z : HtSz M) : HtSz G := by
  unfold HtSz at z ⊢
  rcases h with ⟨_, rfl, _⟩ | ⟨_, _, rfl, _⟩ | ⟨_, _, rfl, _⟩
  · simp [Ht.zero]
  · simp [Ht.zero]
  · unfold noteH
    split
    · simpa [decayH, decL_length, bumpL] using z
    · simpa [bumpL] using z
/-- One step of an own list that is halved in place. -/
theorem decL_step (c : List Int) (k : Nat) (h : k < c.length) : ((decL c).take k ++ c.drop k).set k (c.getD k 0 / 2) = (decL c).take (k + 1) ++ c.drop (k + 1) := by
  have hl := decL_length c
  rw [List.set_append_right _ _ (by simp; omega), List.length_take, Nat.min_eq_left (by omega), Nat.sub_self, List.drop_eq_getElem_cons h, List.set_cons_zero, List.take_succ_eq_append_getElem (by omega : k < (decL c).length), List.append_assoc, ← decL_at c k h, List.getD_eq_getElem?_getD, List.getElem?_eq_getElem (by omega : k < (decL c).length)]; rfl
theorem decL_mid (c : List Int) (k i : Nat) (hk : k ≤ i) (h : i < c.length) : ((decL c).take k ++ c.drop k).getD i 0 = c.getD i 0 := by
  have hl := decL_length c
  rw [List.getD_eq_getElem?_getD, List.getElem?_append_right (by simp; omega), List.length_take, Nat.min_eq_left (by omega), List.getElem?_drop, show k + (i - k) = i by omega, List.getD_eq_getElem?_getD]
end Go.Proofs.Ytgamoiagpglcmaa
/- Write counters in memory; what the laws' helpers for them do. -/
namespace Go.Proofs.Ytgamoiagpglcmaa
open Go.RowKit
set_option linter.unusedVariables false
set_option linter.unusedSimpArgs false
theorem Rw.two {w : World} {g : Nat} {t : TypeId} {a b : Value} (h : Rw w g t #[a, b]) : w.cell? ⟨g, 0, none⟩ = some a ∧ w.cell? ⟨g, 1, none⟩ = some b := ⟨h.cell 0, h.cell 1⟩
/-- The cells of counters whose list is the slice u. -/
def htc (M : Ht) (u : Value) : Array Value := #[u, .int .i64 M.n]
def HtIn (w : World) (hi : Nat) (v : Value) (M : Ht) : Prop := ∃ a, v = .agg (htc M a) ∧ NI w hi a M.c
def HtOwn (w : World) (lo hi : Nat) (v : Value) (M : Ht) : Prop := ∃ a, v = .agg (htc M a) ∧ IO w lo hi a M.c
section
variable {w w' : World} {lo hi lo' hi' B : Nat} {v : Value} {M : Ht}
theorem HtIn.below (h : HtIn w hi v M) (hb : Below B w w') (hB : hi ≤ B) : HtIn w' hi v M := by
  obtain ⟨a, e, h1⟩ := h; exact ⟨a, e, h1.below hb hB⟩
theorem HtIn.same (h : HtIn w hi v M) (hs : Same 0 hi w w') : HtIn w' hi v M := by
  obtain ⟨a, e, h1⟩ := h; exact ⟨a, e, h1.same hs⟩
theorem HtIn.wide (h : HtIn w hi v M) (hh : hi ≤ hi') : HtIn w hi' v M := by
  obtain ⟨a, e, h1⟩ := h; exact ⟨a, e, h1.wide hh⟩
theorem HtOwn.reads (h : HtOwn w lo hi v M) : HtIn w hi v M := by
  obtain ⟨a, e, h1⟩ := h; exact ⟨a, e, h1.reads⟩
theorem HtOwn.same (h : HtOwn w lo hi v M) (hs : Same lo hi w w') : HtOwn w' lo hi v M := by
  obtain ⟨a, e, h1⟩ := h; exact ⟨a, e, h1.same hs⟩
theorem HtOwn.wide (h : HtOwn w lo hi v M) (hl : lo' ≤ lo) (hh : hi ≤ hi') : HtOwn w lo' hi' v M := by
  obtain ⟨a, e, h1⟩ := h; exact ⟨a, e, h1.wide hl hh⟩
theorem HtOwn.zero (w : World) (lo hi : Nat) : HtOwn w lo hi (.agg #[.slice none 0 0, .int .i64 0]) Ht.zero := ⟨_, rfl, IO.nil _ _ _⟩
theorem HtIn.agg2 (h : HtIn w hi v M) : ∃ (A : Option Addr) (n c : Nat) (g : Int), v = .agg #[.slice A n c, .int .i64 g] := by
  obtain ⟨a, e, h1⟩ := h
  obtain ⟨A, n, c, rfl⟩ := h1.slice
  exact ⟨_, _, _, _, e⟩
theorem HtOwn.agg2 (h : HtOwn w lo hi v M) : ∃ (A : Option Addr) (n c : Nat) (g : Int), v = .agg #[.slice A n c, .int .i64 g] := h.reads.agg2
end
theorem IntsOwn.sliceOfH {w : World} {B : Nat} {v : Value} {l : List Int} (h : IntsOwn w B v l) : ∃ A n c, v = .slice A n c := by
  rcases h.shape with ⟨rfl, _⟩ | ⟨g, cap, rfl, _⟩ <;> exact ⟨_, _, _, rfl⟩
end Go.Proofs.Ytgamoiagpglcmaa
