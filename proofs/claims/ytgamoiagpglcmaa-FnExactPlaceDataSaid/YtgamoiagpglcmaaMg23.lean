/- The proof's own lemmas, part 24: CxG. -/
import Derived.Test.YtgamoiagpglcmaaProg
import Derived.Test.YtgamoiagpglcmaaMg19
import Derived.Test.YtgamoiagpglcmaaMg21
import Derived.Test.YtgamoiagpglcmaaMg22
import Derived.Test.YtgamoiagpglcmaaMg17
import Derived.Test.YtgamoiagpglcmaaShelf
import Derived.Deep.RegionLaw
import Derived.Shelf.Strings.FuncGrows
import Derived.Laws.RangeString
import Derived.Laws.RangeAny
import Derived.StillTailTactics
/- Bit strings; which string is one, in the model and in the program: the contracts. -/
namespace Go.Proofs.Ytgamoiagpglcmaa
open Go.RowKit
set_option linter.unusedVariables false
set_option linter.unusedSimpArgs false

/-- Byte k is one of the two digits. -/
def BitAt (s : ByteArray) (k : Nat) : Prop := byteAt s k = 48 ∨ byteAt s k = 49
def BitsOk (s : ByteArray) : Prop := ∀ k, k < s.size → BitAt s k
def prgC (M : Ce) (s : ByteArray) : Ce := ⟨mapI (fun i y => if byteAt s i = 48 then 255 else y) M.c⟩
def PrgIs (M : Ce) (r b : Bool) (s : ByteArray) (G : Ce) (c : Int) : Prop :=
  (¬ (r = true ∧ b = true) ∧ G = Ce.zero ∧ c = 1) ∨ ((r = true ∧ b = true) ∧ s.size ≠ M.c.length ∧ G = Ce.zero ∧ c = 2) ∨ ((r = true ∧ b = true) ∧ s.size = M.c.length ∧ G = prgC M s ∧ c = 0)
theorem prgIs (M : Ce) (r b : Bool) (s : ByteArray) : ∃ G c, PrgIs M r b s G c := by
  by_cases g : r = true ∧ b = true
  · by_cases e : s.size = M.c.length
    · exact ⟨_, _, .inr (.inr ⟨g, e, rfl, rfl⟩)⟩
    · exact ⟨_, _, .inr (.inl ⟨g, e, rfl, rfl⟩)⟩
  · exact ⟨_, _, .inl ⟨g, rfl, rfl⟩⟩
theorem prgIs_sz {M : Ce} {r b : Bool} {s : ByteArray} {G : Ce} {c : Int} (h : PrgIs M r b s G c) (z : CeSz M) : CeSz G := by
  unfold CeSz at z ⊢
  rcases h with ⟨_, rfl, _⟩ | ⟨_, _, rfl, _⟩ | ⟨_, _, rfl, _⟩
  · simp [Ce.zero]
  · simp [Ce.zero]
  · unfold prgC; rw [mapI_length]; exact z
/-- A rune that is neither of the two digits. -/
def noBit (R : Nat) : Bool := decide (R ≠ 48 ∧ R ≠ 49)
theorem idx_bits (s : ByteArray) : ∀ f pos, s.size ≤ pos + f → ((0 ≤ Lib.idxFuncFrom noBit true s f pos) ↔ ∃ k, pos ≤ k ∧ k < s.size ∧ ¬ BitAt s k) := by
  intro f
  induction f with
  | zero =>
    intro pos h
    simp only [Lib.idxFuncFrom]
    exact ⟨fun e => by omega, fun ⟨k, h1, h2, _⟩ => by omega⟩
  | succ f ih =>
    intro pos h
    by_cases hlt : pos < s.size
    · simp only [Lib.idxFuncFrom, hlt, if_true]
      have hb := byteAt_eq hlt
      by_cases ha : (s[pos]'hlt).toNat < 128
      · rw [decode_ascii s pos hlt ha]
        simp only
        rw [hb]
        by_cases hbit : BitAt s pos
        · have hn : noBit (byteAt s pos) = false := by unfold noBit; unfold BitAt at hbit; simp; omega
          rw [hn]
          simp only [Bool.false_eq_true, if_false]
          rw [ih (pos + 1) (by omega)]
          exact ⟨fun ⟨k, h1, h2, h3⟩ => ⟨k, by omega, h2, h3⟩, fun ⟨k, h1, h2, h3⟩ => ⟨k, by
            rcases Nat.lt_or_ge pos k with g | g
            · omega
            · exact absurd (by obtain rfl : k = pos := by omega
                               exact hbit) h3, h2, h3⟩⟩
        · have hn : noBit (byteAt s pos) = true := by unfold noBit; unfold BitAt at hbit; simp; omega
          rw [hn]
          simp only [if_true]
          exact ⟨fun _ => ⟨pos, Nat.le_refl _, hlt, hbit⟩, fun _ => by omega⟩
      · have hd := decode_high s pos hlt (by omega)
        have hn : noBit (Utf8.decode s pos).1 = true := by unfold noBit; simp; omega
        rw [hn]
        simp only [if_true]
        exact ⟨fun _ => ⟨pos, Nat.le_refl _, hlt, by unfold BitAt; rw [← hb]; omega⟩, fun _ => by omega⟩
    · rw [Lib.idxFuncFrom_end _ _ _ _ _ hlt]
      exact ⟨fun e => by omega, fun ⟨k, h1, h2, _⟩ => by omega⟩
theorem idx_bits0 {s : ByteArray} {b : Bool} (hb : b = true ↔ BitsOk s) : decide (0 ≤ Lib.idxFunc noBit true s) = !b := by
  have h := idx_bits s s.size 0 (by omega)
  rw [Bool.eq_iff_iff, decide_eq_true_iff]
  show 0 ≤ Lib.idxFuncFrom noBit true s s.size 0 ↔ _
  rw [h]
  constructor
  · rintro ⟨k, _, h2, h3⟩
    cases b with
    | true => exact absurd (hb.1 rfl k h2) h3
    | false => rfl
  · intro e
    have hf : b = false := by simpa using e
    rcases Classical.em (∃ k, 0 ≤ k ∧ k < s.size ∧ ¬ BitAt s k) with g | g
    · exact g
    · have : b = true := hb.2 (fun k hk => by
        rcases Classical.em (BitAt s k) with q | q
        · exact q
        · exact absurd ⟨k, Nat.zero_le _, hk, q⟩ g)
      rw [hf] at this; cases this
theorem noBit_any (R : Nat) (W : World) : Calls Try.prog 96 #[.int .i32 (R : Int)] W fun e w' => e = .returned (.bool (noBit R)) ∧ W = w' := by
  by_cases h48 : R = 48
  · subst h48
    go_enter Try.func96, Try.ntmps96
    go_wp2
    go_ret
    exact ⟨rfl, rfl⟩
  · have d1 : ((R : Int) != 48) = true := by simp; omega
    have hn : noBit R = ((R : Int) != 49) := by unfold noBit; rw [Bool.eq_iff_iff]; simp; omega
    rw [hn]
    clear h48 hn
    go_enter Try.func96, Try.ntmps96
    go_wp2
    go_ret
    exact ⟨rfl, rfl⟩
theorem implBits_any (s : ByteArray) (b : Bool) (w : World) (hb : b = true ↔ BitsOk s) :
    Calls Try.prog 97 #[.string s, .func (.func 96) #[] #[]] w fun e w' => e = .returned (.bool (!b)) ∧ Below w.heap.size w w' := by
  rw [← idx_bits0 hb]
  exact Try.strings_ContainsFunc_grows 96 #[] (fun _ _ => by kernel_rfl) noBit s w (fun W x _ _ => Calls.calm (noBit_any x W))
end Go.Proofs.Ytgamoiagpglcmaa
