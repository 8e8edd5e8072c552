/- The proof's own lemmas, part 2: EccN WdN DecN PopN Pop EncF CwI Tab EccI CorI DecI EccS FlipS DecS EncS Sl Fp DrP DrR FlM Strs. -/
import Derived.Test.YteigdjocjcjkiaaMg0
import Derived.WalkKit
import Derived.Test.YteigdjocjcjkiaaProg
import Derived.ProofKit
import Derived.Lib.Hide
import Derived.Deep.DeepMust
import Derived.RegionTactic
import Derived.Deep.RegionHeld3
import Derived.ChangeAlike
import Derived.Below
import Derived.Lib.LaidTab
import Derived.Deep.MidRow
import Derived.Lib.Strings
import Derived.Lib.Slices
import Derived.Lib.Small
import Derived.Lib.Walk
import Derived.Lib.BitFns
import Derived.BigQuiet
import Derived.Deep.QuietTactic
import Derived.Laws.MakeOwn
/- Plain facts on codewords of 72 bits: positions, syndrome, parity, single errors. -/
namespace Go.Proofs.Yteigdjocjcjkiaa
open Go.RowKit

theorem xorAdd (r n a : Nat) (h : r < 2 ^ n) : r ^^^ 2 ^ n * a = r + 2 ^ n * a := by
  apply Nat.eq_of_testBit_eq
  intro j
  have h1 := Nat.testBit_two_pow_mul_add a h j
  have h2 := Nat.testBit_two_pow_mul_add a (Nat.two_pow_pos n) j
  rw [Nat.add_zero] at h2
  rw [Nat.add_comm r, h1, Nat.testBit_xor, h2]
  by_cases hj : j < n
  · simp [hj]
  · rw [if_neg hj, if_neg hj, Nat.testBit_lt_two_pow (Nat.lt_of_lt_of_le h (Nat.pow_le_pow_right (by decide) (by omega)))]
    simp
/-- Linear in the exclusive or. -/
def Lin (f : Nat → Nat) : Prop := ∀ x y, f (x ^^^ y) = f x ^^^ f y
theorem Lin.zero {f : Nat → Nat} (h : Lin f) : f 0 = 0 := by
  have := h 0 0
  simpa using this
theorem Lin.eq {f g : Nat → Nat} (hf : Lin f) (hg : Lin g) : ∀ n, (∀ b, b < n → f (2 ^ b) = g (2 ^ b)) → ∀ x, x < 2 ^ n → f x = g x
  | 0, _, x, hx => by
    obtain rfl : x = 0 := by simpa using hx
    rw [hf.zero, hg.zero]
  | n + 1, h, x, hx => by
    by_cases hb : x < 2 ^ n
    · exact Lin.eq hf hg n (fun b hb => h b (by omega)) x hb
    · rw [Nat.pow_succ] at hx
      have e : x = (x - 2 ^ n) ^^^ 2 ^ n := by
        have := xorAdd (x - 2 ^ n) n 1 (by omega)
        rw [Nat.mul_one] at this
        omega
      rw [e, hf, hg, Lin.eq hf hg n (fun b hb => h b (by omega)) _ (by omega), h n (by omega)]
theorem Lin.comp {f g : Nat → Nat} (hf : Lin f) (hg : Lin g) : Lin (fun x => f (g x)) := fun x y => by
  show f (g (x ^^^ y)) = f (g x) ^^^ f (g y)
  rw [hg, hf]
theorem Lin.add {f g : Nat → Nat} (hf : Lin f) (hg : Lin g) : Lin (fun x => f x ^^^ g x) := fun x y => by
  show f (x ^^^ y) ^^^ g (x ^^^ y) = (f x ^^^ g x) ^^^ (f y ^^^ g y)
  rw [hf, hg, Nat.xor_assoc, ← Nat.xor_assoc (f y), Nat.xor_comm (f y) (g x), Nat.xor_assoc, ← Nat.xor_assoc (f x)]
theorem Lin.mod (n : Nat) : Lin (fun x => x % 2 ^ n) := fun _ _ => Nat.xor_mod_two_pow
theorem Lin.div (n : Nat) : Lin (fun x => x / 2 ^ n) := fun _ _ => Nat.xor_div_two_pow
theorem Lin.and (m : Nat) : Lin (fun x => x &&& m) := fun _ _ => Nat.and_xor_distrib_right ..
theorem Lin.mul (n : Nat) : Lin (fun x => x * 2 ^ n) := fun x y => by
  show (x ^^^ y) * 2 ^ n = x * 2 ^ n ^^^ y * 2 ^ n
  rw [← Nat.shiftLeft_eq, ← Nat.shiftLeft_eq, ← Nat.shiftLeft_eq, Nat.shiftLeft_xor_distrib]

/-- The exclusive or of what the bits of X below k stand for. -/
def accN (p : Nat → Nat) (X : Nat) : Nat → Nat
  | 0 => 0
  | k + 1 => if X.testBit k = true then accN p X k ^^^ p k else accN p X k
theorem accN_yes {p : Nat → Nat} {X k : Nat} (h : X / 2 ^ k % 2 = 1) : accN p X (k + 1) = accN p X k ^^^ p k := by
  rw [accN, if_pos (by rw [Nat.testBit_eq_decide_div_mod_eq]; simpa using h)]
theorem accN_no {p : Nat → Nat} {X k : Nat} (h : ¬ X / 2 ^ k % 2 = 1) : accN p X (k + 1) = accN p X k := by
  rw [accN, if_neg (by rw [Nat.testBit_eq_decide_div_mod_eq]; simpa using h)]
theorem accN_lin (p : Nat → Nat) : ∀ k, Lin (fun X => accN p X k)
  | 0 => fun _ _ => by simp [accN]
  | k + 1 => fun x y => by
    have ih : accN p (x ^^^ y) k = accN p x k ^^^ accN p y k := accN_lin p k x y
    show accN p (x ^^^ y) (k + 1) = accN p x (k + 1) ^^^ accN p y (k + 1)
    have hA : ∀ a b c : Nat, (a ^^^ b) ^^^ c = (a ^^^ c) ^^^ b := fun a b c => by rw [Nat.xor_assoc, Nat.xor_comm b c, ← Nat.xor_assoc]
    cases hx : x.testBit k <;> cases hy : y.testBit k
    · simp [accN, Nat.testBit_xor, hx, hy, ih]
    · simp [accN, Nat.testBit_xor, hx, hy, ih, Nat.xor_assoc]
    · simp [accN, Nat.testBit_xor, hx, hy, ih, hA]
    · simp only [accN, Nat.testBit_xor, hx, hy, ih, Bool.xor_self, Bool.false_eq_true, if_false, if_true]
      rw [hA, ← Nat.xor_assoc, Nat.xor_assoc (accN p x k ^^^ accN p y k), Nat.xor_self, Nat.xor_zero]
theorem accN_lt {p : Nat → Nat} {n : Nat} (h : ∀ b, p b < 2 ^ n) (X : Nat) : ∀ k, accN p X k < 2 ^ n
  | 0 => Nat.two_pow_pos n
  | k + 1 => by
    have := accN_lt h X k
    rw [accN]
    split
    · exact Nat.xor_lt_two_pow this (h k)
    · exact this

/-- The positions of the bits 0 to 71; the last has none. -/
def posL : List Nat := [3, 5, 6, 7, 9, 10, 11, 12, 13, 14, 15, 17, 18, 19, 20, 21, 22, 23, 24, 25, 26, 27, 28, 29, 30, 31, 33, 34, 35, 36, 37, 38, 39, 40, 41, 42, 43, 44, 45, 46, 47, 48, 49, 50, 51, 52, 53, 54, 55, 56, 57, 58, 59, 60, 61, 62, 63, 65, 66, 67, 68, 69, 70, 71, 1, 2, 4, 8, 16, 32, 64, 0]
def posN (b : Nat) : Nat := posL.getD b 0
theorem posN_all : ∀ b : Fin 72, posN b.val ≤ 71 := by decide +kernel
theorem posN_le (b : Nat) : posN b ≤ 71 := by
  by_cases h : b < 72
  · exact posN_all ⟨b, h⟩
  · unfold posN
    rw [List.getD_eq_getElem?_getD, List.getElem?_eq_none (by simp [posL]; omega)]
    exact Nat.zero_le _
theorem posN_inj_all : ∀ a b : Fin 72, posN a.val = posN b.val → a = b := by decide +kernel
theorem posN_inj {a b : Nat} (ha : a < 72) (hb : b < 72) (h : posN a = posN b) : a = b := by
  have := posN_inj_all ⟨a, ha⟩ ⟨b, hb⟩ h
  exact congrArg Fin.val this
/-- The bit at a position. -/
def bitAt (s : Nat) : Nat := posL.findIdx (· == s)
theorem bitAt_all : ∀ s : Fin 72, bitAt s.val < 72 ∧ posN (bitAt s.val) = s.val := by decide +kernel
theorem bitAt_lt {s : Nat} (h : s ≤ 71) : bitAt s < 72 := (bitAt_all ⟨s, by omega⟩).1
theorem posN_bitAt {s : Nat} (h : s ≤ 71) : posN (bitAt s) = s := (bitAt_all ⟨s, by omega⟩).2

def synN (X : Nat) : Nat := accN posN X 72
def parN (X : Nat) : Nat := accN (fun _ => 1) X 72
theorem synN_lin : Lin synN := accN_lin posN 72
theorem parN_lin : Lin parN := accN_lin _ 72
theorem synN_lt (X : Nat) : synN X < 128 := accN_lt (n := 7) (fun b => by have := posN_le b; omega) X 72
theorem parN_lt (X : Nat) : parN X < 2 := accN_lt (n := 1) (fun b => by omega) X 72
theorem syn_bit_all : ∀ b : Fin 72, synN (2 ^ b.val) = posN b.val := by decide +kernel
theorem par_bit_all : ∀ b : Fin 72, parN (2 ^ b.val) = 1 := by decide +kernel
theorem syn_flip (X : Nat) {b : Nat} (h : b < 72) : synN (X ^^^ 2 ^ b) = synN X ^^^ posN b := by rw [synN_lin, syn_bit_all ⟨b, h⟩]
theorem par_flip (X : Nat) {b : Nat} (h : b < 72) : parN (X ^^^ 2 ^ b) = parN X ^^^ 1 := by rw [parN_lin, par_bit_all ⟨b, h⟩]
theorem xor_zero_iff (a b : Nat) : a ^^^ b = 0 ↔ a = b := by
  constructor
  · intro h
    have := congrArg (· ^^^ b) h
    simpa [Nat.xor_assoc] using this
  · rintro rfl; exact Nat.xor_self _
/-- Is X a codeword? -/
def good (X : Nat) : Bool := synN X == 0 && parN X == 0
theorem good_iff (X : Nat) : good X = true ↔ synN X = 0 ∧ parN X = 0 := by unfold good; simp
/-- The flip of bit b makes X a codeword just where X has an odd parity and b is at the syndrome's position. -/
theorem good_flip {X b : Nat} (hb : b < 72) (hp : parN X = 1) : good (X ^^^ 2 ^ b) = true ↔ posN b = synN X := by
  rw [good_iff, syn_flip X hb, par_flip X hb, hp, xor_zero_iff]
  simp [eq_comm]
theorem good_one {X : Nat} (h : good X = true) {b : Nat} (hb : b < 72) : synN (X ^^^ 2 ^ b) = posN b ∧ parN (X ^^^ 2 ^ b) = 1 := by
  obtain ⟨h1, h2⟩ := (good_iff X).1 h
  rw [syn_flip X hb, par_flip X hb, h1, h2]
  simp
theorem good_two {X : Nat} (h : good X = true) {a b : Nat} (ha : a < 72) (hb : b < 72) (hab : a ≠ b) : synN (X ^^^ 2 ^ a ^^^ 2 ^ b) ≠ 0 ∧ parN (X ^^^ 2 ^ a ^^^ 2 ^ b) = 0 := by
  obtain ⟨h1, h2⟩ := good_one h ha
  rw [syn_flip _ hb, par_flip _ hb, h1, h2]
  refine ⟨fun e => hab (posN_inj ha hb ((xor_zero_iff _ _).1 e)), by decide⟩

/-- The check byte that makes a word a codeword. -/
def lowN (x : Nat) : Nat := synN x
def chkN (x : Nat) : Nat := lowN x + 128 * parN (x + 2 ^ 64 * lowN x)
theorem syn_high_all : ∀ c : Fin 256, synN (2 ^ 64 * c.val) = c.val % 128 := by decide +kernel
theorem par_high_all : ∀ c : Fin 128, parN (2 ^ 64 * (c.val + 128)) = parN (2 ^ 64 * c.val) ^^^ 1 := by decide +kernel
theorem chkN_lt (x : Nat) : chkN x < 256 := by
  have h1 := synN_lt x
  have h2 := parN_lt (x + 2 ^ 64 * lowN x)
  unfold chkN lowN at *; omega
theorem chk_good {x : Nat} (h : x < 2 ^ 64) : good (x + 2 ^ 64 * chkN x) = true := by
  have hl := synN_lt x
  have hp := parN_lt (x + 2 ^ 64 * lowN x)
  have hc := chkN_lt x
  rw [good_iff]
  have e1 : synN (x + 2 ^ 64 * chkN x) = 0 := by
    rw [← xorAdd _ _ _ h, synN_lin, syn_high_all ⟨chkN x, hc⟩]
    show synN x ^^^ chkN x % 128 = 0
    rw [xor_zero_iff]
    unfold chkN lowN; omega
  refine ⟨e1, ?_⟩
  unfold chkN
  by_cases h0 : parN (x + 2 ^ 64 * lowN x) = 0
  · rw [h0, Nat.mul_zero, Nat.add_zero]; exact h0
  · have h1 : parN (x + 2 ^ 64 * lowN x) = 1 := by omega
    rw [h1, Nat.mul_one, ← xorAdd _ _ _ h, parN_lin, par_high_all ⟨lowN x, hl⟩, ← Nat.xor_assoc, ← parN_lin, xorAdd _ _ _ h, h1]; rfl
theorem chk_or (x : Nat) : lowN x ||| parN (x + 2 ^ 64 * lowN x) * 128 = chkN x := by
  have hl : lowN x < 2 ^ 7 := synN_lt x
  have := Nat.two_pow_add_eq_or_of_lt hl (parN (x + 2 ^ 64 * lowN x))
  unfold chkN
  rw [Nat.or_comm, Nat.mul_comm _ 128, Nat.add_comm (lowN x)]
  exact this.symm

/-- The masks of the positions' bits. -/
def maskL : List Nat := [0xab55555556aaad5b, 0xcd9999999b33366d, 0xf1e1e1e1e3c3c78e, 0x01fe01fe03fc07f0, 0x01fffe0003fff800, 0x01fffffffc000000, 0xfe00000000000000]
def maskN (k : Nat) : Nat := maskL.getD k 0
theorem mask_all : ∀ k : Fin 7, maskN k.val < 2 ^ 64 := by decide +kernel
theorem mask_lt {k : Nat} (h : k < 7) : maskN k < 2 ^ 64 := mask_all ⟨k, h⟩
/-- The parity of 64 bits. -/
def par64 (x : Nat) : Nat := accN (fun _ => 1) x 64
theorem par64_lin : Lin par64 := accN_lin _ 64
theorem par64_lt (x : Nat) : par64 x < 2 := accN_lt (n := 1) (fun b => by omega) x 64
/-- The syndrome after the first k masks. -/
def sumN (x c : Nat) : Nat → Nat
  | 0 => c % 128
  | k + 1 => sumN x c k ^^^ par64 (x &&& maskN k) * 2 ^ k
theorem sumN_lin : ∀ k, Lin (fun X => sumN (X % 2 ^ 64) (X / 2 ^ 64) k)
  | 0 => (Lin.mod 7).comp (Lin.div 64)
  | k + 1 => (sumN_lin k).add ((Lin.mul k).comp (par64_lin.comp ((Lin.and (maskN k)).comp (Lin.mod 64))))
theorem sum_bit_all : ∀ b : Fin 72, sumN (2 ^ b.val % 2 ^ 64) (2 ^ b.val / 2 ^ 64) 7 = synN (2 ^ b.val) := by decide +kernel
theorem split64 {x c : Nat} (h : x < 2 ^ 64) : (x + 2 ^ 64 * c) % 2 ^ 64 = x ∧ (x + 2 ^ 64 * c) / 2 ^ 64 = c := by omega
theorem sum_syn {x c : Nat} (h : x < 2 ^ 64) (hc : c < 256) : sumN x c 7 = synN (x + 2 ^ 64 * c) := by
  have := Lin.eq (sumN_lin 7) synN_lin 72 (fun b hb => sum_bit_all ⟨b, hb⟩) (x + 2 ^ 64 * c) (by omega)
  simp only [(split64 h).1, (split64 h).2] at this
  exact this
theorem sumN_lt (x c : Nat) : ∀ k, k ≤ 7 → sumN x c k < 128
  | 0, _ => Nat.mod_lt _ (by decide)
  | k + 1, hk => by
    have ih := sumN_lt x c k (by omega)
    have hp := par64_lt (x &&& maskN k)
    have h2 : 2 ^ k ≤ 2 ^ 6 := Nat.pow_le_pow_right (by decide) (by omega)
    refine Nat.xor_lt_two_pow (n := 7) ih ?_
    have : par64 (x &&& maskN k) * 2 ^ k ≤ 1 * 2 ^ k := Nat.mul_le_mul_right _ (by omega)
    omega
theorem par_bit64_all : ∀ b : Fin 72, par64 (2 ^ b.val % 2 ^ 64) ^^^ par64 (2 ^ b.val / 2 ^ 64) = parN (2 ^ b.val) := by decide +kernel
theorem par_split {x c : Nat} (h : x < 2 ^ 64) (hc : c < 256) : par64 x ^^^ par64 c = parN (x + 2 ^ 64 * c) := by
  have := Lin.eq ((par64_lin.comp (Lin.mod 64)).add (par64_lin.comp (Lin.div 64))) parN_lin 72 (fun b hb => par_bit64_all ⟨b, hb⟩) (x + 2 ^ 64 * c) (by omega)
  simp only [(split64 h).1, (split64 h).2] at this
  exact this
theorem flip_low {x c b : Nat} (h : x < 2 ^ 64) (hb : b < 64) : (x ^^^ 2 ^ b) + 2 ^ 64 * c = (x + 2 ^ 64 * c) ^^^ 2 ^ b ∧ x ^^^ 2 ^ b < 2 ^ 64 := by
  have h2 : (2 : Nat) ^ b < 2 ^ 64 := Nat.pow_lt_pow_right (by decide) hb
  have hx : x ^^^ 2 ^ b < 2 ^ 64 := Nat.xor_lt_two_pow h h2
  refine ⟨?_, hx⟩
  rw [← xorAdd _ _ _ hx, ← xorAdd _ _ _ h, Nat.xor_assoc, Nat.xor_comm (2 ^ b), ← Nat.xor_assoc]
theorem flip_high {x c b : Nat} (h : x < 2 ^ 64) (hb : 64 ≤ b) (hb2 : b < 72) (hc : c < 256) : x + 2 ^ 64 * (c ^^^ 2 ^ (b - 64)) = (x + 2 ^ 64 * c) ^^^ 2 ^ b ∧ c ^^^ 2 ^ (b - 64) < 256 := by
  have h2 : (2 : Nat) ^ (b - 64) < 2 ^ 8 := Nat.pow_lt_pow_right (by decide) (by omega)
  refine ⟨?_, Nat.xor_lt_two_pow (n := 8) hc h2⟩
  have e : (2 : Nat) ^ b = 2 ^ 64 * 2 ^ (b - 64) := by rw [← Nat.pow_add]; congr 1; omega
  rw [e, ← xorAdd _ _ _ h, ← xorAdd _ _ _ h, Nat.xor_assoc]
  congr 1
  rw [Nat.mul_comm, Nat.mul_comm _ c, Nat.mul_comm (2 ^ 64)]
  exact Lin.mul 64 c (2 ^ (b - 64))

/-- Decoding: a codeword; one with a single error; neither. -/
def One (X : Nat) : Prop := parN X = 1 ∧ synN X ≤ 71
def fixN (X : Nat) : Nat := X ^^^ 2 ^ bitAt (synN X)
theorem not_good {X : Nat} (h : parN X = 1) : good X = false := by unfold good; rw [h]; simp
theorem one_first {X k : Nat} (h : One X) (hk : k < bitAt (synN X)) : synN (X ^^^ 2 ^ k) ≠ 0 ∧ parN (X ^^^ 2 ^ k) = 0 := by
  have hb := bitAt_lt h.2
  rw [syn_flip X (by omega), par_flip X (by omega), h.1]
  refine ⟨fun e => ?_, by decide⟩
  have := (xor_zero_iff _ _).1 e
  have := posN_inj hb (show k < 72 by omega) (by rw [posN_bitAt h.2]; exact this)
  omega
theorem one_at {X : Nat} (h : One X) : synN (fixN X) = 0 ∧ parN (fixN X) = 0 := by
  have hb := bitAt_lt h.2
  unfold fixN
  rw [syn_flip X hb, par_flip X hb, h.1, posN_bitAt h.2, Nat.xor_self]
  exact ⟨rfl, by decide⟩
theorem none_any {X k : Nat} (h : parN X = 1) (h2 : ¬ synN X ≤ 71) (hk : k < 72) : synN (X ^^^ 2 ^ k) ≠ 0 ∧ parN (X ^^^ 2 ^ k) = 0 := by
  rw [syn_flip X hk, par_flip X hk, h]
  refine ⟨fun e => ?_, by decide⟩
  have := (xor_zero_iff _ _).1 e
  have := posN_le k
  omega

/-- How many of 3 to a are no power of two. -/
def npN (a : Nat) : Nat := (posL.take 64).countP (· ≤ a)
theorem np_all : ∀ a : Fin 72, (2 ≤ a.val → a.val < 71 → (((a.val + 1) &&& a.val = 0 → npN (a.val + 1) = npN a.val) ∧ ((a.val + 1) &&& a.val ≠ 0 → npN (a.val + 1) = npN a.val + 1 ∧ posN (npN a.val) = a.val + 1))) ∧ (npN a.val ≤ 63 → a.val < 71) := by decide +kernel
theorem np_two : npN 2 = 0 := by decide
theorem np_flat {a : Nat} (h : 2 ≤ a) (h2 : a < 71) (h3 : (a + 1) &&& a = 0) : npN (a + 1) = npN a := ((np_all ⟨a, by omega⟩).1 h h2).1 h3
theorem np_step {a : Nat} (h : 2 ≤ a) (h2 : a < 71) (h3 : (a + 1) &&& a ≠ 0) : npN (a + 1) = npN a + 1 ∧ posN (npN a) = a + 1 := ((np_all ⟨a, by omega⟩).1 h h2).2 h3
theorem np_end {a : Nat} (h : a ≤ 71) (h2 : npN a ≤ 63) : a < 71 := (np_all ⟨a, by omega⟩).2 h2
theorem pos_high_all : ∀ b : Fin 71, 64 ≤ b.val → posN b.val = 2 ^ (b.val - 64) := by decide +kernel
theorem pos_high {b : Nat} (h : 64 ≤ b) (h2 : b < 71) : posN b = 2 ^ (b - 64) := pos_high_all ⟨b, h2⟩ h

/-- The word's bits and the check byte's of a codeword. -/
def lo (X : Nat) : Nat := X % 2 ^ 64
def hi (X : Nat) : Nat := X / 2 ^ 64
theorem lo_lt (X : Nat) : lo X < 2 ^ 64 := Nat.mod_lt _ (by decide)
theorem hi_lt {X : Nat} (h : X < 2 ^ 72) : hi X < 256 := by unfold hi; omega
theorem lo_hi (X : Nat) : lo X + 2 ^ 64 * hi X = X := by unfold lo hi; omega
theorem lo_of {x : Nat} (c : Nat) (h : x < 2 ^ 64) : lo (x + 2 ^ 64 * c) = x := by unfold lo; omega
theorem hi_of {x : Nat} (c : Nat) (h : x < 2 ^ 64) : hi (x + 2 ^ 64 * c) = c := by unfold hi; omega
theorem bit_lo (X : Nat) {b : Nat} (h : b < 64) : X / 2 ^ b % 2 = lo X / 2 ^ b % 2 := by
  have h1 := Nat.testBit_two_pow_mul_add (hi X) (lo_lt X) b
  rw [Nat.add_comm, lo_hi, if_pos h, Nat.testBit_eq_decide_div_mod_eq, Nat.testBit_eq_decide_div_mod_eq] at h1
  have h2 := decide_eq_decide.1 h1
  omega
theorem bit_hi (X : Nat) {b : Nat} (h : 64 ≤ b) : X / 2 ^ b % 2 = hi X / 2 ^ (b - 64) % 2 := by
  unfold hi
  rw [Nat.div_div_eq_div_mul, ← Nat.pow_add, show 64 + (b - 64) = b by omega]
theorem flip_lt {X b : Nat} (h : X < 2 ^ 72) (hb : b < 72) : X ^^^ 2 ^ b < 2 ^ 72 := Nat.xor_lt_two_pow h (Nat.pow_lt_pow_right (by decide) hb)
theorem flip_lo (X : Nat) {b : Nat} (hb : b < 64) : lo (X ^^^ 2 ^ b) = lo X ^^^ 2 ^ b ∧ hi (X ^^^ 2 ^ b) = hi X := by
  obtain ⟨h1, h2⟩ := flip_low (c := hi X) (lo_lt X) hb
  rw [lo_hi] at h1
  rw [← h1, lo_of _ h2, hi_of _ h2]
  exact ⟨rfl, rfl⟩
theorem flip_hi {X b : Nat} (h : X < 2 ^ 72) (hb : 64 ≤ b) (hb2 : b < 72) : lo (X ^^^ 2 ^ b) = lo X ∧ hi (X ^^^ 2 ^ b) = hi X ^^^ 2 ^ (b - 64) := by
  obtain ⟨h1, _⟩ := flip_high (x := lo X) (lo_lt X) hb hb2 (hi_lt h)
  rw [lo_hi] at h1
  rw [← h1, lo_of _ (lo_lt X), hi_of _ (lo_lt X)]
  exact ⟨rfl, rfl⟩
end Go.Proofs.Yteigdjocjcjkiaa
/- Plain facts on data of several words. -/
namespace Go.Proofs.Yteigdjocjcjkiaa
open Go.RowKit

/-- Word k of a text. -/
def wd (s : ByteArray) (k : Nat) : ByteArray := s.extract (8 * k) (8 * k + 8)
def wdN (s : ByteArray) (k : Nat) : Nat := wordN (wd s k)
theorem wd_size {s : ByteArray} {k : Nat} (h : 8 * k + 8 ≤ s.size) : (wd s k).size = 8 := by
  unfold wd; rw [ByteArray.size_extract]; omega
theorem wd_wStr {s : ByteArray} {k : Nat} (h : 8 * k + 8 ≤ s.size) : wd s k = wStr (wdN s k) := (word_wStr (wd_size h)).symm
theorem wdN_lt (s : ByteArray) (k : Nat) : wdN s k < 2 ^ 64 := wordN_lt _
theorem byteAt_extract (s : ByteArray) (a b j : Nat) (h : a + j < b) : byteAt (s.extract a b) j = byteAt s (a + j) := by
  unfold byteAt
  rw [ByteArray.data_extract, Array.toList_extract, List.extract_eq_take_drop, List.getD_eq_getElem?_getD, List.getD_eq_getElem?_getD, List.getElem?_take, if_pos (by omega), List.getElem?_drop]
theorem wd_at (s : ByteArray) (k : Nat) {j : Nat} (hj : j < 8) : byteAt (wd s k) j = byteAt s (8 * k + j) := byteAt_extract s _ _ j (by omega)
/-- The check bytes of the first k words. -/
def chkL (s : ByteArray) : Nat → List Int
  | 0 => []
  | k + 1 => chkL s k ++ [((chkN (wdN s k) : Nat) : Int)]
theorem chkL_length (s : ByteArray) : ∀ k, (chkL s k).length = k
  | 0 => rfl
  | k + 1 => by simp [chkL, chkL_length s k]
theorem chkL_at (s : ByteArray) : ∀ n k, k < n → (chkL s n).getD k 0 = ((chkN (wdN s k) : Nat) : Int)
  | 0, k, h => by omega
  | n + 1, k, h => by
    have hl := chkL_length s n
    rw [chkL, List.getD_eq_getElem?_getD]
    by_cases hk : k < n
    · have := chkL_at s n k hk
      rw [List.getD_eq_getElem?_getD] at this
      rw [List.getElem?_append_left (by omega)]; exact this
    · obtain rfl : k = n := by omega
      rw [List.getElem?_append_right (by omega), hl, Nat.sub_self]; rfl
theorem chkL_ok (s : ByteArray) : ∀ n, ∀ x ∈ chkL s n, 0 ≤ x ∧ x < 256
  | 0, x, h => by cases h
  | n + 1, x, h => by
    rw [chkL, List.mem_append] at h
    rcases h with h | h
    · exact chkL_ok s n x h
    · simp at h; subst h
      have := chkN_lt (wdN s n); omega
/-- The number of word k and its check byte. -/
def cwX (s t : ByteArray) (k : Nat) : Nat := wdN s k + 2 ^ 64 * byteAt t k
theorem cwX_lt (s t : ByteArray) (k : Nat) : cwX s t k < 2 ^ 72 := by
  have h1 := wdN_lt s k
  have h2 := byteAt_lt t k
  unfold cwX; omega
theorem cwX_lo (s t : ByteArray) (k : Nat) : lo (cwX s t k) = wdN s k := lo_of _ (wdN_lt s k)
theorem cwX_hi (s t : ByteArray) (k : Nat) : hi (cwX s t k) = byteAt t k := hi_of _ (wdN_lt s k)
/-- Can it be decoded? Its word, how many bits are corrected. -/
def okX (X : Nat) : Prop := good X = true ∨ One X
def valX (X : Nat) : Nat := if good X then lo X else lo (fixN X)
def cntX (X : Nat) : Nat := if good X then 0 else 1
def outL (s t : ByteArray) : Nat → List Int
  | 0 => []
  | k + 1 => outL s t k ++ wL (valX (cwX s t k))
def totL (s t : ByteArray) : Nat → Nat
  | 0 => 0
  | k + 1 => totL s t k + cntX (cwX s t k)
theorem outL_length (s t : ByteArray) : ∀ k, (outL s t k).length = 8 * k
  | 0 => rfl
  | k + 1 => by rw [outL, List.length_append, outL_length s t k, wL_length]; omega
theorem totL_le (s t : ByteArray) : ∀ k, totL s t k ≤ k
  | 0 => Nat.le_refl _
  | k + 1 => by
    have := totL_le s t k
    have : cntX (cwX s t k) ≤ 1 := by unfold cntX; split <;> omega
    rw [totL]; omega
/-- The first word that can't be decoded, if there is one. -/
theorem first_bad (P : Nat → Prop) : ∀ n, ∃ m, m ≤ n ∧ (∀ k, k < m → P k) ∧ (m = n ∨ ¬ P m)
  | 0 => ⟨0, Nat.le_refl _, fun k h => by omega, .inl rfl⟩
  | n + 1 => by
    obtain ⟨m, h1, h2, h3⟩ := first_bad P n
    rcases h3 with h3 | h3
    · by_cases hp : P n
      · exact ⟨n + 1, Nat.le_refl _, fun k hk => if h : k = n then h ▸ hp else h2 k (by omega), .inl rfl⟩
      · exact ⟨n, by omega, fun k hk => h2 k (by omega), .inr hp⟩
    · exact ⟨m, by omega, h2, .inr h3⟩
end Go.Proofs.Yteigdjocjcjkiaa
/- What decoding a codeword answers. -/
namespace Go.Proofs.Yteigdjocjcjkiaa
open Go.RowKit

/-- What decoding answers: the word, how many bits were corrected, the code. -/
def Dec (X : Nat) (R : ByteArray) (n c : Int) : Prop :=
  (good X = true ∧ R = wStr (lo X) ∧ n = 0 ∧ c = 0) ∨ (good X = false ∧ One X ∧ R = wStr (lo (fixN X)) ∧ n = 1 ∧ c = 0) ∨ (good X = false ∧ ¬ One X ∧ R = ⟨#[]⟩ ∧ n = 0 ∧ c = 6)
theorem dec_total (X : Nat) : ∃ R n c, Dec X R n c := by
  by_cases h : good X = true
  · exact ⟨_, _, _, .inl ⟨h, rfl, rfl, rfl⟩⟩
  · have h' : good X = false := by simpa using h
    by_cases h2 : One X
    · exact ⟨_, _, _, .inr (.inl ⟨h', h2, rfl, rfl, rfl⟩)⟩
    · exact ⟨_, _, _, .inr (.inr ⟨h', h2, rfl, rfl, rfl⟩)⟩
/-- A word and a check byte, as one number. -/
theorem as_cw {s : ByteArray} {c : Int} (hs : s.size = 8) (h0 : 0 ≤ c) (h1 : c ≤ 255) : ∃ X, X < 2 ^ 72 ∧ s = wStr (lo X) ∧ c = (hi X : Nat) := by
  obtain ⟨k, rfl⟩ := Int.eq_ofNat_of_zero_le h0
  have hx := wordN_lt s
  refine ⟨wordN s + 2 ^ 64 * k, by omega, ?_, ?_⟩
  · rw [lo_of _ hx, word_wStr hs]
  · rw [hi_of _ hx]
end Go.Proofs.Yteigdjocjcjkiaa
/- Plain facts on counting the bits of 64 that are 1, in the library's way; its parity. -/
namespace Go.Proofs.Yteigdjocjcjkiaa
open Go.RowKit

/-- A function of each byte, on the first n bytes. -/
def bytewise (f : Nat → Nat) : Nat → Nat → Nat
  | 0, _ => 0
  | n + 1, x => f (x % 256) + 256 * bytewise f n (x / 256)
def rep (m : Nat) : Nat → Nat
  | 0 => 0
  | n + 1 => m + 256 * rep m n
theorem and_split (X m M : Nat) (hm : m < 256) : X &&& (m + 256 * M) = (X % 256 &&& m) + 256 * (X / 256 &&& M) := by
  have h1 : (X &&& (m + 256 * M)) % 256 = (X % 256) &&& ((m + 256 * M) % 256) := Nat.and_mod_two_pow (n := 8)
  have h2 : (X &&& (m + 256 * M)) / 256 = (X / 256) &&& ((m + 256 * M) / 256) := Nat.and_div_two_pow (n := 8)
  rw [show (m + 256 * M) % 256 = m by omega] at h1
  rw [show (m + 256 * M) / 256 = M by omega] at h2
  rw [← h1, ← h2]; omega
def pop1 (b : Nat) : Nat := (b / 2 &&& 85) + (b &&& 85)
def pop2 (b : Nat) : Nat := (b / 4 &&& 51) + (b &&& 51)
theorem pop1_all : ∀ (b : Fin 256) (e : Fin 2), ((b.val / 2 + 128 * e.val) &&& 85) + (b.val &&& 85) = pop1 b.val := by decide +kernel
theorem pop2_all : ∀ (b : Fin 256) (e : Fin 4), ((b.val / 4 + 64 * e.val) &&& 51) + (b.val &&& 51) = pop2 b.val := by decide +kernel
theorem popStep1 : ∀ n x, (x / 2 &&& rep 85 n) + (x &&& rep 85 n) = bytewise pop1 n x
  | 0, x => by simp [rep, bytewise]
  | n + 1, x => by
    have ih := popStep1 n (x / 256)
    have hb := pop1_all ⟨x % 256, by omega⟩ ⟨x / 256 % 2, by omega⟩
    simp only at hb
    rw [rep, and_split _ _ _ (by decide), and_split _ _ _ (by decide), bytewise, ← ih, ← hb, show x / 2 % 256 = x % 256 / 2 + 128 * (x / 256 % 2) by omega, show x / 2 / 256 = x / 256 / 2 by omega]
    omega
theorem popStep2 : ∀ n x, (x / 4 &&& rep 51 n) + (x &&& rep 51 n) = bytewise pop2 n x
  | 0, x => by simp [rep, bytewise]
  | n + 1, x => by
    have ih := popStep2 n (x / 256)
    have hb := pop2_all ⟨x % 256, by omega⟩ ⟨x / 256 % 4, by omega⟩
    simp only at hb
    rw [rep, and_split _ _ _ (by decide), and_split _ _ _ (by decide), bytewise, ← ih, ← hb, show x / 4 % 256 = x % 256 / 4 + 64 * (x / 256 % 4) by omega, show x / 4 / 256 = x / 256 / 4 by omega]
    omega
theorem bytewise_comp (f g : Nat → Nat) (h : ∀ b, b < 256 → f b < 256) : ∀ n x, bytewise g n (bytewise f n x) = bytewise (fun b => g (f b)) n x
  | 0, _ => rfl
  | n + 1, x => by
    have hb := h (x % 256) (by omega)
    rw [bytewise, bytewise, bytewise, show (f (x % 256) + 256 * bytewise f n (x / 256)) % 256 = f (x % 256) by omega, show (f (x % 256) + 256 * bytewise f n (x / 256)) / 256 = bytewise f n (x / 256) by omega, bytewise_comp f g h n]
theorem bytewise_congr {f g : Nat → Nat} (h : ∀ b, b < 256 → f b = g b) : ∀ n x, bytewise f n x = bytewise g n x
  | 0, _ => rfl
  | n + 1, x => by rw [bytewise, bytewise, h _ (by omega), bytewise_congr h n]
theorem bytewise_lt {f : Nat → Nat} (h : ∀ b, b < 256 → f b < 256) : ∀ n x, bytewise f n x < 256 ^ n
  | 0, _ => by simp [bytewise]
  | n + 1, x => by
    have := bytewise_lt h n (x / 256)
    have := h (x % 256) (by omega)
    rw [bytewise, Nat.pow_succ]; omega
def pop12 (b : Nat) : Nat := pop2 (pop1 b)
theorem pop1_lt_all : ∀ b : Fin 256, pop1 b.val < 256 := by decide +kernel
theorem pop12_all : ∀ b : Fin 256, pop12 b.val ≤ 68 ∧ pop12 b.val % 16 ≤ 4 := by decide +kernel
theorem pop12_ok {b : Nat} (h : b < 256) : pop12 b ≤ 68 ∧ pop12 b % 16 ≤ 4 := pop12_all ⟨b, h⟩
theorem low_nib (n x : Nat) : bytewise pop12 n x % 16 ≤ 4 := by
  cases n with
  | zero => simp [bytewise]
  | succ n =>
    have := pop12_ok (b := x % 256) (by omega)
    rw [bytewise]; omega
theorem and15 (x : Nat) : x &&& 15 = x % 16 := Nat.and_two_pow_sub_one_eq_mod x 4
theorem popStep3 : ∀ n x, (bytewise pop12 n x / 16 + bytewise pop12 n x) &&& rep 15 n = bytewise (fun b => (pop12 b / 16 + pop12 b) % 16) n x
  | 0, x => by simp [rep, bytewise]
  | n + 1, x => by
    have ih := popStep3 n (x / 256)
    have hb := pop12_ok (b := x % 256) (by omega)
    have hl := low_nib n (x / 256)
    rw [rep, and_split _ _ _ (by decide), bytewise, bytewise, ← ih, and15]
    generalize pop12 (x % 256) = b at *
    generalize bytewise pop12 n (x / 256) = y at *
    rw [show ((b + 256 * y) / 16 + (b + 256 * y)) / 256 = y / 16 + y by omega]
    omega

/-- The bits of x that are 1, of its lowest f ones. -/
def popF : Nat → Nat → Nat
  | 0, _ => 0
  | f + 1, x => x % 2 + popF f (x / 2)
theorem popF_le : ∀ f x, popF f x ≤ f
  | 0, _ => Nat.le_refl _
  | f + 1, x => by have := popF_le f (x / 2); rw [popF]; omega
theorem pop3_all : ∀ b : Fin 256, (pop12 b.val / 16 + pop12 b.val) % 16 = popF 8 b.val := by decide +kernel
theorem popF_add : ∀ a b x, popF (a + b) x = popF a x + popF b (x / 2 ^ a)
  | 0, b, x => by simp [popF]
  | a + 1, b, x => by
    have e : x / 2 / 2 ^ a = x / 2 ^ (a + 1) := by rw [Nat.div_div_eq_div_mul, Nat.pow_succ']
    rw [show a + 1 + b = (a + b) + 1 by omega, popF, popF, popF_add a b, e]
    omega
theorem popF_mod : ∀ a x, popF a (x % 2 ^ a) = popF a x
  | 0, _ => rfl
  | a + 1, x => by
    rw [popF, popF, ← popF_mod a (x / 2), show x % 2 ^ (a + 1) / 2 = x / 2 % 2 ^ a by
      rw [Nat.pow_succ', Nat.mod_mul_right_div_self], show x % 2 ^ (a + 1) % 2 = x % 2 by
      rw [Nat.pow_succ', Nat.mod_mul_right_mod]]
theorem acc_pop (x : Nat) : ∀ k, accN (fun _ => 1) x k = popF k x % 2
  | 0 => rfl
  | k + 1 => by
    have ih := acc_pop x k
    have hp := popF_add k 1 x
    have e1 : popF 1 (x / 2 ^ k) = x / 2 ^ k % 2 := by simp [popF]
    rw [e1] at hp
    by_cases h : x / 2 ^ k % 2 = 1
    · rw [accN_yes h, ih, hp, h]
      have := Nat.mod_two_eq_zero_or_one (popF k x)
      rcases this with e | e <;> rw [e] <;> simp <;> omega
    · rw [accN_no h, ih, hp]; omega
theorem par64_pop (x : Nat) : popF 64 x % 2 = par64 x := (acc_pop x 64).symm

/-- The bits that are 1, byte by byte. -/
def popBytes : Nat → Nat → Nat
  | 0, _ => 0
  | n + 1, x => popF 8 (x % 256) + popBytes n (x / 256)
theorem pop_bytes : ∀ n x, popF (8 * n) x = popBytes n x
  | 0, _ => rfl
  | n + 1, x => by rw [show 8 * (n + 1) = 8 + 8 * n by omega, popF_add, ← popF_mod 8 x, pop_bytes n, popBytes]
def popSum (y : Nat) : Nat :=
  let a := y + y / 256
  let b := a + a / 65536
  (b + b / 4294967296) % 128
theorem fold32 (q0 q1 q2 q3 q4 q5 q6 q7 : Nat) (h0 : q0 ≤ 32) (h1 : q1 ≤ 32) (h2 : q2 ≤ 32) (h3 : q3 ≤ 32) (h4 : q4 ≤ 32) :
    ((q0 + 256 * (q1 + 256 * (q2 + 256 * (q3 + 256 * (q4 + 256 * (q5 + 256 * (q6 + 256 * q7))))))) + (q0 + 256 * (q1 + 256 * (q2 + 256 * (q3 + 256 * (q4 + 256 * (q5 + 256 * (q6 + 256 * q7))))))) / 4294967296) % 128 = q0 + q4 := by
  have e : (q0 + 256 * (q1 + 256 * (q2 + 256 * (q3 + 256 * (q4 + 256 * (q5 + 256 * (q6 + 256 * q7))))))) / 4294967296 = q4 + 256 * (q5 + 256 * (q6 + 256 * q7)) := by omega
  rw [e]; omega
theorem shift8 (p0 p1 p2 p3 p4 p5 p6 p7 : Nat) (h0 : p0 ≤ 8) :
    (p0 + 256 * (p1 + 256 * (p2 + 256 * (p3 + 256 * (p4 + 256 * (p5 + 256 * (p6 + 256 * p7))))))) + (p0 + 256 * (p1 + 256 * (p2 + 256 * (p3 + 256 * (p4 + 256 * (p5 + 256 * (p6 + 256 * p7))))))) / 256
      = (p0 + p1) + 256 * ((p1 + p2) + 256 * ((p2 + p3) + 256 * ((p3 + p4) + 256 * ((p4 + p5) + 256 * ((p5 + p6) + 256 * ((p6 + p7) + 256 * p7)))))) := by
  have e : (p0 + 256 * (p1 + 256 * (p2 + 256 * (p3 + 256 * (p4 + 256 * (p5 + 256 * (p6 + 256 * p7))))))) / 256 = p1 + 256 * (p2 + 256 * (p3 + 256 * (p4 + 256 * (p5 + 256 * (p6 + 256 * p7))))) := by omega
  rw [e]; omega
theorem shift16 (p0 p1 p2 p3 p4 p5 p6 p7 : Nat) (h0 : p0 ≤ 16) (h1 : p1 ≤ 16) :
    (p0 + 256 * (p1 + 256 * (p2 + 256 * (p3 + 256 * (p4 + 256 * (p5 + 256 * (p6 + 256 * p7))))))) + (p0 + 256 * (p1 + 256 * (p2 + 256 * (p3 + 256 * (p4 + 256 * (p5 + 256 * (p6 + 256 * p7))))))) / 65536
      = (p0 + p2) + 256 * ((p1 + p3) + 256 * ((p2 + p4) + 256 * ((p3 + p5) + 256 * ((p4 + p6) + 256 * ((p5 + p7) + 256 * (p6 + 256 * p7)))))) := by
  have e : (p0 + 256 * (p1 + 256 * (p2 + 256 * (p3 + 256 * (p4 + 256 * (p5 + 256 * (p6 + 256 * p7))))))) / 65536 = p2 + 256 * (p3 + 256 * (p4 + 256 * (p5 + 256 * (p6 + 256 * p7)))) := by omega
  rw [e]; omega
theorem popSum_eq (p0 p1 p2 p3 p4 p5 p6 p7 : Nat) (h0 : p0 ≤ 8) (h1 : p1 ≤ 8) (h2 : p2 ≤ 8) (h3 : p3 ≤ 8) (h4 : p4 ≤ 8) (h5 : p5 ≤ 8) (h6 : p6 ≤ 8) (h7 : p7 ≤ 8) :
    popSum (p0 + 256 * (p1 + 256 * (p2 + 256 * (p3 + 256 * (p4 + 256 * (p5 + 256 * (p6 + 256 * p7))))))) = p0 + p1 + p2 + p3 + p4 + p5 + p6 + p7 := by
  unfold popSum
  simp only [shift8 p0 p1 p2 p3 p4 p5 p6 p7 h0]
  rw [shift16 _ _ _ _ _ _ _ _ (by omega) (by omega), fold32 _ _ _ _ _ _ _ _ (by omega) (by omega) (by omega) (by omega) (by omega)]
  omega
theorem bytewise_le {f : Nat → Nat} {m : Nat} (h : ∀ b, b < 256 → f b ≤ m) : ∀ n x, bytewise f n x ≤ rep m n
  | 0, _ => Nat.le_refl _
  | n + 1, x => by
    have := bytewise_le h n (x / 256)
    have := h (x % 256) (by omega)
    rw [bytewise, rep]; omega
/-- The library's count. -/
theorem pop_word (x : Nat) :
    let a := (x / 2 &&& 6148914691236517205) + (x &&& 6148914691236517205)
    let b := (a / 4 &&& 3689348814741910323) + (a &&& 3689348814741910323)
    a < 2 ^ 64 ∧ b < 2 ^ 64 ∧ b / 16 + b < 2 ^ 64 ∧ (b / 16 + b) &&& 1085102592571150095 ≤ 578721382704613384 ∧ popSum ((b / 16 + b) &&& 1085102592571150095) = popF 64 x := by
  have m1 : rep 85 8 = 6148914691236517205 := by decide
  have m2 : rep 51 8 = 3689348814741910323 := by decide
  have m3 : rep 15 8 = 1085102592571150095 := by decide
  have s1 := popStep1 8 x
  rw [m1] at s1
  have s2 := popStep2 8 (bytewise pop1 8 x)
  rw [m2, bytewise_comp pop1 pop2 (fun b hb => pop1_lt_all ⟨b, hb⟩)] at s2
  have s3 := popStep3 8 x
  rw [m3, bytewise_congr (f := fun b => (pop12 b / 16 + pop12 b) % 16) (g := popF 8) (fun b hb => pop3_all ⟨b, hb⟩)] at s3
  have l1 := bytewise_lt (f := pop1) (fun b hb => pop1_lt_all ⟨b, hb⟩) 8 x
  have l2 := bytewise_lt (f := pop12) (fun b hb => by have := (pop12_ok hb).1; omega) 8 x
  rw [show (256 : Nat) ^ 8 = 2 ^ 64 by decide] at l1 l2
  simp only [s1]
  have s2' : (bytewise pop1 8 x / 4 &&& 3689348814741910323) + (bytewise pop1 8 x &&& 3689348814741910323) = bytewise pop12 8 x := s2
  simp only [s2', s3]
  have e : bytewise (popF 8) 8 x = popF 8 (x % 256) + 256 * (popF 8 (x / 256 % 256) + 256 * (popF 8 (x / 65536 % 256) + 256 * (popF 8 (x / 16777216 % 256) + 256 * (popF 8 (x / 4294967296 % 256) + 256 * (popF 8 (x / 1099511627776 % 256) + 256 * (popF 8 (x / 281474976710656 % 256) + 256 * popF 8 (x / 72057594037927936 % 256))))))) := by
    simp only [bytewise, Nat.div_div_eq_div_mul, Nat.mul_zero, Nat.add_zero]
  refine ⟨l1, l2, ?_, ?_, ?_⟩
  · have b8 := bytewise_le (f := pop12) (fun b hb => (pop12_ok hb).1) 8 x
    rw [show rep 68 8 = 4919131752989213764 by decide] at b8
    omega
  · have b8 := bytewise_le (f := popF 8) (fun b _ => popF_le 8 b) 8 x
    rw [show rep 8 8 = 578721382704613384 by decide] at b8
    exact b8
  · rw [e, popSum_eq _ _ _ _ _ _ _ _ (popF_le 8 _) (popF_le 8 _) (popF_le 8 _) (popF_le 8 _) (popF_le 8 _) (popF_le 8 _) (popF_le 8 _) (popF_le 8 _), show (64 : Nat) = 8 * 8 by decide, pop_bytes]
    simp only [popBytes, Nat.div_div_eq_div_mul, Nat.reduceMul]
    omega
end Go.Proofs.Yteigdjocjcjkiaa
/- The library's count of the bits of 64 that are 1: its parity. -/
namespace Go.Proofs.Yteigdjocjcjkiaa
open Go.RowKit

theorem wrap_u64_nat (a : Nat) (h : a < 2 ^ 64) : IntKind.u64.wrap (a : Int) = a := by rw [IntKind.wrap_u64]; omega
theorem ofInt_u64 (a : Nat) (h : a < 2 ^ 64) : (BitVec.ofInt 64 (a : Int)).toNat = a := by
  rw [BitVec.ofInt_natCast, BitVec.toNat_ofNat]; exact Nat.mod_eq_of_lt h
theorem u64_and_nat' (a b : Nat) (ha : a < 2 ^ 64) (hb : b < 2 ^ 64) : bits .and .u64 (a : Int) (b : Int) = ((a &&& b : Nat) : Int) := by
  have hx : a &&& b < 2 ^ 64 := Nat.and_lt_two_pow _ hb
  show IntKind.u64.wrap ((BitVec.ofInt 64 (a : Int) &&& BitVec.ofInt 64 (b : Int)).toNat : Int) = _
  rw [BitVec.toNat_and, ofInt_u64 a ha, ofInt_u64 b hb, wrap_u64_nat _ hx]
theorem u64_xor_nat' (a b : Nat) (ha : a < 2 ^ 64) (hb : b < 2 ^ 64) : bits .xor .u64 (a : Int) (b : Int) = ((a ^^^ b : Nat) : Int) := by
  have hx : a ^^^ b < 2 ^ 64 := Nat.xor_lt_two_pow ha hb
  show IntKind.u64.wrap ((BitVec.ofInt 64 (a : Int) ^^^ BitVec.ofInt 64 (b : Int)).toNat : Int) = _
  rw [BitVec.toNat_xor, ofInt_u64 a ha, ofInt_u64 b hb, wrap_u64_nat _ hx]
def popI (x : Int) : Int :=
  let a := IntKind.u64.wrap (bits .and .u64 (x / 2) 6148914691236517205 + bits .and .u64 x 6148914691236517205)
  let b := IntKind.u64.wrap (bits .and .u64 (a / 4) 3689348814741910323 + bits .and .u64 a 3689348814741910323)
  let c := bits .and .u64 (IntKind.u64.wrap (b / 16 + b)) 1085102592571150095
  let d := IntKind.u64.wrap (c + c / 256)
  let e := IntKind.u64.wrap (d + d / 65536)
  let f := IntKind.u64.wrap (e + e / 4294967296)
  bits .and .i64 (wrap64 f) 127
theorem and127 (a : Nat) (h : a < 2 ^ 63) : bits .and .i64 (a : Int) 127 = ((a % 128 : Nat) : Int) := by
  have := i64_and_nat a 127 h (by omega)
  rw [show (127 : Nat) = 2 ^ 7 - 1 from rfl, Nat.and_two_pow_sub_one_eq_mod] at this
  exact this
theorem and_u64_lit (a m : Nat) (ha : a < 2 ^ 64) (hm : m < 2 ^ 64) (M : Int) (hM : M = (m : Int)) : bits .and .u64 (a : Int) M = ((a &&& m : Nat) : Int) := by
  rw [hM]; exact u64_and_nat' a m ha hm
theorem popI_eq (x : Nat) (h : x < 2 ^ 64) : popI (x : Int) = ((popF 64 x : Nat) : Int) := by
  obtain ⟨h1, h2, h3, h4, h5⟩ := pop_word x
  have a1 := and_u64_lit (x / 2) 6148914691236517205 (by omega) (by omega) 6148914691236517205 rfl
  have a2 := and_u64_lit x 6148914691236517205 h (by omega) 6148914691236517205 rfl
  rw [Int.natCast_ediv] at a1
  unfold popI
  simp only [show ((x : Int) / 2) = (x : Int) / ((2 : Nat) : Int) from rfl, a1, a2]
  generalize hA : (x / 2 &&& 6148914691236517205) + (x &&& 6148914691236517205) = A at *
  rw [← Int.natCast_add, hA, wrap_u64_nat A h1]
  have b1 := and_u64_lit (A / 4) 3689348814741910323 (by omega) (by omega) 3689348814741910323 rfl
  have b2 := and_u64_lit A 3689348814741910323 h1 (by omega) 3689348814741910323 rfl
  rw [Int.natCast_ediv] at b1
  simp only [show ((A : Int) / 4) = (A : Int) / ((4 : Nat) : Int) from rfl, b1, b2]
  generalize hB : (A / 4 &&& 3689348814741910323) + (A &&& 3689348814741910323) = B at *
  rw [← Int.natCast_add, hB, wrap_u64_nat B h2]
  have c1 := and_u64_lit (B / 16 + B) 1085102592571150095 h3 (by omega) 1085102592571150095 rfl
  have e1 : ((B : Int) / 16 + (B : Int)) = ((B / 16 + B : Nat) : Int) := by omega
  simp only [e1, wrap_u64_nat _ h3, c1]
  generalize hC : (B / 16 + B) &&& 1085102592571150095 = C at *
  have e2 : ((C : Int) + (C : Int) / 256) = ((C + C / 256 : Nat) : Int) := by omega
  simp only [e2, wrap_u64_nat (C + C / 256) (by omega)]
  generalize hD : C + C / 256 = D at *
  have e3 : ((D : Int) + (D : Int) / 65536) = ((D + D / 65536 : Nat) : Int) := by omega
  simp only [e3, wrap_u64_nat (D + D / 65536) (by omega)]
  generalize hE : D + D / 65536 = E at *
  have e4 : ((E : Int) + (E : Int) / 4294967296) = ((E + E / 4294967296 : Nat) : Int) := by omega
  simp only [e4, wrap_u64_nat (E + E / 4294967296) (by omega)]
  rw [IntWalk.wrap64_in _ (by omega), and127 _ (by omega), ← h5]
  subst hE; subst hD; rfl
end Go.Proofs.Yteigdjocjcjkiaa
/- EncodeFixed, in the model and in the program: their contracts. -/
namespace Go.Proofs.Yteigdjocjcjkiaa
open Go.RowKit


theorem set_at_end (l : List Int) (n k : Nat) (b : Int) (h : l.length = k) (hk : k < n) : (l ++ List.replicate (n - k) 0).set k b = (l ++ [b]) ++ List.replicate (n - (k + 1)) 0 := by
  rw [List.set_append_right _ _ (by omega), h, Nat.sub_self, show n - k = (n - (k + 1)) + 1 by omega, List.replicate_succ, List.set_cons_zero, List.append_assoc]; rfl
theorem div_next (n : Int) (k : Nat) : n / 2 ^ (8 * k) / 256 = n / 2 ^ (8 * (k + 1)) := by
  have h : (0 : Int) ≤ 2 ^ (8 * k) := Int.pow_nonneg (by decide)
  rw [Int.ediv_ediv_of_nonneg h, show 8 * (k + 1) = 8 * k + 8 by omega, Int.pow_add]; rfl

end Go.Proofs.Yteigdjocjcjkiaa
/- Error correction in the program: making a codeword, its text, a bit inverted, the correction. -/
namespace Go.Proofs.Yteigdjocjcjkiaa
open Go.RowKit

theorem u64_back (x : Nat) (hx : x < 2 ^ 64) : IntKind.u64.wrap (wrap64 (x : Int)) = (x : Int) := by
  rw [IntKind.wrap_u64]; unfold wrap64; omega
def cw (X : Nat) : Array Value := #[.int .u64 (lo X : Nat), .int .u8 (hi X : Nat)]
def OfPost (cs : Array Value) (b : Bool) (w : World) (e : Ending) (w' : World) : Prop := e = .returned (.tuple #[.agg cs, .bool b]) ∧ Below w.heap.size w w'
theorem heap_new2 (w : World) (a o : Obj) : ((w.alloc a).alloc o).heap[w.heap.size + 1]? = some o := by
  have := heap_alloc_new (w.alloc a) o
  simp only [World.size_alloc] at this
  exact this
/-- Block g is a row of the cells cs, none frozen. -/
def Row (w : World) (g : Nat) (t : TypeId) (cs : Array Value) : Prop := w.heap[g]? = some (.cells cs t (0, 0))
section
variable {w w' : World} {g B : Nat} {t : TypeId} {cs : Array Value}
theorem Row.lt (h : Row w g t cs) : g < w.heap.size := by
  rcases Nat.lt_or_ge g w.heap.size with hlt | hge
  · exact hlt
  · unfold Row at h; rw [Array.getElem?_eq_none hge] at h; cases h
theorem Row.cell (h : Row w g t cs) (j : Nat) : w.cell? ⟨g, j, none⟩ = cs[j]? := cell_of_row w g j _ t (0, 0) h
theorem Row.free (h : Row w g t cs) (j : Nat) : w.frozen? ⟨g, j, none⟩ = false := frozen_of_row w g j _ t h
theorem Row.below (h : Row w g t cs) (hb : Below B w w') (hg : g < B) : Row w' g t cs := (hb.block g hg).trans h
theorem Row.set_ (h : Row w g t cs) (j : Nat) (u : Value) : Row (w.setCell ⟨g, j, none⟩ u) g t (cs.setIfInBounds j u) := by
  unfold Row at h ⊢; exact heap_setCell_same w g j _ t _ h
theorem Row.far (h : Row w g t cs) {p : Addr} (hp : g ≠ p.block) (u : Value) : Row (w.setCell p u) g t cs := (Below.heap_setCell w p u g hp).trans h
theorem Row.alloc (h : Row w g t cs) (o : Obj) : Row (w.alloc o) g t cs := (Below.heap_alloc w o g h.lt).trans h
end
theorem Row.range {w : World} {g : Nat} {t : TypeId} {cs : Array Value} (h : Row w g t cs) : w.rangeAt g 0 cs.toList := by
  intro j v hv
  rw [Nat.zero_add, h.cell j]
  simpa using hv
theorem range_new (w : World) (cs : Array Value) (t : TypeId) : (w.alloc (.cells cs t)).rangeAt w.heap.size 0 cs.toList := by
  intro j v hv
  rw [World.cell?_alloc_new]
  simpa using hv
theorem range_below {w w' : World} {g o B : Nat} {l : List Value} (h : w.rangeAt g o l) (hb : Below B w w') (hg : g < B) : w'.rangeAt g o l := by
  intro j u hu
  exact (hb.cell (p := ⟨g, o + j, none⟩) hg).trans (h j u hu)
end Go.Proofs.Yteigdjocjcjkiaa
/- A package-level table: its cells, in this world and in later ones. -/
namespace Go.Proofs.Yteigdjocjcjkiaa
open Go.RowKit

/-- Block g holds the integers L of kind k. -/
def Tab (w : World) (g : Nat) (k : IntKind) (L : List Int) : Prop := (∀ j, j < L.length → w.cell? ⟨g, j, none⟩ = some (.int k (L.getD j 0))) ∧ g < w.heap.size
theorem Tab.below {w w' : World} {g B : Nat} {k : IntKind} {L : List Int} (h : Tab w g k L) (hb : Below B w w') (hB : w.heap.size ≤ B) : Tab w' g k L :=
  ⟨fun j hj => (hb.cell (p := ⟨g, j, none⟩) (Nat.lt_of_lt_of_le h.2 hB)).trans (h.1 j hj), by have := hb.size; have := h.2; omega⟩
theorem var_lt {P : Program} {W : World} {name : String} {g : Nat} {cs : Array Value} (hg : P.globalNamed name = some g) (h : W.var? P name = some cs) : g < W.heap.size := by
  unfold World.var? at h
  rw [hg] at h
  rcases Nat.lt_or_ge g W.heap.size with hlt | hge
  · exact hlt
  · simp only [Option.bind_some] at h
    rw [Array.getElem?_eq_none hge] at h; cases h
theorem var_below {P : Program} {W W' : World} {B : Nat} {name : String} {g : Nat} {cs : Array Value} (hg : P.globalNamed name = some g) (h : W.var? P name = some cs) (hb : Below B W W') (hlt : g < B) : W'.var? P name = some cs := by
  unfold World.var? at h ⊢
  rw [hg] at h ⊢
  simp only [Option.bind_some] at h ⊢
  rw [hb.block g hlt]
  exact h
end Go.Proofs.Yteigdjocjcjkiaa
/- Error correction in the program: parities and syndromes of a codeword. The table of masks is a hypothesis on its cells. -/
namespace Go.Proofs.Yteigdjocjcjkiaa
open Go.RowKit

def maskI : List Int := [12345867778520690011, 14815041334224828013, 17429460393205680014, 143554428622604272, 144112989119707136, 144115188008747008, 18302628885633695744]
theorem maskI_eq : maskL.map (fun (m : Nat) => (m : Int)) = maskI := by decide
theorem size64 (w : World) : (sizeOf 101).run Try.prog w = .ok 1 w := by kernel_rfl
theorem mask_at (k : Nat) (hk : k < 7) : (maskL.map fun (m : Nat) => Value.int .u64 m)[k]? = some (.int .u64 (maskN k : Nat)) := by
  rw [List.getElem?_map]
  unfold maskN
  rw [List.getD_eq_getElem?_getD]
  have : k < maskL.length := hk
  rw [List.getElem?_eq_getElem this]; rfl
theorem and127_lo (c : Nat) (h : c < 256) : bits .and .i64 (c : Int) 127 = ((c % 128 : Nat) : Int) := and127 c (by omega)
theorem range_part {w : World} {g : Nat} {a b : Value} (h : w.rangeAt g 0 [a, b]) : w.rangeAt g 0 [a] ∧ w.rangeAt g 1 [b] := by
  refine ⟨fun j v hv => ?_, fun j v hv => ?_⟩
  · match j, hv with
    | 0, hv => exact h 0 v hv
  · match j, hv with
    | 0, hv => exact h 1 v hv
end Go.Proofs.Yteigdjocjcjkiaa
/- Error correction in the program: the correction of a single error. -/
namespace Go.Proofs.Yteigdjocjcjkiaa
open Go.RowKit

theorem pow_all : ∀ p : Fin 72, (p.val &&& (p.val - 1) = 0 → 64 ≤ bitAt p.val) ∧ (p.val &&& (p.val - 1) ≠ 0 → bitAt p.val < 64 ∧ bitAt p.val + Lib.bitLen p.val + 1 = p.val ∧ 1 ≤ p.val) := by decide +kernel
def CorPost (R : Nat) (w : World) (e : Ending) (w' : World) : Prop := ∃ Y, e = .returned (.agg (cw Y)) ∧ lo Y = R ∧ Below w.heap.size w w'
end Go.Proofs.Yteigdjocjcjkiaa
/- Error correction in the program: check bytes, syndromes and decoding: the contracts. The table of masks is a hypothesis on its cells. -/
namespace Go.Proofs.Yteigdjocjcjkiaa
open Go.RowKit

theorem cw_of {x : Nat} (c : Nat) (hx : x < 2 ^ 64) : cw (x + 2 ^ 64 * c) = #[.int .u64 x, .int .u8 c] := by
  unfold cw; rw [lo_of _ hx, hi_of _ hx]
end Go.Proofs.Yteigdjocjcjkiaa
/- Error correction in the model: the contracts of its parts. -/
namespace Go.Proofs.Yteigdjocjcjkiaa
open Go.RowKit

theorem shr_and (x r : Nat) (h : x < 2 ^ 63) : bits .and .i64 ((x : Int) / 2 ^ r) 1 = ((x / 2 ^ r % 2 : Nat) : Int) := by
  have h1 := and1_i64 (x / 2 ^ r) (Nat.lt_of_le_of_lt (Nat.div_le_self _ _) h)
  rw [Int.natCast_ediv, Int.natCast_pow] at h1
  exact h1
theorem l03Bit_low (s : ByteArray) (c : Int) (b : Nat) (w : World) (hs : s.size = 8) (hb : b < 64) :
    Calls Try.prog 120 #[.string s, .int .i64 c, .int .i64 b] w fun e w' => e = .returned (.int .i64 ((wordN s / 2 ^ b % 2 : Nat) : Int)) ∧ w = w' := by
  have hlt : b / 8 < s.size := by omega
  have hI : (b : Int) < 64 := by omega
  have hI2 : (b : Int) / 8 < (s.size : Int) := by omega
  have hl := byteAt_le s (b / 8)
  have HW : Hid (bits .and .i64 (wrap64 ((s[b / 8].toNat : Int) / 2 ^ (b % 8))) 1 = ((wordN s / 2 ^ b % 2 : Nat) : Int)) := by
    show _ = _
    have hd : byteAt s (b / 8) / 2 ^ (b % 8) ≤ byteAt s (b / 8) := Nat.div_le_self _ _
    have e : ((byteAt s (b / 8) : Nat) : Int) / 2 ^ (b % 8) = ((byteAt s (b / 8) / 2 ^ (b % 8) : Nat) : Int) := by rw [Int.natCast_ediv, Int.natCast_pow]; rfl
    rw [wordN_bit s hb, byteAt_eq hlt, e]
    generalize byteAt s (b / 8) / 2 ^ (b % 8) = q at *
    rw [IntWalk.wrap64_in _ (by omega), and1_i64 _ (by omega)]
  clear hs
  go_enter Try.func120, Try.ntmps120
  go_wp2
  go_ret
  exact ⟨ret_int HW.out, rfl⟩
theorem l03Bit_high (s : ByteArray) (c b : Nat) (w : World) (hc : c < 256) (hb : 64 ≤ b) (hb2 : b < 72) :
    Calls Try.prog 120 #[.string s, .int .i64 c, .int .i64 b] w fun e w' => e = .returned (.int .i64 ((c / 2 ^ (b - 64) % 2 : Nat) : Int)) ∧ w = w' := by
  have hI : (64 : Int) ≤ (b : Int) := by omega
  have hI2 : (b : Int) < 72 := by omega
  have hI3 : (c : Int) < 256 := by omega
  have HE := Lib.hid (shr_and c (b - 64) (by omega))
  go_enter Try.func120, Try.ntmps120
  go_wp2
  go_ret
  exact ⟨ret_int HE.out, rfl⟩
theorem l03Bit_any (X b : Nat) (w : World) (hX : X < 2 ^ 72) (hb : b < 72) :
    Calls Try.prog 120 #[.string (wStr (lo X)), .int .i64 (hi X : Nat), .int .i64 b] w fun e w' => e = .returned (.int .i64 ((X / 2 ^ b % 2 : Nat) : Int)) ∧ w = w' := by
  by_cases h : b < 64
  · refine (l03Bit_low _ _ b w (wStr_size _) h).mono ?_
    rintro e w' ⟨rfl, rfl⟩
    exact ⟨ret_int (by rw [wStr_word (lo_lt X), bit_lo X h]), rfl⟩
  · refine (l03Bit_high _ _ b w (hi_lt hX) (by omega) hb).mono ?_
    rintro e w' ⟨rfl, rfl⟩
    exact ⟨ret_int (by rw [bit_hi X (by omega)]), rfl⟩

theorem l03Position_high (b : Nat) (w : World) (hb : 64 ≤ b) (hb2 : b < 71) :
    Calls Try.prog 121 #[.int .i64 b] w fun e w' => e = .returned (.int .i64 (posN b : Nat)) ∧ w = w' := by
  have hI : (64 : Int) ≤ (b : Int) := by omega
  have hI2 : (b : Int) < 71 := by omega
  have HP : Hid (wrap64 (2 ^ (b - 64)) = ((posN b : Nat) : Int)) := by
    show _ = _
    have := posN_le b
    have e : ((2 : Int) ^ (b - 64)) = ((posN b : Nat) : Int) := by rw [pos_high hb hb2, Int.natCast_pow]; rfl
    rw [e, IntWalk.wrap64_in _ (by omega)]
  go_enter Try.func121, Try.ntmps121
  go_wp2
  go_ret
  exact ⟨ret_int HP.out, rfl⟩
theorem l03Position_low (b : Nat) (w : World) (hb : b < 64) :
    Calls Try.prog 121 #[.int .i64 b] w fun e w' => e = .returned (.int .i64 (posN b : Nat)) ∧ w = w' := by
  have hI : (b : Int) < 64 := by omega
  go_enter Try.func121, Try.ntmps121
  go_wp2
  go_loop [3, 4] (fun t i => ∃ a n : Nat, 2 ≤ a ∧ a ≤ 71 ∧ t = .int .i64 a ∧ i = .int .i64 ((n : Int) - 1) ∧ npN a = n ∧ n ≤ b + 1 ∧ (n = b + 1 → a = posN b)) (fun t _ => 71 - (intOf t).toNat)
  case atStart => exact ⟨2, 0, by omega, by omega, rfl, rfl, np_two, by omega, fun h => by omega⟩
  case round =>
    obtain ⟨a, n, ha, ha2, rfl, rfl, hn, hnb, he⟩ := hrel
    by_cases hlt : n < b + 1
    · have ha3 := np_end ha2 (by omega)
      have hand := i64_and_nat (a + 1) a (by omega) (by omega)
      have hsub : ((a : Int) + 1) - 1 = (a : Int) := by omega
      by_cases hz : (a + 1) &&& a = 0
      · have HF := Lib.hid (np_flat ha ha3 hz)
        have hb1 : (bits .and .i64 ((a : Int) + 1) (a : Int) != 0) = false := by
          rw [hz] at hand; rw [show ((a + 1 : Nat) : Int) = (a : Int) + 1 from rfl] at hand; rw [hand]; rfl
        have HN := Lib.hid hn
        clear hand hz hn he
        go_wp2
        go_round
        case rel => exact ⟨a + 1, n, by omega, by omega, by go_num, rfl, by rw [HF.out, HN.out], hnb, fun h => by omega⟩
        case measure => simp [intOf]; omega
      · have HF := Lib.hid (np_step ha ha3 hz)
        have hb1 : (bits .and .i64 ((a : Int) + 1) (a : Int) != 0) = true := by
          rw [show ((a + 1 : Nat) : Int) = (a : Int) + 1 from rfl] at hand; rw [hand]; simp; omega
        have HN := Lib.hid hn
        clear hand hz hn he
        go_wp2
        go_round
        case rel => exact ⟨a + 1, n + 1, by omega, by omega, by go_num, by go_num, by rw [HF.out.1, HN.out], by omega, fun h => by have := HF.out.2; rw [HN.out] at this; rw [← this]; congr 1; omega⟩
        case measure => simp [intOf]; omega
    · have hE := he (by omega)
      obtain rfl : n = b + 1 := by omega
      have HE := Lib.hid hE
      clear hE hn he
      go_wp2
      go_ret
      exact ⟨ret_int (by rw [HE.out]), rfl⟩
theorem l03Position_any (b : Nat) (w : World) (hb : b < 71) :
    Calls Try.prog 121 #[.int .i64 b] w fun e w' => e = .returned (.int .i64 (posN b : Nat)) ∧ w = w' := by
  by_cases h : b < 64
  · exact l03Position_low b w h
  · exact l03Position_high b w (by omega) hb
theorem pos_last : posN 71 = 0 := by decide

def SynPost (X : Nat) (w : World) (e : Ending) (w' : World) : Prop := e = .returned (.tuple #[.int .i64 (synN X : Nat), .int .i64 (parN X : Nat)]) ∧ w = w'
theorem l03Syndrome_any (X : Nat) (w : World) (hX : X < 2 ^ 72) :
    Calls Try.prog 119 #[.string (wStr (lo X)), .int .i64 (hi X : Nat)] w (SynPost X w) := by
  have HB := Lib.hid (fun (k : Nat) (W : World) (hk : k < 72) => l03Bit_any X k W hX hk)
  obtain ⟨s, hs⟩ : ∃ s, s = wStr (lo X) := ⟨_, rfl⟩
  obtain ⟨c, hc⟩ : ∃ c, c = hi X := ⟨_, rfl⟩
  rw [← hs, ← hc] at HB ⊢
  clear hs hc
  go_enter Try.func119, Try.ntmps119
  go_wp2
  go_loop [6, 7, 8] (fun u v i => ∃ k : Nat, k ≤ 72 ∧ i = .int .i64 k ∧ u = .int .i64 (accN posN X k : Nat) ∧ v = .int .i64 (accN (fun _ => 1) X k : Nat)) (fun _ _ i => 72 - (intOf i).toNat)
  case atStart => exact ⟨0, by omega, rfl, rfl, rfl⟩
  case round =>
    obtain ⟨k, hk, rfl, rfl, rfl⟩ := hrel
    by_cases hlt : k < 72
    · have hu : accN posN X k < 2 ^ 7 := accN_lt (n := 7) (fun b => by have := posN_le b; omega) X k
      have hv : accN (fun _ => 1) X k < 2 ^ 1 := accN_lt (n := 1) (fun b => by omega) X k
      by_cases hbit : X / 2 ^ k % 2 = 1
      · have hB := fun (W : World) => HB.out k W hlt
        rw [hbit] at hB
        have HB1 := Lib.hid hB
        have HA := Lib.hid (accN_yes (p := posN) hbit)
        have HV := Lib.hid (accN_yes (p := fun _ => 1) hbit)
        clear hB hbit
        have HXV := Lib.hid (i64_xor_nat (accN (fun _ => 1) X k) 1 (by omega) (by omega))
        by_cases h71 : k < 71
        · have hp := posN_le k
          have HXU := Lib.hid (i64_xor_nat (accN posN X k) (posN k) (by omega) (by omega))
          clear hp hu hv
          go_wp2_with (first
            | (go_at_call 120; refine (HB1.out _).mono ?_; rintro e w' ⟨rfl, rfl⟩)
            | (go_at_call 121; refine (l03Position_any k _ h71).mono ?_; rintro e w' ⟨rfl, rfl⟩))
          go_round
          case rel => exact ⟨k + 1, by omega, by go_num, by rw [HA.out, ← HXU.out], by rw [HV.out, ← HXV.out]; rfl⟩
          case measure => simp [intOf]; omega
        · obtain rfl : k = 71 := by omega
          clear hu hv
          go_wp2_with (go_at_call 120; refine (HB1.out _).mono ?_; rintro e w' ⟨rfl, rfl⟩)
          go_round
          case rel => exact ⟨72, by omega, by go_num, by rw [HA.out, pos_last, Nat.xor_zero], by rw [HV.out, ← HXV.out]; rfl⟩
          case measure => simp [intOf]
      · have hB := fun (W : World) => HB.out k W hlt
        rw [show X / 2 ^ k % 2 = 0 by omega] at hB
        have HB1 := Lib.hid hB
        have HA := Lib.hid (accN_no (p := posN) hbit)
        have HV := Lib.hid (accN_no (p := fun _ => 1) hbit)
        clear hB hbit hu hv
        go_wp2_with (go_at_call 120; refine (HB1.out _).mono ?_; rintro e w' ⟨rfl, rfl⟩)
        go_round
        case rel => exact ⟨k + 1, by omega, by go_num, by rw [HA.out], by rw [HV.out]⟩
        case measure => simp [intOf]; omega
    · obtain rfl : k = 72 := by omega
      go_wp2
      go_ret2
      exact ⟨rfl, rfl⟩
end Go.Proofs.Yteigdjocjcjkiaa
/- A bit of a codeword inverted, in the model; valid words: the contracts. -/
namespace Go.Proofs.Yteigdjocjcjkiaa
open Go.RowKit

theorem nums_wStr (x : Nat) : ((wStr x).data.toList.map fun b => (b.toNat : Int)) = wL x := by
  apply List.ext_getElem
  · have := wStr_size x
    simp only [List.length_map, wL_length]
    simpa using this
  · intro k h1 h2
    have h2' : k < 8 := by rw [wL_length] at h2; exact h2
    have e1 := wStr_at x h2'
    have e2 := wL_at x h2'
    rw [List.getD_eq_getElem?_getD, List.getElem?_eq_getElem h2] at e2
    simp only [Option.getD_some] at e2
    rw [e2, ← e1]
    unfold byteAt
    rw [List.getD_eq_getElem?_getD, List.getElem?_eq_getElem (by simpa using h1)]
    simp
def FlipPost (X b : Nat) (w : World) (e : Ending) (w' : World) : Prop := e = .returned (.tuple #[.string (wStr (lo (X ^^^ 2 ^ b))), .int .i64 (hi (X ^^^ 2 ^ b) : Nat)]) ∧ Below w.heap.size w w'
end Go.Proofs.Yteigdjocjcjkiaa
/- Decoding a codeword, in the model: the contracts. -/
namespace Go.Proofs.Yteigdjocjcjkiaa
open Go.RowKit

theorem syn_ret (X S P : Nat) (w : World) (hX : X < 2 ^ 72) (hS : synN X = S) (hP : parN X = P) :
    Calls Try.prog 119 #[.string (wStr (lo X)), .int .i64 (hi X : Nat)] w fun e w' => e = .returned (.tuple #[.int .i64 S, .int .i64 P]) ∧ w = w' := by
  subst hS; subst hP; exact l03Syndrome_any X w hX
theorem l03Check_any (x : Nat) (w : World) (hx : x < 2 ^ 64) :
    Calls Try.prog 114 #[.string (wStr x)] w fun e w' => e = .returned (.int .i64 (chkN x : Nat)) ∧ w = w' := by
  have hl : lowN x < 128 := synN_lt x
  have h0 : x < 2 ^ 72 := by omega
  have h1 : x + 2 ^ 64 * lowN x < 2 ^ 72 := by omega
  have hp := parN_lt (x + 2 ^ 64 * lowN x)
  have A := fun (W : World) => syn_ret x (lowN x) (parN x) W h0 rfl rfl
  have B := fun (W : World) => syn_ret (x + 2 ^ 64 * lowN x) _ (parN (x + 2 ^ 64 * lowN x)) W h1 rfl rfl
  rw [show lo x = x by unfold lo; omega, show hi x = 0 by unfold hi; omega] at A
  rw [lo_of _ hx, hi_of _ hx] at B
  have hE := chk_or x
  generalize parN (x + 2 ^ 64 * lowN x) = P at *
  generalize synN (x + 2 ^ 64 * lowN x) = S at *
  generalize parN x = Q at *
  generalize chkN x = C at *
  generalize lowN x = L at *
  have HE : Hid (bits .or .i64 (L : Nat) ((P : Nat) * 128) = ((C : Nat) : Int)) := by
    show _ = _
    have e := i64_or_nat L (P * 128) (by omega) (by omega)
    rw [hE, Int.natCast_mul] at e
    exact e
  have HA := Lib.hid A
  have HB := Lib.hid B
  clear A B h0 h1 hE
  generalize wStr x = s at *
  clear hx
  go_enter Try.func114, Try.ntmps114
  go_wp2_with fail
  refine (HA.out _).mono ?_
  rintro e w' ⟨rfl, rfl⟩
  go_wp2_with fail
  refine (HB.out _).mono ?_
  rintro e w' ⟨rfl, rfl⟩
  go_wp2
  go_ret
  exact ⟨ret_int HE.out, rfl⟩
end Go.Proofs.Yteigdjocjcjkiaa
/- The check bytes of several words, in the model and in the program: the contracts. -/
namespace Go.Proofs.Yteigdjocjcjkiaa
open Go.RowKit

theorem BytesOwn.later {w w' : World} {B B' : Nat} {v : Value} {l : List Int} (h : BytesOwn w B v l) (hb : Below B' w w') (hv : ∀ g, v.ownBlock = some g → g < B') : BytesOwn w' B v l := by
  refine ⟨h.1, ?_⟩
  rcases h.2 with h2 | ⟨g, cap, cur, h1, h2, h3, h4⟩
  · exact .inl h2
  · exact .inr ⟨g, cap, cur, h1, h2, (hb.block g (hv g (by rw [h1]; rfl))).trans h3, h4⟩
theorem slice_wd (s : ByteArray) (k : Nat) (h : 8 * k + 8 ≤ s.size) (w : World) :
    (Instr.slice 9 (.string s) (some (.int .i64 ((k : Int) * 8))) (some (.int .i64 (((k : Int) + 1) * 8))) none).run Try.prog w = .ok (.string (wd s k)) w := by
  rw [run_slice_string w 9 s .i64 .i64 _ _ Try.underlying9 (by omega) (by omega) (by omega)]
  rw [show (((k : Int) + 1) * 8).toNat = 8 * k + 8 by omega, show ((k : Int) * 8).toNat = 8 * k by omega]; rfl
theorem slice_at (s : ByteArray) (i : Nat) (h : i + 8 ≤ s.size) (w : World) :
    (Instr.slice 9 (.string s) (some (.int .i64 (i : Int))) (some (.int .i64 ((i : Int) + 8))) none).run Try.prog w = .ok (.string (s.extract i (i + 8))) w := by
  rw [run_slice_string w 9 s .i64 .i64 _ _ Try.underlying9 (by omega) (by omega) (by omega)]
  rw [show ((i : Int) + 8).toNat = i + 8 by omega]; rfl
/-- Is a text made of at most 32 words? -/
def Whole (s : ByteArray) : Prop := s.size % 8 = 0 ∧ s.size ≤ 256
theorem l03Words_yes (s : ByteArray) (w : World) (h : Whole s) :
    Calls Try.prog 113 #[.string s] w fun e w' => e = .returned (.bool true) ∧ w = w' := by
  obtain ⟨h1, h2⟩ := h
  have hb : (((s.size : Int) % 8) == 0) = true := by simp; omega
  have h3 : (s.size : Int) ≤ 256 := by omega
  clear h1
  go_enter Try.func113, Try.ntmps113
  go_wp2
  go_ret
  exact ⟨rfl, rfl⟩
theorem l03Words_no (s : ByteArray) (w : World) (h : ¬ Whole s) :
    Calls Try.prog 113 #[.string s] w fun e w' => e = .returned (.bool false) ∧ w = w' := by
  by_cases h1 : s.size % 8 = 0
  · have h2 : 256 < (s.size : Int) := by unfold Whole at h; omega
    have hb : (((s.size : Int) % 8) == 0) = true := by simp; omega
    have hd : decide ((s.size : Int) ≤ 256) = false := by simp; omega
    clear h1 h
    go_enter Try.func113, Try.ntmps113
    go_wp2
    go_ret
    exact ⟨rfl, rfl⟩
  · have hb : (((s.size : Int) % 8) == 0) = false := by simp; omega
    clear h1 h
    go_enter Try.func113, Try.ntmps113
    go_wp2
    go_ret
    exact ⟨rfl, rfl⟩
def EncPost (r : ByteArray) (c : Int) (w : World) (e : Ending) (w' : World) : Prop := e = .returned (.tuple #[.string r, .int .i64 c]) ∧ Below w.heap.size w w'
set_option maxRecDepth 100000 in
theorem specEnc_yes (s : ByteArray) (n : Nat) (w : World) (hn : s.size = 8 * n) (hn2 : n ≤ 32) :
    Calls Try.prog 103 #[.string s] w (EncPost (strOfNums (chkL s n)) 0 w) := by
  have HV := Lib.hid (fun (W : World) => l03Words_yes s W ⟨by omega, by omega⟩)
  have HS := Lib.hid (fun (i : Nat) (h : i + 8 ≤ s.size) (W : World) => slice_at s i h W)
  have hsz : (s.size : Int) ≤ 256 := by omega
  have HN := Lib.hid hn
  clear hn
  go_enter Try.func103, Try.ntmps103
  go_wp2_with (go_at_call 113; refine (HV.out _).mono ?_; rintro e w' ⟨rfl, rfl⟩)
  go_loopw [4, 5] (fun v j wr => ∃ (k i : Nat), k ≤ n ∧ i = 8 * k ∧ j = .int .i64 i ∧ BytesOwn wr w.heap.size v (chkL s k) ∧ Below w.heap.size w wr) (fun _ j _ => s.size - (intOf j).toNat)
  case atStart => exact ⟨0, 0, by omega, rfl, rfl, BytesOwn.made _ (Nat.le_refl _), (Below.refl _ _).alloc (Nat.le_refl _) _⟩
  case round =>
    obtain ⟨k, i, hk, hi, rfl, hown, hb⟩ := hrel
    have hz := hb.size
    have hlen := chkL_length s k
    have HNo := HN.out
    by_cases hlt : k < n
    · have hi8 : i + 8 ≤ s.size := by omega
      have hsl := fun (W : World) => HS.out i hi8 W
      have hwd : s.extract i (i + 8) = wStr (wdN s k) := by rw [← wd_wStr (by omega), hi]; rfl
      rw [hwd] at hsl
      have hil : (i : Int) < (s.size : Int) := by omega
      have hc := chkN_lt (wdN s k)
      have HK := Lib.hid (fun (W : World) => l03Check_any (wdN s k) W (wdN_lt s k))
      have HL : Hid (chkL s (k + 1) = chkL s k ++ [((chkN (wdN s k) : Nat) : Int)]) := by show _ = _; rfl
      have HI := Lib.hid hi
      clear hwd hi HNo
      generalize chkN (wdN s k) = c at *
      generalize wStr (wdN s k) = t at *
      go_wp2_with (first
        | (go_at_call 114; refine (HK.out _).mono ?_; rintro e w' ⟨rfl, rfl⟩)
        | (at_builtin; refine wpList_append_byte rfl _ _ rfl _ _ rfl hown hb hz _ _ rfl (by omega) ?_; intro v' w1 hown' hb'; clear hown hb))
      go_roundw
      case rel => exact ⟨k + 1, i + 8, by omega, by have := HI.out; omega, by go_num, by rw [HL.out]; exact hown', hb'⟩
      case measure => simp [intOf]; omega
    · obtain rfl : k = n := by omega
      have hil : (s.size : Int) ≤ (i : Int) := by omega
      have hcv := bytes_str hown
      clear hi HNo
      go_wp2
      go_ret2
      exact ⟨rfl, hb⟩
theorem specEnc_no (s : ByteArray) (w : World) (h : ¬ Whole s) :
    Calls Try.prog 103 #[.string s] w (EncPost ⟨#[]⟩ 1 w) := by
  have HV := Lib.hid (fun (W : World) => l03Words_no s W h)
  clear h
  go_enter Try.func103, Try.ntmps103
  go_wp2_with (go_at_call 113; refine (HV.out _).mono ?_; rintro e w' ⟨rfl, rfl⟩)
  go_ret2
  exact ⟨rfl, Below.refl _ _⟩
theorem set_at_end' (l : List Int) (n k : Nat) (b : Int) (h : l.length = k) (hk : k < n) : (l ++ List.replicate (n - k) 0).set k b = (l ++ [b]) ++ List.replicate (n - (k + 1)) 0 := by
  rw [List.set_append_right _ _ (by omega), h, Nat.sub_self, show n - k = (n - (k + 1)) + 1 by omega, List.replicate_succ, List.set_cons_zero, List.append_assoc]; rfl
end Go.Proofs.Yteigdjocjcjkiaa
/- Sealing a page, in the model and in the program: the contracts. -/
namespace Go.Proofs.Yteigdjocjcjkiaa
open Go.RowKit
set_option linter.unusedVariables false

/-- The text x scrambled at address p. -/
def scrB (x : ByteArray) (p : Nat) : ByteArray := strOfNums (xorL x (strOfNums (streamL (p + 1) x.size)) x.size)
theorem scrB_size (x : ByteArray) (p : Nat) : (scrB x p).size = x.size := by unfold scrB; rw [strOfNums_size, xorL_length]
def markS : ByteArray := strOfNums [90]
theorem markS_size : markS.size = 1 := by unfold markS; rw [strOfNums_size]; rfl
def chkB (x : ByteArray) : ByteArray := strOfNums (chkL x 10)
theorem chkB_size (x : ByteArray) : (chkB x).size = 10 := by unfold chkB; rw [strOfNums_size, chkL_length]
def sealB (d s : ByteArray) (p : Nat) : ByteArray := scrB (d ++ s) p ++ chkB (scrB (d ++ s) p) ++ markS
theorem sealB_size {d s : ByteArray} {p : Nat} (hd : d.size = 64) (hs : s.size = 16) : (sealB d s p).size = 91 := by
  unfold sealB; rw [ByteArray.size_append, ByteArray.size_append, scrB_size, ByteArray.size_append, chkB_size, markS_size]; omega
theorem wpList_one_byte' {Q : Exit → Act → World → Prop} {ops : Array Oper} {rest : List Oper} {o : Oper} {a : Act} {w : World} (hgd : o.guard = none) (x : Operand)
    (ho : o.op = .convert 43 9 x) (n : Nat) (b : Int) (s : ByteArray) (hx : a.eval x = .slice (some ⟨w.heap.size, 0, none⟩) 1 n) (hs : s = strOfNums [b])
    (h : wpList Try.prog ops Q rest (a.put o.dst (.string s)) (w.alloc (.cells #[.int .u8 b] 5))) : wpList Try.prog ops Q (o :: rest) a (w.alloc (.cells #[.int .u8 b] 5)) := by
  refine wpList_plain hgd fun K hK' => ?_
  have hrun := arr_str (Arr.new w 5 .u8 [b]) 1 n (by simp)
  unfold Oper.wp
  simp only [List.map_cons, List.map_nil, List.take_succ_cons, List.take_zero] at hrun
  simp only [execOp, ho, hx, hrun, Sem.run_bind, Sem.run_pure, Result.andThen]
  rw [← hs]
  exact hK' _ _ h
/-- What SealPage answers. -/
inductive SealEnds (d s : ByteArray) (p : Int) : ByteArray → Int → Prop
  | invalid (h : ¬ (d.size = 64 ∧ s.size = 16)) : SealEnds d s p ⟨#[]⟩ 1
  | range (h : d.size = 64 ∧ s.size = 16) (h1 : ¬ (0 ≤ p ∧ p ≤ 65534)) : SealEnds d s p ⟨#[]⟩ 2
  | done (h : d.size = 64 ∧ s.size = 16) (n : Nat) (hn : p = n) (h1 : n ≤ 65534) : SealEnds d s p (sealB d s n) 0
theorem sealEnds (d s : ByteArray) (p : Int) : ∃ r c, SealEnds d s p r c := by
  by_cases h : d.size = 64 ∧ s.size = 16
  case neg => exact ⟨_, _, .invalid h⟩
  by_cases h1 : 0 ≤ p ∧ p ≤ 65534
  case neg => exact ⟨_, _, .range h h1⟩
  exact ⟨_, _, .done h p.toNat (by omega) (by omega)⟩
set_option maxRecDepth 100000 in
theorem l05Seal_any (d s : ByteArray) (p : Nat) (w : World) (hd : d.size = 64) (hs : s.size = 16) (hp : p ≤ 65534) :
    Calls Try.prog 84 #[.string d, .string s, .int .i64 p] w fun e w' => e = .returned (.string (sealB d s p)) ∧ Below w.heap.size w w' := by
  have hds : (d ++ s).size = 80 := by rw [ByteArray.size_append]; omega
  have HS := Lib.hid (fun (W : World) => (show Calls Try.prog 102 #[.int .i64 p, .string (d ++ s)] W _ from specScr_yes (p : Int) (d ++ s) W (by omega) (by omega) (by omega)))
  rw [Int.toNat_natCast] at HS
  change Hid (∀ W, Calls Try.prog 102 #[.int .i64 p, .string (d ++ s)] W fun e w' => e = .returned (.tuple #[.string (scrB (d ++ s) p), .int .i64 0]) ∧ Below W.heap.size W w') at HS
  have hb := scrB_size (d ++ s) p
  rw [hds] at hb
  unfold sealB
  generalize scrB (d ++ s) p = x at *
  have HE := Lib.hid (fun (W : World) => (show Calls Try.prog 103 #[.string x] W (EncPost (chkB x) 0 W) from specEnc_yes x 10 W (by omega) (by omega)))
  have hc := chkB_size x
  generalize chkB x = y at *
  have hm := markS_size
  have HM := Lib.hid (show markS = strOfNums [90] from rfl)
  generalize markS = z at *
  have hl1 : ¬ 9223372036854775807 < d.size + s.size := by omega
  have hl2 : ¬ 9223372036854775807 < x.size + y.size := by omega
  have hl3 : ¬ 9223372036854775807 < (x ++ y).size + z.size := by rw [ByteArray.size_append]; omega
  go_enter Try.func84, Try.ntmps84
  go_wp2_with fail
  refine (HS.out _).mono ?_
  rintro e w1 ⟨rfl, b1⟩
  go_wp2_with fail
  refine (HE.out _).mono ?_
  rintro e w2 ⟨rfl, b2⟩
  have B2 := b1.trans (b2.mono b1.size)
  clear b1 b2
  go_wp2_with (with_reducible show wpList _ _ _ (⟨some 28, _, _, _, _, _⟩ :: _) _ _; go_must (refine wpList_one_byte' rfl _ rfl 1 90 z rfl HM.out ?_))
  go_ret
  exact ⟨rfl, B2.alloc B2.size _⟩
end Go.Proofs.Yteigdjocjcjkiaa
/- A bit of a raw page inverted, in the model and in the program: the contracts. -/
namespace Go.Proofs.Yteigdjocjcjkiaa
open Go.RowKit
set_option linter.unusedVariables false

def byteNums (s : ByteArray) : List Int := s.data.toList.map fun b => (b.toNat : Int)
theorem byteNums_length (s : ByteArray) : (byteNums s).length = s.size := by simp [byteNums]
theorem byteNums_get (s : ByteArray) (k : Nat) (h : k < s.size) : (byteNums s).getD k 0 = (byteAt s k : Int) := by
  have h' : k < s.data.toList.length := by simpa using h
  unfold byteNums byteAt
  rw [List.getD_eq_getElem?_getD, List.getElem?_map, List.getD_eq_getElem?_getD, List.getElem?_eq_getElem h']; rfl
/-- Bit k of a raw page inverted. -/
def flipL (raw : ByteArray) (k : Nat) : List Int := (byteNums raw).set (k / 8) ((byteAt raw (k / 8) ^^^ 2 ^ (k % 8) : Nat) : Int)
def flipP (raw : ByteArray) (k : Nat) : ByteArray := strOfNums (flipL raw k)
theorem flipP_size (raw : ByteArray) (k : Nat) : (flipP raw k).size = raw.size := by
  unfold flipP flipL; rw [strOfNums_size, List.length_set, byteNums_length]
/-- What FlipPageBit answers. -/
inductive FlipEnds (raw : ByteArray) (k : Int) : ByteArray → Int → Prop
  | invalid (h : raw.size ≠ 91) : FlipEnds raw k ⟨#[]⟩ 1
  | range (h : raw.size = 91) (h1 : ¬ (0 ≤ k ∧ k ≤ 727)) : FlipEnds raw k ⟨#[]⟩ 2
  | done (h : raw.size = 91) (n : Nat) (hn : k = n) (h1 : n ≤ 727) : FlipEnds raw k (flipP raw n) 0
theorem flipEnds (raw : ByteArray) (k : Int) : ∃ s c, FlipEnds raw k s c := by
  by_cases h : raw.size = 91
  case neg => exact ⟨_, _, .invalid h⟩
  by_cases h1 : 0 ≤ k ∧ k ≤ 727
  case neg => exact ⟨_, _, .range h h1⟩
  exact ⟨_, _, .done h k.toNat (by omega) (by omega)⟩
theorem FlipEnds.size {raw : ByteArray} {k : Int} {s : ByteArray} {c : Int} (h : FlipEnds raw k s c) : s.size ≤ 91 := by
  rcases h with h | h | ⟨h, n, rfl, h1⟩
  · exact Nat.zero_le _
  · exact Nat.zero_le _
  · rw [flipP_size]; omega
theorem flip_byte (y k : Nat) (hy : y < 256) : bits .xor .u8 (y : Int) (2 ^ (k % 8) % 256) = ((y ^^^ 2 ^ (k % 8) : Nat) : Int) := by
  have e : ((2 : Int) ^ (k % 8)) = (((2 : Nat) ^ (k % 8) : Nat) : Int) := by rw [Int.natCast_pow]; rfl
  have hp : (2 : Nat) ^ (k % 8) < 2 ^ 8 := Nat.pow_lt_pow_right (by decide) (by omega)
  rw [e]
  generalize (2 : Nat) ^ (k % 8) = q at *
  rw [show (q : Int) % 256 = (q : Int) by omega, u8_xor_nat _ _ (by omega) (by omega)]
set_option maxRecDepth 100000 in
theorem specFlipP_any (raw : ByteArray) (k : Int) (s : ByteArray) (c : Int) (w : World) (h : FlipEnds raw k s c) (hs : raw.size ≤ 9223372036854775807) :
    Calls Try.prog 17 #[.string raw, .int .i64 k] w (PairPost s c w) := by
  rcases h with h | ⟨h, h1⟩ | ⟨h, n, rfl, h1⟩
  · have hd : ((raw.size : Int) != 91) = true := by simp; omega
    go_enter Try.func17, Try.ntmps17
    go_wp2
    go_ret2
    exact ⟨rfl, Below.refl _ _⟩
  · have hd : ((raw.size : Int) != 91) = false := by rw [h]; rfl
    go_enter Try.func17, Try.ntmps17
    go_wp2_with fail
    refine (inr_no k 0 727 w h1).mono ?_
    rintro e w' ⟨rfl, rfl⟩
    go_wp2
    go_ret2
    exact ⟨rfl, Below.refl _ _⟩
  · have hd : ((raw.size : Int) != 91) = false := by rw [h]; rfl
    have HI := Lib.hid (fun (W : World) => inr_yes (n : Int) 0 727 W (by omega) (by omega))
    have HSZ := Lib.hid h
    have hI2 : (n : Int) / 8 < (raw.size : Int) := by omega
    have hI3 : (n : Int) ≤ 727 := by omega
    have hyl := byteAt_le raw (n / 8)
    have HX := Lib.hid (flip_byte (byteAt raw (n / 8)) n (by omega))
    have HG := Lib.hid (byteNums_get raw (n / 8) (by omega))
    clear h h1
    unfold flipP flipL
    generalize hy : byteAt raw (n / 8) = y at *
    clear hy
    go_enter Try.func17, Try.ntmps17
    go_wp2_with fail
    refine (HI.out _).mono ?_
    rintro e w' ⟨rfl, rfl⟩
    go_wp2_with (refine wpList_str_bytes rfl _ rfl raw rfl (Below.refl w.heap.size w) (Nat.le_refl _) ?_; intro cap w1 hat hz1 hb1; go_must (
      have hlen := byteNums_length raw
      change BytesAt w1 w.heap.size (byteNums raw) at hat
      have hcell := (hat (n / 8) (by have := HSZ.out; omega)).1
      have hfree := (hat (n / 8) (by have := HSZ.out; omega)).2
      rw [HG.out] at hcell
      have hset := hat.set_ (k := n / 8) (by have := HSZ.out; omega) ((y ^^^ 2 ^ (n % 8) : Nat) : Int)
      have hcv := hset.str (cap := cap)
      rw [List.length_set, hlen] at hcv
      have hcv2 := hcv
      rw [← HX.out] at hcv2
      have HE := Lib.hid hcv
      have hbe := hb1.setCell (p := ⟨w.heap.size, n / 8, none⟩) (Nat.le_refl _) (.int .u8 (bits .xor .u8 (y : Int) (2 ^ (n % 8) % 256)))
      clear hat hset hcv hlen))
    go_ret2
    exact ⟨by rw [HX.out]; rfl, hbe⟩
set_option maxRecDepth 100000 in
theorem implFlipP_any (raw : ByteArray) (k : Int) (s : ByteArray) (c : Int) (w : World) (hs : raw.size ≤ 9223372036854775807) (h : FlipEnds raw k s c) :
    Calls Try.prog 18 #[.string raw, .int .i64 k] w (PairPost s c w) := by
  rcases h with h | ⟨h, h1⟩ | ⟨h, n, rfl, h1⟩
  · have hd : ((raw.size : Int) != 91) = true := by simp; omega
    go_enter Try.func18, Try.ntmps18
    go_wp2
    go_ret2
    exact ⟨rfl, Below.refl _ _⟩
  · have hd : ((raw.size : Int) != 91) = false := by rw [h]; rfl
    by_cases h0 : k < 0
    · clear h1
      go_enter Try.func18, Try.ntmps18
      go_wp2
      go_ret2
      exact ⟨rfl, Below.refl _ _⟩
    · have h2 : 728 ≤ k := by omega
      clear h1
      go_enter Try.func18, Try.ntmps18
      go_wp2
      go_ret2
      exact ⟨rfl, Below.refl _ _⟩
  · have hd : ((raw.size : Int) != 91) = false := by rw [h]; rfl
    have HSZ := Lib.hid h
    have hI2 : (n : Int) / 8 < (raw.size : Int) := by omega
    have hI3 : (n : Int) ≤ 727 := by omega
    have hyl := byteAt_le raw (n / 8)
    have HX := Lib.hid (flip_byte (byteAt raw (n / 8)) n (by omega))
    have HG := Lib.hid (byteNums_get raw (n / 8) (by omega))
    clear h h1
    unfold flipP flipL
    generalize hy : byteAt raw (n / 8) = y at *
    clear hy
    go_enter Try.func18, Try.ntmps18
    go_wp2_with (refine wpList_str_bytes rfl _ rfl raw rfl (Below.refl w.heap.size w) (Nat.le_refl _) ?_; intro cap w1 hat hz1 hb1; go_must (
      have hlen := byteNums_length raw
      change BytesAt w1 w.heap.size (byteNums raw) at hat
      have hcell := (hat (n / 8) (by have := HSZ.out; omega)).1
      have hfree := (hat (n / 8) (by have := HSZ.out; omega)).2
      rw [HG.out] at hcell
      have hset := (hat.set_ (k := n / 8) (by have := HSZ.out; omega) (bits .xor .u8 (y : Int) (2 ^ (n % 8) % 256))).drew
      have hcv := hset.str (cap := cap)
      rw [List.length_set, hlen] at hcv
      have HCV := Lib.hid hcv
      have HBE := Lib.hid (hb1.setCell (p := ⟨w.heap.size, n / 8, none⟩) (Nat.le_refl _) (.int .u8 (bits .xor .u8 (y : Int) (2 ^ (n % 8) % 256)))).drew
      clear hat hset hcv hlen))
    have i1 : (0 : Int) ≤ (n : Int) / 8 := by omega
    have i2 : ((n : Int) / 8).toNat = n / 8 := by omega
    have i3 : (0 : Int) ≤ (n : Int) % 8 := by omega
    have i4 : ((n : Int) % 8).toNat = n % 8 := by omega
    go_region
    have hcv := HCV.out
    go_wp2
    go_ret2
    exact ⟨by rw [HX.out]; rfl, HBE.out⟩
end Go.Proofs.Yteigdjocjcjkiaa
/- Chapter 5's generators: bytes, an address, a raw page. Only that each returns, within its bounds, is said. -/
namespace Go.Proofs.Yteigdjocjcjkiaa
open Go.RowKit
set_option linter.unusedVariables false
def TxE (m : Nat) (v : Value) : Prop := ∃ s : ByteArray, v = .string s ∧ s.size = m
set_option maxRecDepth 100000 in
theorem l05Bytes_any (B g n m : Nat) (w : World) (h : Src w B g n) (hn : n ≤ 800000000000) (hm : m ≤ 100) :
    Calls Try.prog 83 #[.pointer (some ⟨g, 0, none⟩), .int .i64 m] w (Chose (TxE m) B g (n + 200) w) := by
  have hlt := h.lt
  have hmi : (m : Int) ≤ 100 := by omega
  go_enter Try.func83, Try.ntmps83
  go_wp2_with fail
  refine (one_any B g n 3 _ h (by omega) (by omega) (by omega)).mono ?_
  rintro e w1 ⟨v1, rfl, ⟨b, rfl⟩, hS1, hg1⟩
  clear h
  have hz1 := hg1.size
  cases b
  · have h0 := hS1.keep ((Below.refl w1.heap.size w1).alloc (Nat.le_refl _) (.cells #[] 5))
    have hg0 : w1.grownBy (w1.alloc (.cells #[] 5)) (some g) := World.grownBy_alloc w1 _ _
    have hown0 := BytesOwn.made w1 hz1
    have hgr0 := grown_trans hg1 hg0
    clear hS1 hg1 hg0
    go_wp2
    go_loopw [5, 6] (fun v i wr => ∃ (k : Nat) (l : List Int), k ≤ m ∧ i = .int .i64 k ∧ l.length = k ∧ BytesOwn wr w.heap.size v l ∧ Src wr B g (n + 2 + k) ∧ w.grownBy wr (some g)) (fun _ i _ => m - (intOf i).toNat)
    case atStart => exact ⟨0, [], by omega, rfl, rfl, hown0, h0, hgr0⟩
    case round =>
      clear hown0 h0 hgr0
      obtain ⟨k, l, hk, rfl, hl, hown, hS, hgr⟩ := hrel
      have hz := hgr.size
      by_cases hk0 : k < m
      · have hki : (k : Int) < (m : Int) := by omega
        go_wp2_with (first
          | (
             go_at_call 79; refine (next_any B g (n + 2 + k) _ hS (by omega)).mono ?_; rintro e w2 ⟨v2, rfl, ⟨y, rfl, hy0, hy1⟩, hS2, hg2⟩
             have hown2 := hown.grown hg2 hlt
             have hgr2 := grown_trans hgr hg2
             have hz2 := hgr2.size
             clear hown hS hgr hg2)
          | (
             at_builtin; refine wpList_append_byte rfl _ _ rfl _ l rfl hown2 (Below.refl _ _) hz2 _ _ rfl (by omega) ?_
             intro v' w3 hown3 hb3
             have hS3 := hS2.keepB hb3 hlt
             have hgr3 := grown_below hgr2 hb3
             clear hown2 hS2 hgr2 hb3))
        go_roundw
        case rel => exact ⟨k + 1, _, by omega, by go_num, by simp [hl], hown3, hS3, hgr3⟩
        case measure => simp [intOf]; omega
      · obtain rfl : k = m := by omega
        have hcv := bytes_str hown
        have hls : (strOfNums l).size = l.length := strOfNums_size l
        have HL := Lib.hid hls
        have HLL := Lib.hid hl
        clear hls hl
        go_wp2
        go_ret
        exact ⟨_, rfl, ⟨_, rfl, by rw [HL.out, HLL.out]⟩, hS.more (by omega), hgr⟩
  · go_wp2_with fail
    refine (next_any B g (n + 2) _ hS1 (by omega)).mono ?_
    rintro e w2 ⟨v2, rfl, ⟨y, rfl, hy0, hy1⟩, hS2, hg2⟩
    obtain ⟨c, rfl⟩ := Int.eq_ofNat_of_zero_le hy0
    have HF := Lib.hid (fun (W : World) => fill_any c m W (by omega) (by omega))
    have hgr2 := grown_trans hg1 hg2
    clear hy0 hS1 hg1 hg2
    have hf := fillB_size c m
    go_wp2_with fail
    refine (HF.out _).mono ?_
    rintro e w3 ⟨rfl, hb3⟩
    have hS3 := hS2.keep hb3
    have hgr3 := grown_below hgr2 (hb3.mono hgr2.size)
    clear hS2 hgr2 hb3
    go_wp2
    go_ret
    exact ⟨_, rfl, ⟨_, rfl, hf⟩, hS3.more (by omega), hgr3⟩
theorem l05Page_any (B g n : Nat) (w : World) (h : Src w B g n) (hn : n ≤ 800000000000) :
    Calls Try.prog 82 #[.pointer (some ⟨g, 0, none⟩)] w (Chose (IntIn (-1) 65535) B g (n + 4) w) := by
  have hlt := h.lt
  have HP : Hid (pickMax 600 = 599) := by show _ = _; decide
  go_enter Try.func82, Try.ntmps82
  go_wp2_with fail
  refine (pick_any B g n 600 _ h (by omega) (by omega) (by omega)).mono ?_
  rintro e w1 ⟨v1, rfl, ⟨x, rfl, hx0, hx1⟩, hS1, hg1⟩
  rw [HP.out] at hx1
  clear h
  have hz1 := hg1.size
  have hne : w1.heap.size ≠ g := by omega
  go_wp2_with fail
  refine (among_any (fun x => -1 ≤ x ∧ x ≤ 65535) B g (n + 2) w1.heap.size 10 10 _ ?_ (by omega) (by omega) (by omega) hne ?_).mono ?_
  · exact hS1.keep ((Below.refl _ _).alloc (Nat.le_refl _) _)
  · refine newCells _ _ _ 10 rfl ?_
    intro v hv
    simp only [List.mem_cons, List.not_mem_nil, or_false] at hv
    rcases hv with rfl | rfl | rfl | rfl | rfl | rfl | rfl | rfl | rfl | rfl <;> exact ⟨_, rfl, by constructor <;> omega⟩
  rintro e w2 ⟨v2, rfl, ⟨y, rfl, hy0, hy1⟩, hS2, hg2⟩
  go_wp2
  go_ret
  exact ⟨_, rfl, ⟨y, rfl, hy0, hy1⟩, hS2, grown_trans hg1 (grown_trans (World.grownBy_alloc w1 _ _) hg2)⟩
theorem minr_any (a b : Int) (w : World) : Calls Try.prog 81 #[.int .i64 a, .int .i64 b] w fun e w' => e = .returned (.int .i64 (min a b)) ∧ w = w' := by
  by_cases h : a < b
  · have hm : min a b = a := by omega
    rw [hm]
    go_enter Try.func81, Try.ntmps81
    go_wp2
    go_ret
    exact ⟨rfl, rfl⟩
  · have hm : min a b = b := by omega
    rw [hm]
    have h' : b ≤ a := by omega
    go_enter Try.func81, Try.ntmps81
    go_wp2
    go_ret
    exact ⟨rfl, rfl⟩
theorem maxr_any (a b : Int) (w : World) : Calls Try.prog 80 #[.int .i64 a, .int .i64 b] w fun e w' => e = .returned (.int .i64 (max a b)) ∧ w = w' := by
  by_cases h : b < a
  · have hm : max a b = a := by omega
    rw [hm]
    go_enter Try.func80, Try.ntmps80
    go_wp2
    go_ret
    exact ⟨rfl, rfl⟩
  · have hm : max a b = b := by omega
    rw [hm]
    have h' : a ≤ b := by omega
    go_enter Try.func80, Try.ntmps80
    go_wp2
    go_ret
    exact ⟨rfl, rfl⟩
end Go.Proofs.Yteigdjocjcjkiaa
/- Chapter 5's generator of a raw page. Only that it returns, within its bounds, is said. -/
namespace Go.Proofs.Yteigdjocjcjkiaa
open Go.RowKit
set_option linter.unusedVariables false
def RawAny (v : Value) : Prop := ∃ (s : ByteArray) (p : Int), v = .tuple #[.string s, .int .i64 p] ∧ s.size ≤ 400 ∧ 0 ≤ p ∧ p ≤ 65534
set_option maxHeartbeats 1000000 in
set_option maxRecDepth 100000 in
theorem l05Raw_any (B g n : Nat) (w : World) (h : Src w B g n) (hn : n ≤ 600000000000) :
    Calls Try.prog 53 #[.pointer (some ⟨g, 0, none⟩)] w (Chose RawAny B g (n + 4000) w) := by
  have hlt := h.lt
  have HP : Hid (pickMax 728 = 727) := by show _ = _; decide
  have HP2 : Hid (pickMax 12 = 11) := by show _ = _; decide
  have HP3 : Hid (pickMax 92 = 91) := by show _ = _; decide
  go_enter Try.func53, Try.ntmps53
  go_wp2_with fail
  refine (l05Page_any B g n _ h (by omega)).mono ?_
  rintro e w1 ⟨v1, rfl, ⟨x, rfl, hx0, hx1⟩, hS1, hg1⟩
  clear h
  go_wp2_with fail
  refine (minr_any _ _ _).mono ?_
  rintro e w' ⟨rfl, rfl⟩
  go_wp2_with fail
  refine (maxr_any _ _ _).mono ?_
  rintro e w' ⟨rfl, rfl⟩
  obtain ⟨pn, hpn, hpl⟩ : ∃ pn : Nat, max 0 (min x 65534) = (pn : Int) ∧ pn ≤ 65534 := ⟨(max 0 (min x 65534)).toNat, by omega, by omega⟩
  rw [hpn]
  clear hpn hx0 hx1
  go_wp2_with fail
  refine (l05Bytes_any B g (n + 4) 64 _ hS1 (by omega) (by omega)).mono ?_
  rintro e w2 ⟨v2, rfl, ⟨D, rfl, hD⟩, hS2, hg2⟩
  have G2 := grown_trans hg1 hg2
  clear hS1 hg1 hg2
  go_wp2_with fail
  refine (l05Bytes_any B g (n + 4 + 200) 16 _ hS2 (by omega) (by omega)).mono ?_
  rintro e w3 ⟨v3, rfl, ⟨S, rfl, hS⟩, hS3, hg3⟩
  have G3 := grown_trans G2 hg3
  clear hS2 G2 hg3
  have HSL := Lib.hid (fun (W : World) => l05Seal_any D S pn W hD hS hpl)
  have hRs := sealB_size (p := pn) hD hS
  generalize sealB D S pn = R at *
  go_wp2_with fail
  refine (HSL.out _).mono ?_
  rintro e w4 ⟨rfl, b4⟩
  have hS4 := hS3.keep b4
  have G4 := grown_below G3 (b4.mono G3.size)
  clear hS3 G3 b4 HSL hD hS
  have hz4 := G4.size
  have hne : w4.heap.size ≠ g := by omega
  go_wp2_with fail
  refine (among_any (fun x => 0 ≤ x ∧ x ≤ 3) B g (n + 4 + 200 + 200) w4.heap.size 5 5 _ ?_ (by omega) (by omega) (by omega) hne ?_).mono ?_
  · exact hS4.keep ((Below.refl _ _).alloc (Nat.le_refl _) _)
  · refine newCells _ _ _ 5 rfl ?_
    intro v hv
    simp only [List.mem_cons, List.not_mem_nil, or_false] at hv
    rcases hv with rfl | rfl | rfl | rfl | rfl <;> exact ⟨_, rfl, by constructor <;> omega⟩
  rintro e w5 ⟨v5, rfl, ⟨y, rfl, hy0, hy1⟩, hS5, hg5⟩
  have G5 := grown_trans G4 (grown_trans (World.grownBy_alloc w4 _ _) hg5)
  obtain ⟨K, rfl⟩ := Int.eq_ofNat_of_zero_le hy0
  have HK := Lib.hid hy1
  clear hS4 G4 hg5 hne hz4 hy0 hy1
  go_wp2
  go_loopw [6, 7] (fun t i wr => ∃ (k : Nat) (T : ByteArray), k ≤ K ∧ i = .int .i64 k ∧ t = .string T ∧ T.size = 91 ∧ Src wr B g (n + 450 + 2 * (K - k)) ∧ w.grownBy wr (some g)) (fun _ i _ => (intOf i).toNat)
  case atStart => exact ⟨K, R, by omega, rfl, rfl, hRs, hS5.more (by omega), G5⟩
  case round =>
    clear hS5 G5 hRs
    obtain ⟨k, T, hk, rfl, rfl, hT, hS5, G5⟩ := hrel
    have hk3 : (k : Int) ≤ 3 := by have := HK.out; omega
    have HTS := Lib.hid hT
    clear hT
    by_cases hk0 : 0 < k
    · have hki : (0 : Int) < (k : Int) := by omega
      go_wp2_with fail
      refine (pick_any B g _ 728 _ hS5 (by have := HK.out; omega) (by omega) (by omega)).mono ?_
      rintro e w6 ⟨v6, rfl, ⟨z, rfl, hz0, hz1⟩, hS6, hg6⟩
      rw [HP.out] at hz1
      obtain ⟨b, rfl⟩ := Int.eq_ofNat_of_zero_le hz0
      have G6 := grown_trans G5 hg6
      have HF := Lib.hid (specFlipP_any T b (flipP T b) 0 w6 (.done HTS.out b rfl (by omega)) (by have := HTS.out; omega))
      have HFS := Lib.hid (show (flipP T b).size = 91 from by rw [flipP_size]; exact HTS.out)
      generalize flipP T b = T2 at *
      clear hS5 G5 hg6 hz0 hz1
      go_wp2_with fail
      refine HF.out.mono ?_
      rintro e w7 ⟨rfl, b7⟩
      have hS7 := hS6.keep b7
      have G7 := grown_below G6 (b7.mono G6.size)
      clear hS6 G6 b7 HF
      go_wp2
      go_roundw
      case rel => exact ⟨k - 1, T2, by omega, by go_num, rfl, HFS.out, hS7.more (by omega), G7⟩
      case measure => simp [intOf]; omega
    · obtain rfl : k = 0 := by omega
      have hS5 := hS5.more (n' := n + 500) (by have := HK.out; omega)
      go_wp2_with fail
      refine (pick_any B g _ 12 _ hS5 (by omega) (by omega) (by omega)).mono ?_
      rintro e w6 ⟨v6, rfl, ⟨z, rfl, hz0, hz1⟩, hS6, hg6⟩
      have G6 := grown_trans G5 hg6
      clear hS5 G5 hg6 hz1
      by_cases h0 : z = 0
      · subst h0
        go_wp2_with fail
        refine (pick_any B g _ 92 _ hS6 (by omega) (by omega) (by omega)).mono ?_
        rintro e w7 ⟨v7, rfl, ⟨q, rfl, hq0, hq1⟩, hS7, hg7⟩
        rw [HP3.out] at hq1
        obtain ⟨b, rfl⟩ := Int.eq_ofNat_of_zero_le hq0
        have G7 := grown_trans G6 hg7
        have HF := Lib.hid (torn_any T b w7 HTS.out (by omega))
        have HFS := Lib.hid (tornB_size HTS.out (show b ≤ 91 by omega))
        generalize tornB T b = T2 at *
        clear hS6 G6 hg7 hq0 hq1
        go_wp2_with fail
        refine HF.out.mono ?_
        rintro e w8 ⟨rfl, b8⟩
        have hS8 := hS7.keep b8
        have G8 := grown_below G7 (b8.mono G7.size)
        go_wp2
        go_ret2
        exact ⟨_, rfl, ⟨_, _, rfl, by have := HFS.out; omega, by omega, by omega⟩, hS8.more (by omega), G8⟩
      · have hb0 : (z == 0) = false := by simpa using h0
        by_cases h1 : z = 1
        · subst h1
          go_wp2_with fail
          refine (damage_any B g _ T _ hS6 (by omega) (by have := HTS.out; omega)).mono ?_
          rintro e w7 ⟨v7, rfl, ⟨T2, rfl, hT2⟩, hS7, hg7⟩
          have G7 := grown_trans G6 hg7
          clear hS6 G6 hg7
          go_wp2
          go_ret2
          exact ⟨_, rfl, ⟨_, _, rfl, hT2, by omega, by omega⟩, hS7.more (by omega), G7⟩
        · have hb1 : (z == 1) = false := by simpa using h1
          by_cases h2 : z = 2
          · subst h2
            have hf := fillB_size 255 91
            go_wp2_with fail
            refine (specErased_any _).mono ?_
            rintro e w7 ⟨rfl, b7⟩
            have hS7 := hS6.keep b7
            have G7 := grown_below G6 (b7.mono G6.size)
            clear hS6 G6 b7
            go_wp2
            go_ret2
            exact ⟨_, rfl, ⟨_, _, rfl, by omega, by omega, by omega⟩, hS7.more (by omega), G7⟩
          · have hb2 : (z == 2) = false := by simpa using h2
            go_wp2
            go_ret2
            exact ⟨_, rfl, ⟨_, _, rfl, by have := HTS.out; omega, by omega, by omega⟩, hS6.more (by omega), G6⟩
end Go.Proofs.Yteigdjocjcjkiaa
/- Arrays in memory: what is read, what the call itself owns; the laws of frames and stores. -/
namespace Go.Proofs.Yteigdjocjcjkiaa
open Go.RowKit
set_option linter.unusedVariables false

/-- In both worlds the blocks from lo up to hi are alike. -/
def Same (lo hi : Nat) (w w' : World) : Prop := ∀ j, lo ≤ j → j < hi → w'.heap[j]? = w.heap[j]?
section
variable {w w' : World} {lo hi B : Nat}
theorem Same.cell (h : Same lo hi w w') {p : Addr} (h1 : lo ≤ p.block) (h2 : p.block < hi) : w'.cell? p = w.cell? p := World.cell?_of_block (w := w) (h p.block h1 h2)
theorem Same.frozen (h : Same lo hi w w') {p : Addr} (h1 : lo ≤ p.block) (h2 : p.block < hi) : w'.frozen? p = w.frozen? p := World.frozen?_of_block (w := w) (h p.block h1 h2)
theorem sm (h : Below B w w') (lo : Nat) {hi : Nat} (hB : hi ≤ B) : Same lo hi w w' := fun j _ h2 => h.block j (by omega)
theorem Same.setCell (h : Same lo hi w w') {p : Addr} (hp : p.block < lo ∨ hi ≤ p.block) (u : Value) : Same lo hi w (w'.setCell p u) := fun j h1 h2 => (Below.heap_setCell w' p u j (by omega)).trans (h j h1 h2)
theorem sset (h : Same lo hi w w') {g k : Nat} (hp : g < lo ∨ hi ≤ g) (u : Value) : Same lo hi w (w'.setCell ⟨g, k, none⟩ u) := h.setCell (p := ⟨g, k, none⟩) hp u
theorem Same.refl (lo hi : Nat) (w : World) : Same lo hi w w := fun _ _ _ => rfl
theorem Same.trans {w'' : World} (h : Same lo hi w w') (k : Same lo hi w' w'') : Same lo hi w w'' := fun j h1 h2 => (k j h1 h2).trans (h j h1 h2)
theorem Same.mono {lo' hi' : Nat} (h : Same lo hi w w') (h1 : lo ≤ lo') (h2 : hi' ≤ hi) : Same lo' hi' w w' := fun j a b => h j (by omega) (by omega)
end

/-- The value v is a slice, in the blocks from lo up to hi, that reads as the texts L. -/
def PgIn (w : World) (lo hi : Nat) (v : Value) (L : List ByteArray) : Prop :=
  ∃ A len cap, v = .slice A len cap ∧ len ≤ cap ∧ cap ≤ 9223372036854775807 ∧ L.length = len ∧ (∀ i, i < len → (L.getD i ByteArray.empty).size ≤ 9223372036854775807) ∧
    (0 < len → ∃ b off, A = some ⟨b, off, none⟩ ∧ lo ≤ b ∧ b < hi ∧ ∀ i, i < len → w.cell? ⟨b, off + i, none⟩ = some (.string (L.getD i ByteArray.empty)))
/-- The four cells of a block. -/
def BkAt (w : World) (g o : Nat) (x : Blk) (pv : Value) : Prop :=
  w.cell? ⟨g, o, none⟩ = some (.int .i64 x.er) ∧ w.cell? ⟨g, o + 1, none⟩ = some (.int .i64 x.nx) ∧ w.cell? ⟨g, o + 2, none⟩ = some (.bool x.bad) ∧ w.cell? ⟨g, o + 3, none⟩ = some pv
/-- The value v is a slice that reads as the blocks L. -/
def BksIn (w : World) (lo hi : Nat) (v : Value) (L : List Blk) : Prop :=
  ∃ A len cap, v = .slice A len cap ∧ len ≤ cap ∧ cap ≤ 9223372036854775807 ∧ L.length = len ∧
    (0 < len → ∃ g off, A = some ⟨g, off, none⟩ ∧ lo ≤ g ∧ g < hi ∧ ∀ i, i < len → ∃ pv, BkAt w g (off + i * 4) (L.getD i Blk.zero) pv ∧ PgIn w lo hi pv (L.getD i Blk.zero).pg)
/-- The cells of an array whose blocks are the slice v. -/
def flc (F : Fl) (v : Value) : Array Value := #[.int .i64 F.d, .int .i64 F.b, .int .i64 F.p, v, .int .i64 F.fu, .int .i64 F.ke, .bool F.off, .int .i64 F.op]
def FlIn (w : World) (lo hi : Nat) (v : Value) (F : Fl) : Prop := ∃ u, v = .agg (flc F u) ∧ BksIn w lo hi u F.bs
section
variable {w w' : World} {lo hi lo' hi' : Nat} {v : Value}
theorem PgIn.same {L : List ByteArray} (h : PgIn w lo hi v L) (hs : Same lo hi w w') : PgIn w' lo hi v L := by
  obtain ⟨A, len, cap, e, h1, h2, h3, h4, hc⟩ := h
  refine ⟨A, len, cap, e, h1, h2, h3, h4, fun h0 => ?_⟩
  obtain ⟨b, off, e, h1, h2, hx⟩ := hc h0
  exact ⟨b, off, e, h1, h2, fun i hi => (hs.cell (p := ⟨b, off + i, none⟩) h1 h2).trans (hx i hi)⟩
theorem PgIn.wide {L : List ByteArray} (h : PgIn w lo hi v L) (hl : lo' ≤ lo) (hh : hi ≤ hi') : PgIn w lo' hi' v L := by
  obtain ⟨A, len, cap, e, h1, h2, h3, h4, hc⟩ := h
  refine ⟨A, len, cap, e, h1, h2, h3, h4, fun h0 => ?_⟩
  obtain ⟨b, off, e, h1, h2, hx⟩ := hc h0
  exact ⟨b, off, e, by omega, by omega, hx⟩
theorem BkAt.same {g o : Nat} {x : Blk} {pv : Value} (h : BkAt w g o x pv) (hs : Same lo hi w w') (h1 : lo ≤ g) (h2 : g < hi) : BkAt w' g o x pv :=
  ⟨(hs.cell (p := ⟨g, o, none⟩) h1 h2).trans h.1, (hs.cell (p := ⟨g, o + 1, none⟩) h1 h2).trans h.2.1, (hs.cell (p := ⟨g, o + 2, none⟩) h1 h2).trans h.2.2.1, (hs.cell (p := ⟨g, o + 3, none⟩) h1 h2).trans h.2.2.2⟩
theorem BksIn.same {L : List Blk} (h : BksIn w lo hi v L) (hs : Same lo hi w w') : BksIn w' lo hi v L := by
  obtain ⟨A, len, cap, e, h1, h2, h3, hc⟩ := h
  refine ⟨A, len, cap, e, h1, h2, h3, fun h0 => ?_⟩
  obtain ⟨g, off, e, h1, h2, hx⟩ := hc h0
  refine ⟨g, off, e, h1, h2, fun i hi => ?_⟩
  obtain ⟨pv, a, b⟩ := hx i hi
  exact ⟨pv, a.same hs h1 h2, b.same hs⟩
theorem BksIn.wide {L : List Blk} (h : BksIn w lo hi v L) (hl : lo' ≤ lo) (hh : hi ≤ hi') : BksIn w lo' hi' v L := by
  obtain ⟨A, len, cap, e, h1, h2, h3, hc⟩ := h
  refine ⟨A, len, cap, e, h1, h2, h3, fun h0 => ?_⟩
  obtain ⟨g, off, e, h1, h2, hx⟩ := hc h0
  refine ⟨g, off, e, by omega, by omega, fun i hi => ?_⟩
  obtain ⟨pv, a, b⟩ := hx i hi
  exact ⟨pv, a, b.wide hl hh⟩
theorem FlIn.same {F : Fl} (h : FlIn w lo hi v F) (hs : Same lo hi w w') : FlIn w' lo hi v F := by
  obtain ⟨u, e, h⟩ := h; exact ⟨u, e, h.same hs⟩
theorem FlIn.wide {F : Fl} (h : FlIn w lo hi v F) (hl : lo' ≤ lo) (hh : hi ≤ hi') : FlIn w lo' hi' v F := by
  obtain ⟨u, e, h⟩ := h; exact ⟨u, e, h.wide hl hh⟩
end

/-- A slice of texts in memory of the call's own: beside block g, nothing frozen. -/
def PgOwn (w : World) (lo hi g : Nat) (v : Value) (L : List ByteArray) : Prop :=
  ∃ A len cap, v = .slice A len cap ∧ len ≤ cap ∧ cap ≤ 9223372036854775807 ∧ L.length = len ∧ (∀ i, i < len → (L.getD i ByteArray.empty).size ≤ 9223372036854775807) ∧
    (0 < len → ∃ b off, A = some ⟨b, off, none⟩ ∧ lo ≤ b ∧ b < hi ∧ b ≠ g ∧ (∀ k, w.frozen? ⟨b, k, none⟩ = false) ∧ ∀ i, i < len → w.cell? ⟨b, off + i, none⟩ = some (.string (L.getD i ByteArray.empty)))
/-- Two slices share no cell. -/
def Apart (v u : Value) : Prop := ∀ a n c a' n' c', v = .slice (some a) n c → u = .slice (some a') n' c' → 0 < n → 0 < n' → a.block ≠ a'.block ∨ a.off + n ≤ a'.off ∨ a'.off + n' ≤ a.off
theorem Apart.symm {v u : Value} (h : Apart v u) : Apart u v := fun a n c a' n' c' e1 e2 h1 h2 => by
  rcases h a' n' c' a n c e2 e1 h2 h1 with h | h | h
  · exact .inl fun e => h e.symm
  · exact .inr (.inr h)
  · exact .inr (.inl h)
/-- Block g holds the blocks L, whose pages' slices are pv 0, pv 1, ..: all of it the call's own. -/
structure BO (w : World) (lo hi g : Nat) (pv : Nat → Value) (L : List Blk) : Prop where
  low : lo ≤ g
  high : g < hi
  free : ∀ k, w.frozen? ⟨g, k, none⟩ = false
  row : ∀ i, i < L.length → BkAt w g (i * 4) (L.getD i Blk.zero) (pv i)
  pgs : ∀ i, i < L.length → PgOwn w lo hi g (pv i) (L.getD i Blk.zero).pg
  apart : ∀ i j, i < L.length → j < L.length → i ≠ j → Apart (pv i) (pv j)
/-- The value v is a slice of blocks of the call's own. -/
def BksOwn (w : World) (lo hi : Nat) (v : Value) (L : List Blk) : Prop :=
  ∃ A len cap, v = .slice A len cap ∧ len ≤ cap ∧ cap ≤ 9223372036854775807 ∧ L.length = len ∧ (0 < len → ∃ g pv, A = some ⟨g, 0, none⟩ ∧ BO w lo hi g pv L)
def FlOwn (w : World) (lo hi : Nat) (v : Value) (F : Fl) : Prop := ∃ u, v = .agg (flc F u) ∧ BksOwn w lo hi u F.bs
section
variable {w w' : World} {lo hi lo' hi' g : Nat} {v : Value}
theorem PgOwn.same {L : List ByteArray} (h : PgOwn w lo hi g v L) (hs : Same lo hi w w') : PgOwn w' lo hi g v L := by
  obtain ⟨A, len, cap, e, h1, h2, h3, h4, hc⟩ := h
  refine ⟨A, len, cap, e, h1, h2, h3, h4, fun h0 => ?_⟩
  obtain ⟨b, off, e, h1, h2, h3, hf, hx⟩ := hc h0
  exact ⟨b, off, e, h1, h2, h3, fun k => (hs.frozen (p := ⟨b, k, none⟩) h1 h2).trans (hf k), fun i hi => (hs.cell (p := ⟨b, off + i, none⟩) h1 h2).trans (hx i hi)⟩
theorem PgOwn.wide {L : List ByteArray} (h : PgOwn w lo hi g v L) (hl : lo' ≤ lo) (hh : hi ≤ hi') : PgOwn w lo' hi' g v L := by
  obtain ⟨A, len, cap, e, h1, h2, h3, h4, hc⟩ := h
  refine ⟨A, len, cap, e, h1, h2, h3, h4, fun h0 => ?_⟩
  obtain ⟨b, off, e, h1, h2, hx⟩ := hc h0
  exact ⟨b, off, e, by omega, by omega, hx⟩
theorem PgOwn.reads {L : List ByteArray} (h : PgOwn w lo hi g v L) : PgIn w lo hi v L := by
  obtain ⟨A, len, cap, e, h1, h2, h3, h4, hc⟩ := h
  refine ⟨A, len, cap, e, h1, h2, h3, h4, fun h0 => ?_⟩
  obtain ⟨b, off, e, h1, h2, h3, hf, hx⟩ := hc h0
  exact ⟨b, off, e, h1, h2, hx⟩
theorem BO.same {pv : Nat → Value} {L : List Blk} (h : BO w lo hi g pv L) (hs : Same lo hi w w') : BO w' lo hi g pv L :=
  ⟨h.low, h.high, fun k => (hs.frozen (p := ⟨g, k, none⟩) h.low h.high).trans (h.free k), fun i hi => (h.row i hi).same hs h.low h.high, fun i hi => (h.pgs i hi).same hs, h.apart⟩
theorem BO.wide {pv : Nat → Value} {L : List Blk} (h : BO w lo hi g pv L) (hl : lo' ≤ lo) (hh : hi ≤ hi') : BO w lo' hi' g pv L :=
  ⟨Nat.le_trans hl h.low, Nat.lt_of_lt_of_le h.high hh, h.free, h.row, fun i hi => (h.pgs i hi).wide hl hh, h.apart⟩
theorem BksOwn.same {L : List Blk} (h : BksOwn w lo hi v L) (hs : Same lo hi w w') : BksOwn w' lo hi v L := by
  obtain ⟨A, len, cap, e, h1, h2, h3, hc⟩ := h
  refine ⟨A, len, cap, e, h1, h2, h3, fun h0 => ?_⟩
  obtain ⟨g, pv, e, hb⟩ := hc h0
  exact ⟨g, pv, e, hb.same hs⟩
theorem BksOwn.wide {L : List Blk} (h : BksOwn w lo hi v L) (hl : lo' ≤ lo) (hh : hi ≤ hi') : BksOwn w lo' hi' v L := by
  obtain ⟨A, len, cap, e, h1, h2, h3, hc⟩ := h
  refine ⟨A, len, cap, e, h1, h2, h3, fun h0 => ?_⟩
  obtain ⟨g, pv, e, hb⟩ := hc h0
  exact ⟨g, pv, e, hb.wide hl hh⟩
theorem BksOwn.reads {L : List Blk} (h : BksOwn w lo hi v L) : BksIn w lo hi v L := by
  obtain ⟨A, len, cap, e, h1, h2, h3, hc⟩ := h
  refine ⟨A, len, cap, e, h1, h2, h3, fun h0 => ?_⟩
  obtain ⟨g, pv, e, hb⟩ := hc h0
  refine ⟨g, 0, e, hb.low, hb.high, fun i hi => ⟨pv i, ?_, (hb.pgs i (by omega)).reads⟩⟩
  rw [Nat.zero_add]; exact hb.row i (by omega)
theorem FlOwn.same {F : Fl} (h : FlOwn w lo hi v F) (hs : Same lo hi w w') : FlOwn w' lo hi v F := by
  obtain ⟨u, e, h⟩ := h; exact ⟨u, e, h.same hs⟩
theorem FlOwn.wide {F : Fl} (h : FlOwn w lo hi v F) (hl : lo' ≤ lo) (hh : hi ≤ hi') : FlOwn w lo' hi' v F := by
  obtain ⟨u, e, h⟩ := h; exact ⟨u, e, h.wide hl hh⟩
theorem FlOwn.reads {F : Fl} (h : FlOwn w lo hi v F) : FlIn w lo hi v F := by
  obtain ⟨u, e, h⟩ := h; exact ⟨u, e, h.reads⟩
theorem FlOwn.zero (w : World) (lo hi : Nat) : FlOwn w lo hi (.agg (flc Fl.zero (.slice none 0 0))) Fl.zero := ⟨_, rfl, none, 0, 0, rfl, Nat.le_refl _, by omega, rfl, fun h => by omega⟩
/-- A store into a field of block k. -/
theorem getD_set_eq {α : Type} (L : List α) (k : Nat) (x d : α) (h : k < L.length) : (L.set k x).getD k d = x := by simp [List.getD_eq_getElem?_getD, h]
theorem getD_set_ne {α : Type} (L : List α) (k i : Nat) (x d : α) (h : k ≠ i) : (L.set k x).getD i d = L.getD i d := by simp [List.getD_eq_getElem?_getD, List.getElem?_set_ne h]
theorem addr_ne {g g' o o' : Nat} (h : g = g' → o ≠ o') : (⟨g, o, none⟩ : Addr) ≠ ⟨g', o', none⟩ := fun e => by injection e with h1 h2; exact h h1 h2
theorem PgOwn.far {L : List ByteArray} (h : PgOwn w lo hi g v L) (k : Nat) (u : Value) : PgOwn (w.setCell ⟨g, k, none⟩ u) lo hi g v L := by
  obtain ⟨A, len, cap, e, h1, h2, h3, h4, hc⟩ := h
  refine ⟨A, len, cap, e, h1, h2, h3, h4, fun h0 => ?_⟩
  obtain ⟨b, off, e, h1, h2, h3, hf, hx⟩ := hc h0
  exact ⟨b, off, e, h1, h2, h3, fun k => by rw [World.frozen?_setCell]; exact hf k, fun i hi => by rw [World.cell?_setCell_other w _ _ _ (addr_ne fun e => absurd e.symm h3)]; exact hx i hi⟩
/-- What a store of the value u into cell c (0 .. 3) of a block makes of it. -/
def Blk.put (x : Blk) : Nat → Value → Blk
  | 0, .int .i64 n => { x with er := n }
  | 1, .int .i64 n => { x with nx := n }
  | 2, .bool b => { x with bad := b }
  | _, _ => x
theorem BO.store {pv : Nat → Value} {L : List Blk} (h : BO w lo hi g pv L) {k c : Nat} (hk : k < L.length) (u : Value) (hc : (c = 0 ∧ ∃ n, u = .int .i64 n) ∨ (c = 1 ∧ ∃ n, u = .int .i64 n) ∨ (c = 2 ∧ ∃ b, u = .bool b)) :
    BO (w.setCell ⟨g, k * 4 + c, none⟩ u) lo hi g pv (L.set k ((L.getD k Blk.zero).put c u)) := by
  have hc3 : c < 3 := by omega
  have hpg : ∀ i, i < L.length → ((L.set k ((L.getD k Blk.zero).put c u)).getD i Blk.zero).pg = (L.getD i Blk.zero).pg := by
    intro i hi
    by_cases e : k = i
    · subst e
      rw [getD_set_eq _ _ _ _ hk]
      rcases hc with ⟨rfl, n, rfl⟩ | ⟨rfl, n, rfl⟩ | ⟨rfl, n, rfl⟩ <;> rfl
    · rw [getD_set_ne _ _ _ _ _ e]
  refine ⟨h.low, h.high, fun j => by rw [World.frozen?_setCell]; exact h.free j, fun i hi => ?_, fun i hi => ?_, fun i j hi hj hne => h.apart i j (by simpa using hi) (by simpa using hj) hne⟩
  · rw [List.length_set] at hi
    have hr := h.row i hi
    by_cases e : k = i
    · subst e
      rw [getD_set_eq _ _ _ _ hk]
      obtain ⟨r0, r1, r2, r3⟩ := hr
      have o : ∀ j t, j ≠ c → w.cell? ⟨g, k * 4 + j, none⟩ = some t → (w.setCell ⟨g, k * 4 + c, none⟩ u).cell? ⟨g, k * 4 + j, none⟩ = some t := fun j t hj ht => by rw [World.cell?_setCell_other w _ _ _ (addr_ne fun _ => by omega)]; exact ht
      rcases hc with ⟨rfl, n, rfl⟩ | ⟨rfl, n, rfl⟩ | ⟨rfl, n, rfl⟩
      · exact ⟨World.cell?_setCell_same w _ _ r0, o 1 _ (by omega) r1, o 2 _ (by omega) r2, o 3 _ (by omega) r3⟩
      · exact ⟨o 0 _ (by omega) r0, World.cell?_setCell_same w _ _ r1, o 2 _ (by omega) r2, o 3 _ (by omega) r3⟩
      · exact ⟨o 0 _ (by omega) r0, o 1 _ (by omega) r1, World.cell?_setCell_same w _ _ r2, o 3 _ (by omega) r3⟩
    · rw [getD_set_ne _ _ _ _ _ e]
      have o : ∀ j t, j < 4 → w.cell? ⟨g, i * 4 + j, none⟩ = some t → (w.setCell ⟨g, k * 4 + c, none⟩ u).cell? ⟨g, i * 4 + j, none⟩ = some t := fun j t hj ht => by rw [World.cell?_setCell_other w _ _ _ (addr_ne fun _ => by omega)]; exact ht
      exact ⟨o 0 _ (by omega) hr.1, o 1 _ (by omega) hr.2.1, o 2 _ (by omega) hr.2.2.1, o 3 _ (by omega) hr.2.2.2⟩
  · rw [List.length_set] at hi
    rw [hpg i hi]
    exact (h.pgs i hi).far _ _
/-- A store into page n of block k. -/
theorem BO.storePg {pv : Nat → Value} {L : List Blk} (h : BO w lo hi g pv L) {k n b off len cap : Nat} (hk : k < L.length) (hn : n < len) (hv : pv k = .slice (some ⟨b, off, none⟩) len cap) (s : ByteArray) (hs : s.size ≤ 9223372036854775807) :
    BO (w.setCell ⟨b, off + n, none⟩ (.string s)) lo hi g pv (L.set k { L.getD k Blk.zero with pg := (L.getD k Blk.zero).pg.set n s }) := by
  have hbg : b ≠ g := by
    obtain ⟨A, l', c', e, _, _, _, _, hx⟩ := h.pgs k hk
    rw [hv] at e
    injection e with e1 e2 e3
    subst e2
    obtain ⟨b', o', e4, _, _, h6, _⟩ := hx (by omega)
    rw [e4] at e1
    injection e1 with e1
    injection e1 with e1
    omega
  refine ⟨h.low, h.high, fun j => by rw [World.frozen?_setCell]; exact h.free j, fun i hi => ?_, fun i hi => ?_, fun i j hi hj hne => h.apart i j (by simpa using hi) (by simpa using hj) hne⟩
  · rw [List.length_set] at hi
    have hr := h.row i hi
    have o : ∀ j t, w.cell? ⟨g, j, none⟩ = some t → (w.setCell ⟨b, off + n, none⟩ (.string s)).cell? ⟨g, j, none⟩ = some t := fun j t ht => by rw [World.cell?_setCell_other w _ _ _ (addr_ne fun e => absurd e hbg)]; exact ht
    have hr2 : BkAt (w.setCell ⟨b, off + n, none⟩ (.string s)) g (i * 4) (L.getD i Blk.zero) (pv i) := ⟨o _ _ hr.1, o _ _ hr.2.1, o _ _ hr.2.2.1, o _ _ hr.2.2.2⟩
    by_cases e : k = i
    · subst e
      rw [getD_set_eq _ _ _ _ hk]
      exact hr2
    · rw [getD_set_ne _ _ _ _ _ e]
      exact hr2
  · rw [List.length_set] at hi
    by_cases e : k = i
    · subst e
      rw [getD_set_eq _ _ _ _ hk]
      obtain ⟨A, l', c', e, h1, h2, h3, h4, hx⟩ := h.pgs k hk
      rw [hv] at e
      injection e with e1 e2 e3
      subst e1 e2 e3
      refine ⟨_, _, _, hv, h1, h2, by simpa using h3, fun i hi => ?_, fun h0 => ?_⟩
      · show ((List.set _ n s).getD i ByteArray.empty).size ≤ _
        by_cases e : n = i
        · subst e; rw [getD_set_eq _ _ _ _ (by omega)]; exact hs
        · rw [getD_set_ne _ _ _ _ _ e]; exact h4 i hi
      · obtain ⟨b', o', e4, h5, h6, h7, hf, hc⟩ := hx h0
        injection e4 with e4
        injection e4 with e4 e5
        subst e4 e5
        refine ⟨_, _, rfl, h5, h6, h7, fun j => by rw [World.frozen?_setCell]; exact hf j, fun i hi => ?_⟩
        show _ = some (Value.string ((List.set _ n s).getD i ByteArray.empty))
        by_cases e : n = i
        · subst e; rw [getD_set_eq _ _ _ _ (by omega)]; exact World.cell?_setCell_same w _ _ (hc n hi)
        · rw [getD_set_ne _ _ _ _ _ e, World.cell?_setCell_other w _ _ _ (addr_ne fun _ => by omega)]; exact hc i hi
    · rw [getD_set_ne _ _ _ _ _ e]
      obtain ⟨A, l', c', e', h1, h2, h3, h4, hx⟩ := h.pgs i hi
      refine ⟨A, l', c', e', h1, h2, h3, h4, fun h0 => ?_⟩
      obtain ⟨b', o', rfl, h5, h6, h7, hf, hc⟩ := hx h0
      have ha := h.apart k i hk hi e _ _ _ _ _ _ hv e' (by omega) h0
      refine ⟨b', o', rfl, h5, h6, h7, fun j => by rw [World.frozen?_setCell]; exact hf j, fun j hj => ?_⟩
      rw [World.cell?_setCell_other w _ _ _ (addr_ne fun e2 => ?_)]
      · exact hc j hj
      · simp only at ha; omega
/-- Slices in other blocks share nothing. -/
theorem PgOwn.apart {lo mid hi g g' : Nat} {v u : Value} {L M : List ByteArray} (h : PgOwn w lo mid g v L) (k : PgOwn w mid hi g' u M) : Apart v u := by
  intro a n c a' n' c' e1 e2 h1 h2
  obtain ⟨A, l, c1, e, _, _, _, _, hx⟩ := h
  obtain ⟨A', l', c1', e', _, _, _, _, hx'⟩ := k
  rw [e1] at e
  rw [e2] at e'
  injection e with p1 p2 p3
  injection e' with q1 q2 q3
  subst p2 q2
  obtain ⟨b, o, rfl, _, h5, _⟩ := hx h1
  obtain ⟨b', o', rfl, h6, _, _⟩ := hx' h2
  injection p1 with p1
  injection q1 with q1
  subst p1 q1
  left
  simp only
  omega
/-- Block k of the row gets a new content. -/
theorem BO.fill {pv : Nat → Value} {L : List Blk} {mid : Nat} (h : BO w lo mid g pv L) {k : Nat} (hk : k < L.length) (x : Blk) (u : Value) (hu : PgOwn w mid hi g u x.pg) (hm : mid ≤ hi) :
    BO ((((w.setCell ⟨g, k * 4, none⟩ (.int .i64 x.er)).setCell ⟨g, k * 4 + 1, none⟩ (.int .i64 x.nx)).setCell ⟨g, k * 4 + 2, none⟩ (.bool x.bad)).setCell ⟨g, k * 4 + 3, none⟩ u) lo hi g (fun i => if i = k then u else pv i) (L.set k x) := by
  have h1 := h.low
  have h2 := h.high
  refine ⟨h.low, by omega, fun j => by simp only [World.frozen?_setCell]; exact h.free j, fun i hi' => ?_, fun i hi' => ?_, fun i j hi' hj hne => ?_⟩
  · rw [List.length_set] at hi'
    by_cases e : i = k
    · subst e
      rw [getD_set_eq _ _ _ _ hk, if_pos rfl]
      obtain ⟨r0, r1, r2, r3⟩ := h.row i hi'
      refine ⟨?_, ?_, ?_, ?_⟩
      · rw [World.cell?_setCell_other _ _ _ _ (addr_ne fun _ => by omega), World.cell?_setCell_other _ _ _ _ (addr_ne fun _ => by omega), World.cell?_setCell_other _ _ _ _ (addr_ne fun _ => by omega)]
        exact World.cell?_setCell_same w _ _ r0
      · rw [World.cell?_setCell_other _ _ _ _ (addr_ne fun _ => by omega), World.cell?_setCell_other _ _ _ _ (addr_ne fun _ => by omega)]
        exact World.cell?_setCell_same _ _ _ ((World.cell?_setCell_other w _ _ _ (addr_ne fun _ => by omega)).trans r1)
      · rw [World.cell?_setCell_other _ _ _ _ (addr_ne fun _ => by omega)]
        exact World.cell?_setCell_same _ _ _ ((World.cell?_setCell_other _ _ _ _ (addr_ne fun _ => by omega)).trans ((World.cell?_setCell_other w _ _ _ (addr_ne fun _ => by omega)).trans r2))
      · exact World.cell?_setCell_same _ _ _ ((World.cell?_setCell_other _ _ _ _ (addr_ne fun _ => by omega)).trans ((World.cell?_setCell_other _ _ _ _ (addr_ne fun _ => by omega)).trans ((World.cell?_setCell_other w _ _ _ (addr_ne fun _ => by omega)).trans r3)))
    · rw [getD_set_ne _ _ _ _ _ (fun e' => e e'.symm), if_neg e]
      obtain ⟨r0, r1, r2, r3⟩ := h.row i hi'
      have o : ∀ j t, j < 4 → w.cell? ⟨g, i * 4 + j, none⟩ = some t → ((((w.setCell ⟨g, k * 4, none⟩ (.int .i64 x.er)).setCell ⟨g, k * 4 + 1, none⟩ (.int .i64 x.nx)).setCell ⟨g, k * 4 + 2, none⟩ (.bool x.bad)).setCell ⟨g, k * 4 + 3, none⟩ u).cell? ⟨g, i * 4 + j, none⟩ = some t := fun j t hj ht => by
        rw [World.cell?_setCell_other _ _ _ _ (addr_ne fun _ => by omega), World.cell?_setCell_other _ _ _ _ (addr_ne fun _ => by omega), World.cell?_setCell_other _ _ _ _ (addr_ne fun _ => by omega), World.cell?_setCell_other _ _ _ _ (addr_ne fun _ => by omega)]; exact ht
      exact ⟨o 0 _ (by omega) r0, o 1 _ (by omega) r1, o 2 _ (by omega) r2, o 3 _ (by omega) r3⟩
  · rw [List.length_set] at hi'
    by_cases e : i = k
    · subst e
      rw [getD_set_eq _ _ _ _ hk, if_pos rfl]
      exact ((((hu.far _ _).far _ _).far _ _).far _ _).wide (by omega) (Nat.le_refl _)
    · rw [getD_set_ne _ _ _ _ _ (fun e' => e e'.symm), if_neg e]
      exact (((((h.pgs i hi').wide (Nat.le_refl _) hm).far _ _).far _ _).far _ _).far _ _
  · rw [List.length_set] at hi' hj
    by_cases e : i = k
    · by_cases e2 : j = k
      · omega
      · rw [if_pos e, if_neg e2]
        exact ((h.pgs j hj).apart hu).symm
    · by_cases e2 : j = k
      · rw [if_neg e, if_pos e2]
        exact (h.pgs i hi').apart hu
      · rw [if_neg e, if_neg e2]
        exact h.apart i j hi' hj hne
/-- A row that was just made: blocks without pages. -/
theorem BO.made {B n : Nat} {E : TypeId} (h : w.ownsRow B E 4 (.slice (some ⟨g, 0, none⟩) n n) n (madeCells #[.int .i64 0, .int .i64 0, .bool false, .slice none 0 0] (n * 4)).toList) (hg : g < w.heap.size) (hB : B ≤ g) :
    BO w B w.heap.size g (fun _ => .slice none 0 0) (List.replicate n Blk.zero) := by
  have hx : ∀ i, (List.replicate n Blk.zero).getD i Blk.zero = Blk.zero := fun i => by
    rw [List.getD_eq_getElem?_getD, List.getElem?_replicate]; split <;> rfl
  have hc : ∀ i c, i < n → c < 4 → w.cell? ⟨g, i * 4 + c, none⟩ = some ((#[Value.int .i64 0, .int .i64 0, .bool false, .slice none 0 0] : Array Value)[c]!) := fun i c hi hc => by
    rw [World.ownsRow.cellAt h _ (by omega)]
    have e : (i * 4 + c) % 4 = c := by omega
    simp [madeCells, show i * 4 + c < n * 4 by omega, e]
  refine ⟨hB, hg, World.ownsRow.frozenAt h, fun i hi => ?_, fun i hi => ?_, fun i j hi hj _ => ?_⟩
  · rw [hx]
    rw [List.length_replicate] at hi
    exact ⟨hc i 0 hi (by omega), hc i 1 hi (by omega), hc i 2 hi (by omega), hc i 3 hi (by omega)⟩
  · rw [hx]
    exact ⟨none, 0, 0, rfl, Nat.le_refl _, by omega, rfl, fun i hi => by omega, fun h => by omega⟩
  · intro a n c a' n' c' e; cases e
theorem set_fill (L : List Blk) (n k : Nat) (hn : L.length = n) (h : k < n) : (L.take k ++ List.replicate (n - k) Blk.zero).set k (L.getD k Blk.zero) = L.take (k + 1) ++ List.replicate (n - (k + 1)) Blk.zero := by
  subst hn
  rw [List.set_append_right _ _ (by simp; omega), List.length_take, Nat.min_eq_left (by omega), Nat.sub_self, show L.length - k = (L.length - (k + 1)) + 1 by omega, List.replicate_succ, List.set_cons_zero, List.take_succ_eq_append_getElem h, List.append_assoc, List.getD_eq_getElem?_getD, List.getElem?_eq_getElem h]; rfl
/-- A page's cell. -/
theorem BO.page {pv : Nat → Value} {L : List Blk} (h : BO w lo hi g pv L) {k t b off n cap : Nat} (hk : k < L.length) (hv : pv k = .slice (some ⟨b, off, none⟩) n cap) (ht : t < n) :
    w.cell? ⟨b, off + t, none⟩ = some (.string ((L.getD k Blk.zero).pg.getD t ByteArray.empty)) ∧ w.frozen? ⟨b, off + t, none⟩ = false ∧ lo ≤ b ∧ b < hi ∧ ((L.getD k Blk.zero).pg.getD t ByteArray.empty).size ≤ 9223372036854775807 := by
  obtain ⟨A, l', c', e, h1, h2, h3, h4, hx⟩ := h.pgs k hk
  rw [hv] at e
  injection e with e1 e2 e3
  subst e1 e2 e3
  obtain ⟨b', o', e4, h5, h6, h7, hf, hc⟩ := hx (by omega)
  injection e4 with e4
  injection e4 with e4 e5
  subst e4 e5
  exact ⟨hc t ht, hf _, h5, h6, h4 t ht⟩
theorem BO.pageLen {pv : Nat → Value} {L : List Blk} (h : BO w lo hi g pv L) {k : Nat} (hk : k < L.length) {A : Option Addr} {n cap : Nat} (hv : pv k = .slice A n cap) : (L.getD k Blk.zero).pg.length = n := by
  obtain ⟨A, l', c', e, h1, h2, h3, h4, hx⟩ := h.pgs k hk
  rw [hv] at e
  injection e with e1 e2 e3
  omega
end
end Go.Proofs.Yteigdjocjcjkiaa
/- Slices of texts: those that come in and are read, those that the call itself makes; the laws' helpers szStringS, toStringS, eqStringS. -/
namespace Go.Proofs.Yteigdjocjcjkiaa
open Go.RowKit

/-- What is known of a slice of texts that came in. -/
def IsStrs (w : World) (a : Option Addr) (len cap : Nat) (zs : List ByteArray) : Prop :=
  (a = none ∧ len = 0 ∧ cap = 0 ∧ zs = []) ∨
  ∃ x, a = some x ∧ len ≤ cap ∧ cap ≤ maxLen ∧ zs.length = cap ∧ (∀ i, i < zs.length → w.cell? (x.add i) = some (.string (zs.getD i ByteArray.empty))) ∧ ∀ s ∈ zs, s.size ≤ maxLen
/-- The value v is a slice that reads as the texts L. -/
def StrsIn (w : World) (v : Value) (L : List ByteArray) : Prop := ∃ A len cap, v = .slice A len cap ∧ len ≤ cap ∧ cap ≤ 9223372036854775807 ∧ L.length = len ∧ (0 < len → ∃ b off, A = some ⟨b, off, none⟩ ∧ b < w.heap.size ∧ ∀ i, i < len → w.cell? ⟨b, off + i, none⟩ = some (.string (L.getD i ByteArray.empty)))
theorem StrsIn.below {w w' : World} {B : Nat} {v : Value} {L : List ByteArray} (h : StrsIn w v L) (hb : Below B w w') (hB : w.heap.size ≤ B) : StrsIn w' v L := by
  obtain ⟨A, len, cap, rfl, hlc, hcm, hl, hc⟩ := h
  refine ⟨A, len, cap, rfl, hlc, hcm, hl, fun h0 => ?_⟩
  obtain ⟨b, off, rfl, hbl, hx⟩ := hc h0
  exact ⟨b, off, rfl, by have := hb.size; omega, fun i hi => (hb.cell (p := ⟨b, off + i, none⟩) (Nat.lt_of_lt_of_le hbl hB)).trans (hx i hi)⟩
theorem IsStrs.reads {w : World} {a : Option Addr} {len cap : Nat} {zs : List ByteArray} (h : IsStrs w a len cap zs) : StrsIn w (.slice a len cap) (zs.take len) ∧ ∀ s ∈ zs.take len, s.size ≤ maxLen := by
  rcases h with ⟨rfl, rfl, rfl, rfl⟩ | ⟨x, rfl, h1, h2, h3, hc, hw⟩
  · exact ⟨⟨none, 0, 0, rfl, Nat.le_refl _, by omega, rfl, fun h => by omega⟩, fun s hs => by cases hs⟩
  · refine ⟨⟨_, len, cap, rfl, h1, by unfold maxLen at h2; omega, by simp; omega, fun h0 => ?_⟩, fun s hs => hw s (List.mem_of_mem_take hs)⟩
    obtain ⟨b, off, spot⟩ := x
    have h00 := hc 0 (by omega)
    have hspot : spot = none := by simpa [Addr.add] using World.cell?_spot h00
    subst hspot
    refine ⟨b, off, rfl, World.block_lt_of_cell? w ⟨b, off, none⟩ (by simpa [Addr.add] using h00), fun i hi => ?_⟩
    have := hc i (by omega)
    have e : (⟨b, off, none⟩ : Addr).add i = ⟨b, off + i, none⟩ := by unfold Addr.add; split <;> simp_all
    rw [e] at this
    rw [this, List.getD_eq_getElem?_getD, List.getD_eq_getElem?_getD, List.getElem?_take, if_pos hi]
/-- The value v is a slice of the call's own (in a block from B on) that holds the texts L. -/
def StrsOwn (w : World) (B : Nat) (v : Value) (L : List ByteArray) : Prop := w.ownsRow B 9 1 v L.length (L.map Value.string)
theorem infoStr : (Try.prog.info? 9).map (fun i => (i.zero, i.size, i.bytes)) = some (some (.string ByteArray.empty), 1, 16) := by kernel_rfl
section
variable {w w' : World} {B : Nat} {v : Value} {L : List ByteArray}
theorem StrsOwn.shape (h : StrsOwn w B v L) : (v = .slice none 0 0 ∧ L = []) ∨ ∃ g cap, v = .slice (some ⟨g, 0, none⟩) L.length cap ∧ L.length ≤ cap ∧ cap ≤ 9223372036854775807 ∧ B ≤ g ∧ g < w.heap.size := by
  rcases h.2 with ⟨h1, h2⟩ | ⟨g, cap, cur, h1, h2, h3, h4, h5, _⟩
  · exact .inl ⟨h1, List.eq_nil_of_length_eq_zero h2⟩
  · refine .inr ⟨g, cap, h1, h4, by unfold maxLen at h5; omega, h2, ?_⟩
    rcases Nat.lt_or_ge g w.heap.size with hlt | hge
    · exact hlt
    · rw [Array.getElem?_eq_none hge] at h3; cases h3
theorem StrsOwn.cell {g n cap : Nat} (h : StrsOwn w B (.slice (some ⟨g, 0, none⟩) n cap) L) {j : Nat} (hn : L.length = n) (hj : j < n) : w.cell? ⟨g, j, none⟩ = some (.string (L.getD j ByteArray.empty)) := by
  unfold StrsOwn at h
  rw [hn] at h
  rw [World.ownsRow.cellAt h j (by omega)]
  simp [show j < L.length by omega]
theorem StrsOwn.free {g n cap : Nat} (h : StrsOwn w B (.slice (some ⟨g, 0, none⟩) n cap) L) (hn : L.length = n) (j : Nat) : w.frozen? ⟨g, j, none⟩ = false := by
  unfold StrsOwn at h
  rw [hn] at h
  exact World.ownsRow.frozenAt h j
theorem StrsOwn.stored {g n cap : Nat} (h : StrsOwn w B (.slice (some ⟨g, 0, none⟩) n cap) L) (hn : L.length = n) (j : Nat) (b : ByteArray) :
    StrsOwn (w.setCell ⟨g, j, none⟩ (.string b)) B (.slice (some ⟨g, 0, none⟩) n cap) (L.set j b) := by
  unfold StrsOwn at h ⊢
  rw [hn] at h
  have := (World.ownsRow.stored h j (.string b)).1
  rw [List.length_set, hn, List.map_set]
  exact this
theorem StrsOwn.reads (h : StrsOwn w B v L) : StrsIn w v L := by
  rcases h.shape with ⟨rfl, rfl⟩ | ⟨g, cap, rfl, h1, h2, h3, h4⟩
  · exact ⟨none, 0, 0, rfl, Nat.le_refl _, by omega, rfl, fun h => by omega⟩
  · exact ⟨_, _, _, rfl, h1, h2, rfl, fun _ => ⟨g, 0, rfl, h4, fun i hi => by rw [Nat.zero_add]; exact h.cell rfl hi⟩⟩
theorem StrsOwn.later {B' : Nat} (h : StrsOwn w B v L) (hb : Below B' w w') (hB : w.heap.size ≤ B') : StrsOwn w' B v L := by
  refine ⟨h.1, ?_⟩
  rcases h.2 with h2 | ⟨g, cap, cur, h1, h2, h3, h4⟩
  · exact .inl h2
  · have hg : g < w.heap.size := by
      rcases Nat.lt_or_ge g w.heap.size with hlt | hge
      · exact hlt
      · rw [Array.getElem?_eq_none hge] at h3; cases h3
    exact .inr ⟨g, cap, cur, h1, h2, (hb.block g (by omega)).trans h3, h4⟩
end
theorem wpList_make_strs {Q : Exit → Act → World → Prop} {ops : Array Oper} {rest : List Oper} {o : Oper} {a : Act} {w0 w : World} {B : Nat} (hgd : o.guard = none) (l c : Operand)
    (ho : o.op = Op.makeSlice 49 l c) (n : Nat) (hl : a.eval l = .int .i64 (n : Int)) (hc : a.eval c = .int .i64 (n : Int)) (hn : n ≤ 1048576)
    (hb : Below B w0 w) (hB : B ≤ w.heap.size)
    (h : ∀ w', StrsOwn w' B (.slice (some ⟨w.heap.size, 0, none⟩) n n) (List.replicate n ByteArray.empty) → Below B w0 w' → wpList Try.prog ops Q rest (a.put o.dst (.slice (some ⟨w.heap.size, 0, none⟩) n n)) w') :
    wpList Try.prog ops Q (o :: rest) a w := by
  obtain ⟨i0, hi, hz0, hz1, hz2⟩ := info_parts infoStr
  refine wpList_make_full w hgd l c _ ho B 9 i0 (.string ByteArray.empty) 1 Try.underlying49 hi hz0 hz1 .i64 .i64 (n : Int) (n : Int) n hl hc rfl rfl (by rw [hz2]; omega) (by unfold maxLen; omega) hB ?_
  intro w' h1 h2
  refine h w' ?_ (hb.grown h2 hB fun k hk => by simp at hk)
  have e : (madeCells (Value.string ByteArray.empty).cells (n * 1)).toList = (List.replicate n ByteArray.empty).map Value.string := by
    show (madeCells #[Value.string ByteArray.empty] (n * 1)).toList = _
    rw [toList_madeCells_one]; simp
  rw [e] at h1
  unfold StrsOwn; simpa using h1
def CopyPost (L : List ByteArray) (w : World) (e : Ending) (w' : World) : Prop := ∃ v, e = .returned v ∧ StrsOwn w' w.heap.size v L ∧ Below w.heap.size w w'
theorem take_set (L : List ByteArray) (k : Nat) (h : k < L.length) : (L.take k ++ List.replicate (L.length - k) ByteArray.empty).set k (L.getD k ByteArray.empty) = L.take (k + 1) ++ List.replicate (L.length - (k + 1)) ByteArray.empty := by
  rw [List.set_append_right _ _ (by simp; omega), List.length_take, Nat.min_eq_left (by omega), Nat.sub_self, show L.length - k = (L.length - (k + 1)) + 1 by omega, List.replicate_succ, List.set_cons_zero, List.take_succ_eq_append_getElem h, List.append_assoc, List.getD_eq_getElem?_getD, List.getElem?_eq_getElem h]; rfl
theorem toStrs_any (u : Value) (L : List ByteArray) (w : World) (hu : StrsIn w u L) (hl : L.length ≤ 1048576) :
    Calls Try.prog 95 #[u] w (CopyPost L w) := by
  obtain ⟨A, n, cap, rfl, hlc, hcm, hn, hA⟩ := hu
  have hnm : (n : Int) ≤ 1048576 := by omega
  rcases Nat.eq_zero_or_pos n with h0 | h0
  · subst h0
    obtain rfl : L = [] := List.eq_nil_of_length_eq_zero hn
    clear hA hn hlc hcm
    go_enter Try.func95, Try.ntmps95
    go_wp2_with (refine wpList_make_strs rfl _ _ rfl 0 rfl rfl (by omega) (Below.refl w.heap.size w) (Nat.le_refl _) ?_; intro w1 hown hb)
    go_loop [4] (fun i => i = .int .i64 0) (fun _ => 0)
    case atStart => rfl
    case round =>
      obtain rfl := hrel
      go_wp2
      go_ret
      exact ⟨_, rfl, hown, hb⟩
  · obtain ⟨b, off, rfl, hbl, hx⟩ := hA h0
    have HX := Lib.hid hx
    have HN := Lib.hid hn
    clear hA hx hn hlc hcm
    go_enter Try.func95, Try.ntmps95
    go_wp2_with (refine wpList_make_strs rfl _ _ rfl n rfl rfl (by omega) (Below.refl w.heap.size w) (Nat.le_refl _) ?_; intro w1 hown hb)
    go_loopw [4] (fun i wr => ∃ k : Nat, k ≤ n ∧ i = .int .i64 k ∧ StrsOwn wr w.heap.size (.slice (some ⟨w.heap.size, 0, none⟩) n n) (L.take k ++ List.replicate (n - k) ByteArray.empty) ∧ Below w.heap.size w wr) (fun i _ => n - (intOf i).toNat)
    case atStart => exact ⟨0, by omega, rfl, by simpa using hown, hb⟩
    case round =>
      clear hown hb
      obtain ⟨k, hk, rfl, hown, hb⟩ := hrel
      have hN := HN.out
      have hlen : (L.take k ++ List.replicate (n - k) ByteArray.empty).length = n := by simp; omega
      by_cases hlt : k < n
      · have hki : (k : Int) < (n : Int) := by omega
        have c1 := (hb.cell (p := ⟨b, off + k, none⟩) hbl).trans (HX.out k hlt)
        have c2 := hown.cell (j := k) hlen hlt
        have f2 := hown.free hlen k
        have hs := hown.stored hlen k (L.getD k ByteArray.empty)
        have hse := take_set L k (by omega)
        rw [hN] at hse
        rw [hse] at hs
        have hb2 := hb.setCell (p := ⟨w.heap.size, k, none⟩) (Nat.le_refl _) (.string (L.getD k ByteArray.empty))
        clear hown hb hN hlen hse
        generalize L.getD k ByteArray.empty = x at *
        go_wp2
        go_roundw
        case rel => exact ⟨k + 1, by omega, by go_num, hs, hb2⟩
        case measure => simp [intOf]; omega
      · obtain rfl : k = n := by omega
        rw [Nat.sub_self, List.replicate_zero, List.append_nil, List.take_of_length_le (by omega)] at hown
        clear hN hlen
        go_wp2
        go_ret
        exact ⟨_, rfl, hown, hb⟩
theorem eqStrs_any (u v : Value) (L : List ByteArray) (w : World) (hu : StrsIn w u L) (hv : StrsIn w v L) (hl : L.length ≤ 1048576) :
    Calls Try.prog 97 #[u, v] w fun e w' => e = .returned (.bool true) ∧ Below w.heap.size w w' := by
  obtain ⟨A, n, cap, rfl, _, _, hn, hA⟩ := hu
  obtain ⟨A', n', cap', rfl, _, _, hn', hA'⟩ := hv
  obtain rfl : n = n' := by omega
  have hnm : (n : Int) ≤ 1048576 := by omega
  rcases Nat.eq_zero_or_pos n with h0 | h0
  · subst h0
    clear hA hA' hn hn'
    go_enter Try.func97, Try.ntmps97
    go_wp2
    go_loop [5] (fun i => i = .int .i64 0) (fun _ => 0)
    case atStart => rfl
    case round =>
      obtain rfl := hrel
      go_wp2
      go_ret
      exact ⟨rfl, Below.refl _ _⟩
  · obtain ⟨b, off, rfl, hbl, hx⟩ := hA h0
    obtain ⟨b', off', rfl, hbl', hx'⟩ := hA' h0
    have HX := Lib.hid hx
    have HX' := Lib.hid hx'
    clear hA hA' hx hx' hn hn' h0
    go_enter Try.func97, Try.ntmps97
    go_wp2
    go_loopw [5] (fun i wr => ∃ k : Nat, k ≤ n ∧ i = .int .i64 k ∧ Below w.heap.size w wr) (fun i _ => n - (intOf i).toNat)
    case atStart => exact ⟨0, by omega, rfl, Below.refl _ _⟩
    case round =>
      obtain ⟨k, hk, rfl, hb⟩ := hrel
      by_cases hlt : k < n
      · have hki : (k : Int) < (n : Int) := by omega
        have c1 := (hb.cell (p := ⟨b, off + k, none⟩) hbl).trans (HX.out k hlt)
        have c2 := (hb.cell (p := ⟨b', off' + k, none⟩) hbl').trans (HX'.out k hlt)
        generalize L.getD k ByteArray.empty = x at *
        have hxx := str_same (rfl : x = x)
        go_wp2
        go_quiet (fail)
        go_wp2
        go_roundw
        case rel => exact ⟨k + 1, by omega, by go_num, ⟨hb.os, hb.tape, hb.output, hb.size, hb.block⟩⟩
        case measure => simp [intOf]; omega
      · obtain rfl : k = n := by omega
        go_wp2
        go_ret
        exact ⟨rfl, hb⟩
/-- The size left: negative, or all is small. -/
def SizePost (L : List ByteArray) (w : World) (e : Ending) (w' : World) : Prop := ∃ x : Int, e = .returned (.int .i64 x) ∧ (0 ≤ x → L.length ≤ 1048576 ∧ ∀ i, i < L.length → (L.getD i ByteArray.empty).size ≤ 1048576) ∧ w = w'
theorem szStrs_any (u : Value) (L : List ByteArray) (w : World) (hu : StrsIn w u L) (hs : ∀ i, i < L.length → (L.getD i ByteArray.empty).size ≤ 9223372036854775807) :
    Calls Try.prog 93 #[u, .int .i64 1048576] w (SizePost L w) := by
  obtain ⟨A, n, cap, rfl, hlc, hcm, hn, hA⟩ := hu
  have hnm : (n : Int) ≤ 9223372036854775807 := by omega
  by_cases hbig : 1048576 < n
  · have hbi : (1048576 : Int) < (n : Int) := by omega
    have h0 : 0 < n := by omega
    clear hA hs
    go_enter Try.func93, Try.ntmps93
    go_wp2
    go_ret
    exact ⟨_, rfl, fun h => by omega, rfl⟩
  · have hsm : (n : Int) ≤ 1048576 := by omega
    have HS := Lib.hid hs
    have HN := Lib.hid hn
    rcases Nat.eq_zero_or_pos n with h0 | h0
    · subst h0
      clear hA hs hn
      go_enter Try.func93, Try.ntmps93
      go_wp2
      go_loop [1, 5] (fun u i => u = .int .i64 1048576 ∧ i = .int .i64 0) (fun _ _ => 0)
      case atStart => exact ⟨rfl, rfl⟩
      case round =>
        obtain ⟨rfl, rfl⟩ := hrel
        go_wp2
        go_ret
        exact ⟨_, rfl, fun _ => ⟨by have := HN.out; omega, fun i hi => by have := HN.out; omega⟩, rfl⟩
    · obtain ⟨b, off, rfl, hbl, hx⟩ := hA h0
      have HX := Lib.hid hx
      clear hA hs hx hn
      go_enter Try.func93, Try.ntmps93
      go_wp2
      go_loop [1, 5] (fun u i => ∃ (k : Nat) (x : Int), k ≤ n ∧ 0 ≤ x ∧ x ≤ 1048576 ∧ i = .int .i64 k ∧ u = .int .i64 x ∧ Hid (∀ j, j < k → (L.getD j ByteArray.empty).size ≤ 1048576)) (fun _ i => n - (intOf i).toNat)
      case atStart => exact ⟨0, 1048576 - (n : Int), by omega, by omega, by omega, rfl, rfl, Lib.hid (fun j hj => by omega)⟩
      case round =>
        obtain ⟨k, x, hk, hx0, hx1, rfl, rfl, HA⟩ := hrel
        by_cases hlt : k < n
        · have hki : (k : Int) < (n : Int) := by omega
          have hc := HX.out k hlt
          have hsz := HS.out k (by have := HN.out; omega)
          have HC : Hid ((L.getD k ByteArray.empty).size = (L.getD k ByteArray.empty).size) := Lib.hid rfl
          obtain ⟨y, hy⟩ : ∃ y, y = L.getD k ByteArray.empty := ⟨_, rfl⟩
          rw [← hy] at hc hsz
          have HY := Lib.hid hy
          clear hy HC
          by_cases hneg : x < (y.size : Int)
          · go_wp2
            go_ret
            exact ⟨_, rfl, fun h => by omega, rfl⟩
          · have hpos : (y.size : Int) ≤ x := by omega
            go_wp2
            go_round
            case rel => exact ⟨k + 1, x - (y.size : Int), by omega, by omega, by omega, by go_num, rfl, Lib.hid (fun j hj => by
              by_cases e : j = k
              · rw [e, ← HY.out]; omega
              · exact HA.out j (by omega))⟩
            case measure => simp [intOf]; omega
        · obtain rfl : k = n := by omega
          go_wp2
          go_ret
          exact ⟨_, rfl, fun _ => ⟨by have := HN.out; omega, fun i hi => HA.out i (by have := HN.out; omega)⟩, rfl⟩
end Go.Proofs.Yteigdjocjcjkiaa
