/- The proof's own lemmas, part 7: EccN WdN DecN. -/
import Derived.Test.YthenilomgbnpeaaGreatDoorMg1
import Derived.WalkKit
import Derived.Test.YthenilomgbnpeaaGreatDoorMg5
/- Plain facts on codewords of 72 bits: positions, syndrome, parity, single errors. -/
namespace Go.Proofs.YthenilomgbnpeaaGreatDoor
open Go.RowKit

theorem xorAdd (r n a : Nat) (h : r < 2 ^ n) : r ^^^ 2 ^ n * a = r + 2 ^ n * a := by
  apply Nat.eq_of_testBit_eq
  intro j
  have h1 := Nat.testBit_two_pow_mul_add a h j
  have h2 := Nat.testBit_two_pow_mul_add a (Nat.two_pow_pos n) j
  rw [Nat.add_zero] at h2
  rw [Nat.add_comm r, h1, Nat.testBit_xor, h2]
  by_cases hj : j < n
  · simp [hj]
  · rw [if_neg hj, if_neg hj, Nat.testBit_lt_two_pow (Nat.lt_of_lt_of_le h (Nat.pow_le_pow_right (by decide) (by omega)))]
    simp
/-- Linear in the exclusive or. -/
def Lin (f : Nat → Nat) : Prop := ∀ x y, f (x ^^^ y) = f x ^^^ f y
theorem Lin.zero {f : Nat → Nat} (h : Lin f) : f 0 = 0 := by
  have := h 0 0
  simpa using this
theorem Lin.eq {f g : Nat → Nat} (hf : Lin f) (hg : Lin g) : ∀ n, (∀ b, b < n → f (2 ^ b) = g (2 ^ b)) → ∀ x, x < 2 ^ n → f x = g x
  | 0, _, x, hx => by
    obtain rfl : x = 0 := by simpa using hx
    rw [hf.zero, hg.zero]
  | n + 1, h, x, hx => by
    by_cases hb : x < 2 ^ n
    · exact Lin.eq hf hg n (fun b hb => h b (by omega)) x hb
    · rw [Nat.pow_succ] at hx
      have e : x = (x - 2 ^ n) ^^^ 2 ^ n := by
        have := xorAdd (x - 2 ^ n) n 1 (by omega)
        rw [Nat.mul_one] at this
        omega
      rw [e, hf, hg, Lin.eq hf hg n (fun b hb => h b (by omega)) _ (by omega), h n (by omega)]
theorem Lin.comp {f g : Nat → Nat} (hf : Lin f) (hg : Lin g) : Lin (fun x => f (g x)) := fun x y => by
  show f (g (x ^^^ y)) = f (g x) ^^^ f (g y)
  rw [hg, hf]
theorem Lin.add {f g : Nat → Nat} (hf : Lin f) (hg : Lin g) : Lin (fun x => f x ^^^ g x) := fun x y => by
  show f (x ^^^ y) ^^^ g (x ^^^ y) = (f x ^^^ g x) ^^^ (f y ^^^ g y)
  rw [hf, hg, Nat.xor_assoc, ← Nat.xor_assoc (f y), Nat.xor_comm (f y) (g x), Nat.xor_assoc, ← Nat.xor_assoc (f x)]
theorem Lin.mod (n : Nat) : Lin (fun x => x % 2 ^ n) := fun _ _ => Nat.xor_mod_two_pow
theorem Lin.div (n : Nat) : Lin (fun x => x / 2 ^ n) := fun _ _ => Nat.xor_div_two_pow
theorem Lin.and (m : Nat) : Lin (fun x => x &&& m) := fun _ _ => Nat.and_xor_distrib_right ..
theorem Lin.mul (n : Nat) : Lin (fun x => x * 2 ^ n) := fun x y => by
  show (x ^^^ y) * 2 ^ n = x * 2 ^ n ^^^ y * 2 ^ n
  rw [← Nat.shiftLeft_eq, ← Nat.shiftLeft_eq, ← Nat.shiftLeft_eq, Nat.shiftLeft_xor_distrib]

/-- The exclusive or of what the bits of X below k stand for. -/
def accN (p : Nat → Nat) (X : Nat) : Nat → Nat
  | 0 => 0
  | k + 1 => if X.testBit k = true then accN p X k ^^^ p k else accN p X k
theorem accN_yes {p : Nat → Nat} {X k : Nat} (h : X / 2 ^ k % 2 = 1) : accN p X (k + 1) = accN p X k ^^^ p k := by
  rw [accN, if_pos (by rw [Nat.testBit_eq_decide_div_mod_eq]; simpa using h)]
theorem accN_no {p : Nat → Nat} {X k : Nat} (h : ¬ X / 2 ^ k % 2 = 1) : accN p X (k + 1) = accN p X k := by
  rw [accN, if_neg (by rw [Nat.testBit_eq_decide_div_mod_eq]; simpa using h)]
theorem accN_lin (p : Nat → Nat) : ∀ k, Lin (fun X => accN p X k)
  | 0 => fun _ _ => by simp [accN]
  | k + 1 => fun x y => by
    have ih : accN p (x ^^^ y) k = accN p x k ^^^ accN p y k := accN_lin p k x y
    show accN p (x ^^^ y) (k + 1) = accN p x (k + 1) ^^^ accN p y (k + 1)
    have hA : ∀ a b c : Nat, (a ^^^ b) ^^^ c = (a ^^^ c) ^^^ b := fun a b c => by rw [Nat.xor_assoc, Nat.xor_comm b c, ← Nat.xor_assoc]
    cases hx : x.testBit k <;> cases hy : y.testBit k
    · simp [accN, Nat.testBit_xor, hx, hy, ih]
    · simp [accN, Nat.testBit_xor, hx, hy, ih, Nat.xor_assoc]
    · simp [accN, Nat.testBit_xor, hx, hy, ih, hA]
    · simp only [accN, Nat.testBit_xor, hx, hy, ih, Bool.xor_self, Bool.false_eq_true, if_false, if_true]
      rw [hA, ← Nat.xor_assoc, Nat.xor_assoc (accN p x k ^^^ accN p y k), Nat.xor_self, Nat.xor_zero]
theorem accN_lt {p : Nat → Nat} {n : Nat} (h : ∀ b, p b < 2 ^ n) (X : Nat) : ∀ k, accN p X k < 2 ^ n
  | 0 => Nat.two_pow_pos n
  | k + 1 => by
    have := accN_lt h X k
    rw [accN]
    split
    · exact Nat.xor_lt_two_pow this (h k)
    · exact this

/-- The positions of the bits 0 to 71; the last has none. -/
def posL : List Nat := [3, 5, 6, 7, 9, 10, 11, 12, 13, 14, 15, 17, 18, 19, 20, 21, 22, 23, 24, 25, 26, 27, 28, 29, 30, 31, 33, 34, 35, 36, 37, 38, 39, 40, 41, 42, 43, 44, 45, 46, 47, 48, 49, 50, 51, 52, 53, 54, 55, 56, 57, 58, 59, 60, 61, 62, 63, 65, 66, 67, 68, 69, 70, 71, 1, 2, 4, 8, 16, 32, 64, 0]
def posN (b : Nat) : Nat := posL.getD b 0
theorem posN_all : ∀ b : Fin 72, posN b.val ≤ 71 := by decide +kernel
theorem posN_le (b : Nat) : posN b ≤ 71 := by
  by_cases h : b < 72
  · exact posN_all ⟨b, h⟩
  · unfold posN
    rw [List.getD_eq_getElem?_getD, List.getElem?_eq_none (by simp [posL]; omega)]
    exact Nat.zero_le _
theorem posN_inj_all : ∀ a b : Fin 72, posN a.val = posN b.val → a = b := by decide +kernel
theorem posN_inj {a b : Nat} (ha : a < 72) (hb : b < 72) (h : posN a = posN b) : a = b := by
  have := posN_inj_all ⟨a, ha⟩ ⟨b, hb⟩ h
  exact congrArg Fin.val this
/-- The bit at a position. -/
def bitAt (s : Nat) : Nat := posL.findIdx (· == s)
theorem bitAt_all : ∀ s : Fin 72, bitAt s.val < 72 ∧ posN (bitAt s.val) = s.val := by decide +kernel
theorem bitAt_lt {s : Nat} (h : s ≤ 71) : bitAt s < 72 := (bitAt_all ⟨s, by omega⟩).1
theorem posN_bitAt {s : Nat} (h : s ≤ 71) : posN (bitAt s) = s := (bitAt_all ⟨s, by omega⟩).2

def synN (X : Nat) : Nat := accN posN X 72
def parN (X : Nat) : Nat := accN (fun _ => 1) X 72
theorem synN_lin : Lin synN := accN_lin posN 72
theorem parN_lin : Lin parN := accN_lin _ 72
theorem synN_lt (X : Nat) : synN X < 128 := accN_lt (n := 7) (fun b => by have := posN_le b; omega) X 72
theorem parN_lt (X : Nat) : parN X < 2 := accN_lt (n := 1) (fun b => by omega) X 72
theorem syn_bit_all : ∀ b : Fin 72, synN (2 ^ b.val) = posN b.val := by decide +kernel
theorem par_bit_all : ∀ b : Fin 72, parN (2 ^ b.val) = 1 := by decide +kernel
theorem syn_flip (X : Nat) {b : Nat} (h : b < 72) : synN (X ^^^ 2 ^ b) = synN X ^^^ posN b := by rw [synN_lin, syn_bit_all ⟨b, h⟩]
theorem par_flip (X : Nat) {b : Nat} (h : b < 72) : parN (X ^^^ 2 ^ b) = parN X ^^^ 1 := by rw [parN_lin, par_bit_all ⟨b, h⟩]
theorem xor_zero_iff (a b : Nat) : a ^^^ b = 0 ↔ a = b := by
  constructor
  · intro h
    have := congrArg (· ^^^ b) h
    simpa [Nat.xor_assoc] using this
  · rintro rfl; exact Nat.xor_self _
/-- Is X a codeword? -/
def good (X : Nat) : Bool := synN X == 0 && parN X == 0
theorem good_iff (X : Nat) : good X = true ↔ synN X = 0 ∧ parN X = 0 := by unfold good; simp
/-- The flip of bit b makes X a codeword just where X has an odd parity and b is at the syndrome's position. -/
theorem good_flip {X b : Nat} (hb : b < 72) (hp : parN X = 1) : good (X ^^^ 2 ^ b) = true ↔ posN b = synN X := by
  rw [good_iff, syn_flip X hb, par_flip X hb, hp, xor_zero_iff]
  simp [eq_comm]
theorem good_one {X : Nat} (h : good X = true) {b : Nat} (hb : b < 72) : synN (X ^^^ 2 ^ b) = posN b ∧ parN (X ^^^ 2 ^ b) = 1 := by
  obtain ⟨h1, h2⟩ := (good_iff X).1 h
  rw [syn_flip X hb, par_flip X hb, h1, h2]
  simp
theorem good_two {X : Nat} (h : good X = true) {a b : Nat} (ha : a < 72) (hb : b < 72) (hab : a ≠ b) : synN (X ^^^ 2 ^ a ^^^ 2 ^ b) ≠ 0 ∧ parN (X ^^^ 2 ^ a ^^^ 2 ^ b) = 0 := by
  obtain ⟨h1, h2⟩ := good_one h ha
  rw [syn_flip _ hb, par_flip _ hb, h1, h2]
  refine ⟨fun e => hab (posN_inj ha hb ((xor_zero_iff _ _).1 e)), by decide⟩

/-- The check byte that makes a word a codeword. -/
def lowN (x : Nat) : Nat := synN x
def chkN (x : Nat) : Nat := lowN x + 128 * parN (x + 2 ^ 64 * lowN x)
theorem syn_high_all : ∀ c : Fin 256, synN (2 ^ 64 * c.val) = c.val % 128 := by decide +kernel
theorem par_high_all : ∀ c : Fin 128, parN (2 ^ 64 * (c.val + 128)) = parN (2 ^ 64 * c.val) ^^^ 1 := by decide +kernel
theorem chkN_lt (x : Nat) : chkN x < 256 := by
  have h1 := synN_lt x
  have h2 := parN_lt (x + 2 ^ 64 * lowN x)
  unfold chkN lowN at *; omega
theorem chk_good {x : Nat} (h : x < 2 ^ 64) : good (x + 2 ^ 64 * chkN x) = true := by
  have hl := synN_lt x
  have hp := parN_lt (x + 2 ^ 64 * lowN x)
  have hc := chkN_lt x
  rw [good_iff]
  have e1 : synN (x + 2 ^ 64 * chkN x) = 0 := by
    rw [← xorAdd _ _ _ h, synN_lin, syn_high_all ⟨chkN x, hc⟩]
    show synN x ^^^ chkN x % 128 = 0
    rw [xor_zero_iff]
    unfold chkN lowN; omega
  refine ⟨e1, ?_⟩
  unfold chkN
  by_cases h0 : parN (x + 2 ^ 64 * lowN x) = 0
  · rw [h0, Nat.mul_zero, Nat.add_zero]; exact h0
  · have h1 : parN (x + 2 ^ 64 * lowN x) = 1 := by omega
    rw [h1, Nat.mul_one, ← xorAdd _ _ _ h, parN_lin, par_high_all ⟨lowN x, hl⟩, ← Nat.xor_assoc, ← parN_lin, xorAdd _ _ _ h, h1]; rfl
theorem chk_or (x : Nat) : lowN x ||| parN (x + 2 ^ 64 * lowN x) * 128 = chkN x := by
  have hl : lowN x < 2 ^ 7 := synN_lt x
  have := Nat.two_pow_add_eq_or_of_lt hl (parN (x + 2 ^ 64 * lowN x))
  unfold chkN
  rw [Nat.or_comm, Nat.mul_comm _ 128, Nat.add_comm (lowN x)]
  exact this.symm

/-- The masks of the positions' bits. -/
def maskL : List Nat := [0xab55555556aaad5b, 0xcd9999999b33366d, 0xf1e1e1e1e3c3c78e, 0x01fe01fe03fc07f0, 0x01fffe0003fff800, 0x01fffffffc000000, 0xfe00000000000000]
def maskN (k : Nat) : Nat := maskL.getD k 0
theorem mask_all : ∀ k : Fin 7, maskN k.val < 2 ^ 64 := by decide +kernel
theorem mask_lt {k : Nat} (h : k < 7) : maskN k < 2 ^ 64 := mask_all ⟨k, h⟩
/-- The parity of 64 bits. -/
def par64 (x : Nat) : Nat := accN (fun _ => 1) x 64
theorem par64_lin : Lin par64 := accN_lin _ 64
theorem par64_lt (x : Nat) : par64 x < 2 := accN_lt (n := 1) (fun b => by omega) x 64
/-- The syndrome after the first k masks. -/
def sumN (x c : Nat) : Nat → Nat
  | 0 => c % 128
  | k + 1 => sumN x c k ^^^ par64 (x &&& maskN k) * 2 ^ k
theorem sumN_lin : ∀ k, Lin (fun X => sumN (X % 2 ^ 64) (X / 2 ^ 64) k)
  | 0 => (Lin.mod 7).comp (Lin.div 64)
  | k + 1 => (sumN_lin k).add ((Lin.mul k).comp (par64_lin.comp ((Lin.and (maskN k)).comp (Lin.mod 64))))
theorem sum_bit_all : ∀ b : Fin 72, sumN (2 ^ b.val % 2 ^ 64) (2 ^ b.val / 2 ^ 64) 7 = synN (2 ^ b.val) := by decide +kernel
theorem split64 {x c : Nat} (h : x < 2 ^ 64) : (x + 2 ^ 64 * c) % 2 ^ 64 = x ∧ (x + 2 ^ 64 * c) / 2 ^ 64 = c := by omega
theorem sum_syn {x c : Nat} (h : x < 2 ^ 64) (hc : c < 256) : sumN x c 7 = synN (x + 2 ^ 64 * c) := by
  have := Lin.eq (sumN_lin 7) synN_lin 72 (fun b hb => sum_bit_all ⟨b, hb⟩) (x + 2 ^ 64 * c) (by omega)
  simp only [(split64 h).1, (split64 h).2] at this
  exact this
theorem sumN_lt (x c : Nat) : ∀ k, k ≤ 7 → sumN x c k < 128
  | 0, _ => Nat.mod_lt _ (by decide)
  | k + 1, hk => by
    have ih := sumN_lt x c k (by omega)
    have hp := par64_lt (x &&& maskN k)
    have h2 : 2 ^ k ≤ 2 ^ 6 := Nat.pow_le_pow_right (by decide) (by omega)
    refine Nat.xor_lt_two_pow (n := 7) ih ?_
    have : par64 (x &&& maskN k) * 2 ^ k ≤ 1 * 2 ^ k := Nat.mul_le_mul_right _ (by omega)
    omega
theorem par_bit64_all : ∀ b : Fin 72, par64 (2 ^ b.val % 2 ^ 64) ^^^ par64 (2 ^ b.val / 2 ^ 64) = parN (2 ^ b.val) := by decide +kernel
theorem par_split {x c : Nat} (h : x < 2 ^ 64) (hc : c < 256) : par64 x ^^^ par64 c = parN (x + 2 ^ 64 * c) := by
  have := Lin.eq ((par64_lin.comp (Lin.mod 64)).add (par64_lin.comp (Lin.div 64))) parN_lin 72 (fun b hb => par_bit64_all ⟨b, hb⟩) (x + 2 ^ 64 * c) (by omega)
  simp only [(split64 h).1, (split64 h).2] at this
  exact this
theorem flip_low {x c b : Nat} (h : x < 2 ^ 64) (hb : b < 64) : (x ^^^ 2 ^ b) + 2 ^ 64 * c = (x + 2 ^ 64 * c) ^^^ 2 ^ b ∧ x ^^^ 2 ^ b < 2 ^ 64 := by
  have h2 : (2 : Nat) ^ b < 2 ^ 64 := Nat.pow_lt_pow_right (by decide) hb
  have hx : x ^^^ 2 ^ b < 2 ^ 64 := Nat.xor_lt_two_pow h h2
  refine ⟨?_, hx⟩
  rw [← xorAdd _ _ _ hx, ← xorAdd _ _ _ h, Nat.xor_assoc, Nat.xor_comm (2 ^ b), ← Nat.xor_assoc]
theorem flip_high {x c b : Nat} (h : x < 2 ^ 64) (hb : 64 ≤ b) (hb2 : b < 72) (hc : c < 256) : x + 2 ^ 64 * (c ^^^ 2 ^ (b - 64)) = (x + 2 ^ 64 * c) ^^^ 2 ^ b ∧ c ^^^ 2 ^ (b - 64) < 256 := by
  have h2 : (2 : Nat) ^ (b - 64) < 2 ^ 8 := Nat.pow_lt_pow_right (by decide) (by omega)
  refine ⟨?_, Nat.xor_lt_two_pow (n := 8) hc h2⟩
  have e : (2 : Nat) ^ b = 2 ^ 64 * 2 ^ (b - 64) := by rw [← Nat.pow_add]; congr 1; omega
  rw [e, ← xorAdd _ _ _ h, ← xorAdd _ _ _ h, Nat.xor_assoc]
  congr 1
  rw [Nat.mul_comm, Nat.mul_comm _ c, Nat.mul_comm (2 ^ 64)]
  exact Lin.mul 64 c (2 ^ (b - 64))

/-- Decoding: a codeword; one with a single error; neither. -/
def One (X : Nat) : Prop := parN X = 1 ∧ synN X ≤ 71
def fixN (X : Nat) : Nat := X ^^^ 2 ^ bitAt (synN X)
theorem not_good {X : Nat} (h : parN X = 1) : good X = false := by unfold good; rw [h]; simp
theorem one_first {X k : Nat} (h : One X) (hk : k < bitAt (synN X)) : synN (X ^^^ 2 ^ k) ≠ 0 ∧ parN (X ^^^ 2 ^ k) = 0 := by
  have hb := bitAt_lt h.2
  rw [syn_flip X (by omega), par_flip X (by omega), h.1]
  refine ⟨fun e => ?_, by decide⟩
  have := (xor_zero_iff _ _).1 e
  have := posN_inj hb (show k < 72 by omega) (by rw [posN_bitAt h.2]; exact this)
  omega
theorem one_at {X : Nat} (h : One X) : synN (fixN X) = 0 ∧ parN (fixN X) = 0 := by
  have hb := bitAt_lt h.2
  unfold fixN
  rw [syn_flip X hb, par_flip X hb, h.1, posN_bitAt h.2, Nat.xor_self]
  exact ⟨rfl, by decide⟩
theorem none_any {X k : Nat} (h : parN X = 1) (h2 : ¬ synN X ≤ 71) (hk : k < 72) : synN (X ^^^ 2 ^ k) ≠ 0 ∧ parN (X ^^^ 2 ^ k) = 0 := by
  rw [syn_flip X hk, par_flip X hk, h]
  refine ⟨fun e => ?_, by decide⟩
  have := (xor_zero_iff _ _).1 e
  have := posN_le k
  omega

/-- How many of 3 to a are no power of two. -/
def npN (a : Nat) : Nat := (posL.take 64).countP (· ≤ a)
theorem np_all : ∀ a : Fin 72, (2 ≤ a.val → a.val < 71 → (((a.val + 1) &&& a.val = 0 → npN (a.val + 1) = npN a.val) ∧ ((a.val + 1) &&& a.val ≠ 0 → npN (a.val + 1) = npN a.val + 1 ∧ posN (npN a.val) = a.val + 1))) ∧ (npN a.val ≤ 63 → a.val < 71) := by decide +kernel
theorem np_two : npN 2 = 0 := by decide
theorem np_flat {a : Nat} (h : 2 ≤ a) (h2 : a < 71) (h3 : (a + 1) &&& a = 0) : npN (a + 1) = npN a := ((np_all ⟨a, by omega⟩).1 h h2).1 h3
theorem np_step {a : Nat} (h : 2 ≤ a) (h2 : a < 71) (h3 : (a + 1) &&& a ≠ 0) : npN (a + 1) = npN a + 1 ∧ posN (npN a) = a + 1 := ((np_all ⟨a, by omega⟩).1 h h2).2 h3
theorem np_end {a : Nat} (h : a ≤ 71) (h2 : npN a ≤ 63) : a < 71 := (np_all ⟨a, by omega⟩).2 h2
theorem pos_high_all : ∀ b : Fin 71, 64 ≤ b.val → posN b.val = 2 ^ (b.val - 64) := by decide +kernel
theorem pos_high {b : Nat} (h : 64 ≤ b) (h2 : b < 71) : posN b = 2 ^ (b - 64) := pos_high_all ⟨b, h2⟩ h

/-- The word's bits and the check byte's of a codeword. -/
def lo (X : Nat) : Nat := X % 2 ^ 64
def hi (X : Nat) : Nat := X / 2 ^ 64
theorem lo_lt (X : Nat) : lo X < 2 ^ 64 := Nat.mod_lt _ (by decide)
theorem hi_lt {X : Nat} (h : X < 2 ^ 72) : hi X < 256 := by unfold hi; omega
theorem lo_hi (X : Nat) : lo X + 2 ^ 64 * hi X = X := by unfold lo hi; omega
theorem lo_of {x : Nat} (c : Nat) (h : x < 2 ^ 64) : lo (x + 2 ^ 64 * c) = x := by unfold lo; omega
theorem hi_of {x : Nat} (c : Nat) (h : x < 2 ^ 64) : hi (x + 2 ^ 64 * c) = c := by unfold hi; omega
theorem bit_lo (X : Nat) {b : Nat} (h : b < 64) : X / 2 ^ b % 2 = lo X / 2 ^ b % 2 := by
  have h1 := Nat.testBit_two_pow_mul_add (hi X) (lo_lt X) b
  rw [Nat.add_comm, lo_hi, if_pos h, Nat.testBit_eq_decide_div_mod_eq, Nat.testBit_eq_decide_div_mod_eq] at h1
  have h2 := decide_eq_decide.1 h1
  omega
theorem bit_hi (X : Nat) {b : Nat} (h : 64 ≤ b) : X / 2 ^ b % 2 = hi X / 2 ^ (b - 64) % 2 := by
  unfold hi
  rw [Nat.div_div_eq_div_mul, ← Nat.pow_add, show 64 + (b - 64) = b by omega]
theorem flip_lt {X b : Nat} (h : X < 2 ^ 72) (hb : b < 72) : X ^^^ 2 ^ b < 2 ^ 72 := Nat.xor_lt_two_pow h (Nat.pow_lt_pow_right (by decide) hb)
theorem flip_lo (X : Nat) {b : Nat} (hb : b < 64) : lo (X ^^^ 2 ^ b) = lo X ^^^ 2 ^ b ∧ hi (X ^^^ 2 ^ b) = hi X := by
  obtain ⟨h1, h2⟩ := flip_low (c := hi X) (lo_lt X) hb
  rw [lo_hi] at h1
  rw [← h1, lo_of _ h2, hi_of _ h2]
  exact ⟨rfl, rfl⟩
theorem flip_hi {X b : Nat} (h : X < 2 ^ 72) (hb : 64 ≤ b) (hb2 : b < 72) : lo (X ^^^ 2 ^ b) = lo X ∧ hi (X ^^^ 2 ^ b) = hi X ^^^ 2 ^ (b - 64) := by
  obtain ⟨h1, _⟩ := flip_high (x := lo X) (lo_lt X) hb hb2 (hi_lt h)
  rw [lo_hi] at h1
  rw [← h1, lo_of _ (lo_lt X), hi_of _ (lo_lt X)]
  exact ⟨rfl, rfl⟩
end Go.Proofs.YthenilomgbnpeaaGreatDoor
/- Plain facts on data of several words. -/
namespace Go.Proofs.YthenilomgbnpeaaGreatDoor
open Go.RowKit

/-- Word k of a text. -/
def wd (s : ByteArray) (k : Nat) : ByteArray := s.extract (8 * k) (8 * k + 8)
def wdN (s : ByteArray) (k : Nat) : Nat := wordN (wd s k)
theorem wd_size {s : ByteArray} {k : Nat} (h : 8 * k + 8 ≤ s.size) : (wd s k).size = 8 := by
  unfold wd; rw [ByteArray.size_extract]; omega
theorem wd_wStr {s : ByteArray} {k : Nat} (h : 8 * k + 8 ≤ s.size) : wd s k = wStr (wdN s k) := (word_wStr (wd_size h)).symm
theorem wdN_lt (s : ByteArray) (k : Nat) : wdN s k < 2 ^ 64 := wordN_lt _
theorem byteAt_extract (s : ByteArray) (a b j : Nat) (h : a + j < b) : byteAt (s.extract a b) j = byteAt s (a + j) := by
  unfold byteAt
  rw [ByteArray.data_extract, Array.toList_extract, List.extract_eq_take_drop, List.getD_eq_getElem?_getD, List.getD_eq_getElem?_getD, List.getElem?_take, if_pos (by omega), List.getElem?_drop]
theorem wd_at (s : ByteArray) (k : Nat) {j : Nat} (hj : j < 8) : byteAt (wd s k) j = byteAt s (8 * k + j) := byteAt_extract s _ _ j (by omega)
/-- The check bytes of the first k words. -/
def chkL (s : ByteArray) : Nat → List Int
  | 0 => []
  | k + 1 => chkL s k ++ [((chkN (wdN s k) : Nat) : Int)]
theorem chkL_length (s : ByteArray) : ∀ k, (chkL s k).length = k
  | 0 => rfl
  | k + 1 => by simp [chkL, chkL_length s k]
theorem chkL_at (s : ByteArray) : ∀ n k, k < n → (chkL s n).getD k 0 = ((chkN (wdN s k) : Nat) : Int)
  | 0, k, h => by omega
  | n + 1, k, h => by
    have hl := chkL_length s n
    rw [chkL, List.getD_eq_getElem?_getD]
    by_cases hk : k < n
    · have := chkL_at s n k hk
      rw [List.getD_eq_getElem?_getD] at this
      rw [List.getElem?_append_left (by omega)]; exact this
    · obtain rfl : k = n := by omega
      rw [List.getElem?_append_right (by omega), hl, Nat.sub_self]; rfl
theorem chkL_ok (s : ByteArray) : ∀ n, ∀ x ∈ chkL s n, 0 ≤ x ∧ x < 256
  | 0, x, h => by cases h
  | n + 1, x, h => by
    rw [chkL, List.mem_append] at h
    rcases h with h | h
    · exact chkL_ok s n x h
    · simp at h; subst h
      have := chkN_lt (wdN s n); omega
/-- The number of word k and its check byte. -/
def cwX (s t : ByteArray) (k : Nat) : Nat := wdN s k + 2 ^ 64 * byteAt t k
theorem cwX_lt (s t : ByteArray) (k : Nat) : cwX s t k < 2 ^ 72 := by
  have h1 := wdN_lt s k
  have h2 := byteAt_lt t k
  unfold cwX; omega
theorem cwX_lo (s t : ByteArray) (k : Nat) : lo (cwX s t k) = wdN s k := lo_of _ (wdN_lt s k)
theorem cwX_hi (s t : ByteArray) (k : Nat) : hi (cwX s t k) = byteAt t k := hi_of _ (wdN_lt s k)
/-- Can it be decoded? Its word, how many bits are corrected. -/
def okX (X : Nat) : Prop := good X = true ∨ One X
def valX (X : Nat) : Nat := if good X then lo X else lo (fixN X)
def cntX (X : Nat) : Nat := if good X then 0 else 1
def outL (s t : ByteArray) : Nat → List Int
  | 0 => []
  | k + 1 => outL s t k ++ wL (valX (cwX s t k))
def totL (s t : ByteArray) : Nat → Nat
  | 0 => 0
  | k + 1 => totL s t k + cntX (cwX s t k)
theorem outL_length (s t : ByteArray) : ∀ k, (outL s t k).length = 8 * k
  | 0 => rfl
  | k + 1 => by rw [outL, List.length_append, outL_length s t k, wL_length]; omega
theorem totL_le (s t : ByteArray) : ∀ k, totL s t k ≤ k
  | 0 => Nat.le_refl _
  | k + 1 => by
    have := totL_le s t k
    have : cntX (cwX s t k) ≤ 1 := by unfold cntX; split <;> omega
    rw [totL]; omega
/-- The first word that can't be decoded, if there is one. -/
theorem first_bad (P : Nat → Prop) : ∀ n, ∃ m, m ≤ n ∧ (∀ k, k < m → P k) ∧ (m = n ∨ ¬ P m)
  | 0 => ⟨0, Nat.le_refl _, fun k h => by omega, .inl rfl⟩
  | n + 1 => by
    obtain ⟨m, h1, h2, h3⟩ := first_bad P n
    rcases h3 with h3 | h3
    · by_cases hp : P n
      · exact ⟨n + 1, Nat.le_refl _, fun k hk => if h : k = n then h ▸ hp else h2 k (by omega), .inl rfl⟩
      · exact ⟨n, by omega, fun k hk => h2 k (by omega), .inr hp⟩
    · exact ⟨m, by omega, h2, .inr h3⟩
end Go.Proofs.YthenilomgbnpeaaGreatDoor
/- What decoding a codeword answers. -/
namespace Go.Proofs.YthenilomgbnpeaaGreatDoor
open Go.RowKit

/-- What decoding answers: the word, how many bits were corrected, the code. -/
def Dec (X : Nat) (R : ByteArray) (n c : Int) : Prop :=
  (good X = true ∧ R = wStr (lo X) ∧ n = 0 ∧ c = 0) ∨ (good X = false ∧ One X ∧ R = wStr (lo (fixN X)) ∧ n = 1 ∧ c = 0) ∨ (good X = false ∧ ¬ One X ∧ R = ⟨#[]⟩ ∧ n = 0 ∧ c = 6)
theorem dec_total (X : Nat) : ∃ R n c, Dec X R n c := by
  by_cases h : good X = true
  · exact ⟨_, _, _, .inl ⟨h, rfl, rfl, rfl⟩⟩
  · have h' : good X = false := by simpa using h
    by_cases h2 : One X
    · exact ⟨_, _, _, .inr (.inl ⟨h', h2, rfl, rfl, rfl⟩)⟩
    · exact ⟨_, _, _, .inr (.inr ⟨h', h2, rfl, rfl, rfl⟩)⟩
/-- A word and a check byte, as one number. -/
theorem as_cw {s : ByteArray} {c : Int} (hs : s.size = 8) (h0 : 0 ≤ c) (h1 : c ≤ 255) : ∃ X, X < 2 ^ 72 ∧ s = wStr (lo X) ∧ c = (hi X : Nat) := by
  obtain ⟨k, rfl⟩ := Int.eq_ofNat_of_zero_le h0
  have hx := wordN_lt s
  refine ⟨wordN s + 2 ^ 64 * k, by omega, ?_, ?_⟩
  · rw [lo_of _ hx, word_wStr hs]
  · rw [hi_of _ hx]
end Go.Proofs.YthenilomgbnpeaaGreatDoor
