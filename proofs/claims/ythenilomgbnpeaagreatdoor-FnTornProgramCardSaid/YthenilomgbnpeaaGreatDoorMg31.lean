/- The proof's own lemmas, part 32: Diff FlpN ScrN PsN PtN. -/
import Derived.Test.YthenilomgbnpeaaGreatDoorProg
import Derived.Test.YthenilomgbnpeaaGreatDoorMg27
import Derived.Test.YthenilomgbnpeaaGreatDoorMg1
import Derived.Test.YthenilomgbnpeaaGreatDoorMg6
import Derived.Test.YthenilomgbnpeaaGreatDoorMg5
import Derived.Test.YthenilomgbnpeaaGreatDoorMg30
import Derived.Test.YthenilomgbnpeaaGreatDoorMg11
/- The bits in which two texts differ, in the model and in the program: the contracts. -/
namespace Go.Proofs.YthenilomgbnpeaaGreatDoor
open Go.RowKit

/-- Do the texts differ in bit i? -/
def difB (a b : ByteArray) (i : Nat) : Bool := (byteAt a (i / 8) ^^^ byteAt b (i / 8)) / 2 ^ (i % 8) % 2 == 1
def difL (a b : ByteArray) : Nat → List Int
  | 0 => []
  | k + 1 => if difB a b k then difL a b k ++ [(k : Int)] else difL a b k
theorem difL_le (a b : ByteArray) : ∀ k, (difL a b k).length ≤ k
  | 0 => Nat.le_refl _
  | k + 1 => by
    have := difL_le a b k
    rw [difL]; split
    · simp; omega
    · omega
theorem and1_u8 (x : Nat) (h : x < 256) : bits .and .u8 (x : Int) 1 = ((x % 2 : Nat) : Int) := by
  have := u8_and_nat x 1 h (by omega); rw [Nat.and_one_is_mod] at this; exact this
theorem dif_val (a b : ByteArray) (i : Nat) (ha : i / 8 < a.size) (hb : i / 8 < b.size) :
    (bits .and .u8 (bits .xor .u8 (a[i / 8].toNat : Int) (b[i / 8].toNat : Int) / 2 ^ (i % 8)) 1 == 1) = difB a b i := by
  have h1 := byteAt_le a (i / 8)
  have h2 := byteAt_le b (i / 8)
  have hx : byteAt a (i / 8) ^^^ byteAt b (i / 8) < 2 ^ 8 := Nat.xor_lt_two_pow (by omega) (by omega)
  have hd : (byteAt a (i / 8) ^^^ byteAt b (i / 8)) / 2 ^ (i % 8) ≤ byteAt a (i / 8) ^^^ byteAt b (i / 8) := Nat.div_le_self _ _
  rw [byteAt_eq ha, byteAt_eq hb, u8_xor_nat _ _ (by omega) (by omega)]
  unfold difB
  have e : (((byteAt a (i / 8) ^^^ byteAt b (i / 8) : Nat) : Int) / 2 ^ (i % 8)) = (((byteAt a (i / 8) ^^^ byteAt b (i / 8)) / 2 ^ (i % 8) : Nat) : Int) := by rw [Int.natCast_ediv, Int.natCast_pow]; rfl
  rw [e]
  generalize (byteAt a (i / 8) ^^^ byteAt b (i / 8)) / 2 ^ (i % 8) = q at *
  rw [and1_u8 q (by omega)]
  rw [Bool.eq_iff_iff]
  simp
  omega
def DiffPost (l : List Int) (w : World) (e : Ending) (w' : World) : Prop := ∃ v, e = .returned v ∧ IntsOwn w' w.heap.size v l ∧ Below w.heap.size w w'
def Alike (a b : ByteArray) : Prop := a.size = b.size ∧ a.size ≤ 256
end Go.Proofs.YthenilomgbnpeaaGreatDoor
/- Plain facts: data of several words, in each at most one bit inverted. -/
namespace Go.Proofs.YthenilomgbnpeaaGreatDoor
open Go.RowKit

/-- What byte j is changed by, if e i is the bit inverted in word i. -/
def fb (e : Nat → Option Nat) (j : Nat) : Nat := match e (j / 8) with
  | some p => if p / 8 = j % 8 then 2 ^ (p % 8) else 0
  | none => 0
theorem fb_none {e : Nat → Option Nat} {j : Nat} (h : e (j / 8) = none) : fb e j = 0 := by unfold fb; rw [h]
theorem fb_some {e : Nat → Option Nat} {j p : Nat} (h : e (j / 8) = some p) : fb e j = if p / 8 = j % 8 then 2 ^ (p % 8) else 0 := by unfold fb; rw [h]
theorem fb_lt (e : Nat → Option Nat) (j : Nat) : fb e j < 256 := by
  cases h : e (j / 8) with
  | none => rw [fb_none h]; omega
  | some p =>
    rw [fb_some h]
    split
    · exact Nat.pow_lt_pow_right (a := 2) (m := p % 8) (n := 8) (by decide) (by omega)
    · omega
def upd (e : Nat → Option Nat) (k : Nat) (v : Option Nat) : Nat → Option Nat := fun i => if i = k then v else e i
theorem upd_at (e : Nat → Option Nat) (k : Nat) (v : Option Nat) : upd e k v k = v := by unfold upd; rw [if_pos rfl]
theorem upd_far (e : Nat → Option Nat) {k i : Nat} (v : Option Nat) (h : i ≠ k) : upd e k v i = e i := by unfold upd; rw [if_neg h]
def cntE (e : Nat → Option Nat) : Nat → Nat
  | 0 => 0
  | k + 1 => cntE e k + (if (e k).isSome then 1 else 0)
theorem cntE_congr {e f : Nat → Option Nat} : ∀ k, (∀ i, i < k → e i = f i) → cntE e k = cntE f k
  | 0, _ => rfl
  | k + 1, h => by rw [cntE, cntE, cntE_congr k (fun i hi => h i (by omega)), h k (by omega)]
/-- The bytes l are those of D, changed by e. -/
def FlB (D : ByteArray) (e : Nat → Option Nat) (l : List Int) : Prop := l.length = D.size ∧ ∀ j, j < D.size → l.getD j 0 = ((byteAt D j ^^^ fb e j : Nat) : Int)
theorem FlB.start (D : ByteArray) (l : List Int) (hl : l.length = D.size) (h : ∀ j, j < D.size → l.getD j 0 = (byteAt D j : Int)) : FlB D (fun _ => none) l :=
  ⟨hl, fun j hj => by rw [fb_none rfl, Nat.xor_zero]; exact h j hj⟩
theorem FlB.old {D : ByteArray} {e : Nat → Option Nat} {l : List Int} (h : FlB D e l) {j : Nat} (hj : j < D.size) (he : e (j / 8) = none) : l.getD j 0 = (byteAt D j : Int) := by
  rw [h.2 j hj, fb_none he, Nat.xor_zero]
theorem FlB.flip {D : ByteArray} {e : Nat → Option Nat} {l : List Int} (h : FlB D e l) {k p : Nat} (_hk : 8 * k + 8 ≤ D.size) (hp : p < 64) (he : e k = none) :
    FlB D (upd e k (some p)) (l.set (8 * k + p / 8) ((byteAt D (8 * k + p / 8) ^^^ 2 ^ (p % 8) : Nat) : Int)) := by
  refine ⟨by rw [List.length_set]; exact h.1, fun j hj => ?_⟩
  rw [List.getD_eq_getElem?_getD, List.getElem?_set]
  by_cases e1 : 8 * k + p / 8 = j
  · rw [if_pos e1, if_pos (by rw [h.1]; omega), fb_some (p := p) (by rw [show j / 8 = k by omega]; exact upd_at _ _ _), if_pos (by omega), e1]; rfl
  · rw [if_neg e1, ← List.getD_eq_getElem?_getD, h.2 j hj]
    congr 2
    by_cases e2 : j / 8 = k
    · rw [fb_none (by rw [e2]; exact he), fb_some (p := p) (by rw [e2]; exact upd_at _ _ _), if_neg (by omega)]
    · unfold fb; rw [upd_far _ _ e2]
section
variable {D : ByteArray} {e : Nat → Option Nat} {l : List Int} {m : Nat}
theorem FlB.ok (h : FlB D e l) : ∀ x ∈ l, 0 ≤ x ∧ x < 256 := by
  intro x hx
  obtain ⟨i, hi, rfl⟩ := List.getElem_of_mem hx
  have := h.2 i (by rw [← h.1]; exact hi)
  rw [List.getD_eq_getElem?_getD, List.getElem?_eq_getElem hi] at this
  have h1 := byteAt_le D i
  have h2 := fb_lt e i
  have : byteAt D i ^^^ fb e i < 2 ^ 8 := Nat.xor_lt_two_pow (by omega) (by omega)
  simp at *
  omega
theorem FlB.byte (h : FlB D e l) {j : Nat} (hj : j < D.size) : byteAt (strOfNums l) j = byteAt D j ^^^ fb e j := by
  have := nums_at l j (by rw [h.1]; exact hj) h.ok
  rw [h.2 j hj] at this
  exact Int.ofNat_inj.1 this
theorem FlB.size (h : FlB D e l) : (strOfNums l).size = D.size := by rw [strOfNums_size, h.1]
theorem FlB.word_none (h : FlB D e l) {i : Nat} (hi : 8 * i + 8 ≤ D.size) (he : e i = none) : wdN (strOfNums l) i = wdN D i := by
  refine bytes_ext (wdN_lt _ _) (wdN_lt _ _) fun j hj => ?_
  unfold wdN
  rw [wordN_at _ hj, wordN_at _ hj, wd_at _ _ hj, wd_at _ _ hj, h.byte (by omega), fb_none (by rw [show (8 * i + j) / 8 = i by omega]; exact he), Nat.xor_zero]
theorem FlB.word_some (h : FlB D e l) {i p : Nat} (hi : 8 * i + 8 ≤ D.size) (he : e i = some p) (hp : p < 64) : wdN (strOfNums l) i = wdN D i ^^^ 2 ^ p := by
  refine bytes_ext (wdN_lt _ _) (Nat.xor_lt_two_pow (wdN_lt _ _) (Nat.pow_lt_pow_right (by decide) hp)) fun j hj => ?_
  rw [xor_byte, two_byte]
  unfold wdN
  rw [wordN_at _ hj, wordN_at _ hj, wd_at _ _ hj, wd_at _ _ hj, h.byte (by omega), fb_some (p := p) (by rw [show (8 * i + j) / 8 = i by omega]; exact he), show (8 * i + j) % 8 = j by omega]
  by_cases e1 : p / 8 = j
  · rw [if_pos e1, if_pos e1.symm]
  · rw [if_neg e1, if_neg (fun x => e1 x.symm)]
theorem chk_byte {n i : Nat} (hi : i < n) : byteAt (strOfNums (chkL D n)) i = chkN (wdN D i) := by
  have := nums_at (chkL D n) i (by rw [chkL_length]; exact hi) (chkL_ok D n)
  rw [chkL_at D n i hi] at this
  exact Int.ofNat_inj.1 this
theorem FlB.dec (h : FlB D e l) (hD : D.size = 8 * m) (hp : ∀ i p, e i = some p → p < 64) {i : Nat} (hi : i < m) :
    okX (cwX (strOfNums l) (strOfNums (chkL D m)) i) ∧ valX (cwX (strOfNums l) (strOfNums (chkL D m)) i) = wdN D i ∧ cntX (cwX (strOfNums l) (strOfNums (chkL D m)) i) = if (e i).isSome then 1 else 0 := by
  have hg := chk_good (wdN_lt D i)
  have hc := chkN_lt (wdN D i)
  obtain ⟨X, hX⟩ : ∃ X, X = wdN D i + 2 ^ 64 * chkN (wdN D i) := ⟨_, rfl⟩
  have hlo : lo X = wdN D i := by rw [hX]; exact lo_of _ (wdN_lt D i)
  cases he : e i with
  | none =>
    have hx : cwX (strOfNums l) (strOfNums (chkL D m)) i = X := by
      unfold cwX
      rw [h.word_none (by omega) he, chk_byte hi, hX]
    rw [← hX] at hg
    rw [hx]
    refine ⟨.inl hg, ?_, ?_⟩
    · unfold valX; rw [if_pos hg, hlo]
    · unfold cntX; rw [if_pos hg]; rfl
  | some p =>
    have hp64 := hp i p he
    have hx : cwX (strOfNums l) (strOfNums (chkL D m)) i = X ^^^ 2 ^ p := by
      unfold cwX
      rw [h.word_some (by omega) he hp64, chk_byte hi, hX]
      exact (flip_low (wdN_lt D i) hp64).1
    rw [← hX] at hg
    obtain ⟨f1, f2⟩ := good_one hg (show p < 72 by omega)
    have hng := not_good f2
    have hfix : fixN (X ^^^ 2 ^ p) = X := by
      unfold fixN
      rw [f1]
      have hbb : bitAt (posN p) = p := posN_inj (bitAt_lt (posN_le p)) (by omega) (posN_bitAt (posN_le p))
      rw [hbb, Nat.xor_assoc, Nat.xor_self, Nat.xor_zero]
    rw [hx]
    refine ⟨.inr ⟨f2, by rw [f1]; exact posN_le p⟩, ?_, ?_⟩
    · unfold valX; rw [if_neg (by rw [hng]; simp), hfix, hlo]
    · unfold cntX; rw [if_neg (by rw [hng]; simp)]; rfl
theorem outL_at {S t : ByteArray} : ∀ n, (∀ i, i < n → valX (cwX S t i) = wdN D i) → ∀ j, j < 8 * n → (outL S t n).getD j 0 = (byteAt D j : Int)
  | 0, _, j, h => by omega
  | n + 1, hv, j, h => by
    have hl := outL_length S t n
    rw [outL, List.getD_eq_getElem?_getD]
    by_cases hj : j < 8 * n
    · rw [List.getElem?_append_left (by omega), ← List.getD_eq_getElem?_getD]
      exact outL_at n (fun i hi => hv i (by omega)) j hj
    · rw [List.getElem?_append_right (by omega), hl, hv n (by omega), ← List.getD_eq_getElem?_getD, wL_at _ (by omega)]
      unfold wdN
      rw [wordN_at _ (by omega), wd_at _ _ (by omega)]
      congr 2; omega
theorem out_back {S t : ByteArray} (hD : D.size = 8 * m) (hv : ∀ i, i < m → valX (cwX S t i) = wdN D i) : strOfNums (outL S t m) = D := by
  have hat := outL_at m hv
  have hok : ∀ x ∈ outL S t m, 0 ≤ x ∧ x < 256 := by
    intro x hx
    obtain ⟨i, hi, rfl⟩ := List.getElem_of_mem hx
    have := hat i (by rw [← outL_length S t m]; exact hi)
    rw [List.getD_eq_getElem?_getD, List.getElem?_eq_getElem hi] at this
    have h1 := byteAt_le D i
    simp at *
    omega
  refine str_ext (by rw [strOfNums_size, outL_length, hD]) fun j hj => ?_
  rw [strOfNums_size, outL_length] at hj
  have := nums_at (outL S t m) j (by rw [outL_length]; exact hj) hok
  rw [hat j hj] at this
  exact Int.ofNat_inj.1 this
theorem tot_cnt {S t : ByteArray} : ∀ n, (∀ i, i < n → cntX (cwX S t i) = if (e i).isSome then 1 else 0) → totL S t n = cntE e n
  | 0, _ => rfl
  | n + 1, h => by rw [totL, cntE, tot_cnt n (fun i hi => h i (by omega)), h n (by omega)]
theorem pow_bit (a b : Nat) : 2 ^ a / 2 ^ b % 2 = if a = b then 1 else 0 := by
  by_cases h : a = b
  · subst h; rw [if_pos rfl, Nat.div_self (Nat.pow_pos (by decide))]
  · rw [if_neg h]
    rcases Nat.lt_or_gt_of_ne h with h1 | h1
    · rw [Nat.div_eq_of_lt (Nat.pow_lt_pow_right (by decide) h1)]
    · rw [Nat.pow_div (by omega) (by decide), show a - b = (a - b - 1) + 1 by omega, Nat.pow_succ]; omega
theorem FlB.dif (h : FlB D e l) {b : Nat} (hb : b / 8 < D.size) (hp : ∀ i p, e i = some p → p < 64) : difB D (strOfNums l) b = true ↔ e (b / 64) = some (b % 64) := by
  unfold difB
  rw [h.byte hb, ← Nat.xor_assoc, Nat.xor_self, Nat.zero_xor]
  have h64 : b / 8 / 8 = b / 64 := by omega
  cases he : e (b / 64) with
  | none => rw [fb_none (by rw [h64]; exact he)]; simp
  | some p =>
    have := hp _ _ he
    rw [fb_some (p := p) (by rw [h64]; exact he)]
    by_cases e1 : p / 8 = b / 8 % 8
    · rw [if_pos e1, pow_bit]
      by_cases e2 : p % 8 = b % 8
      · rw [if_pos e2]; simp; omega
      · rw [if_neg e2]; simp; omega
    · rw [if_neg e1]; simp; omega
theorem FlB.dif_in (h : FlB D e l) (hD : D.size = 8 * m) (hp : ∀ i p, e i = some p → p < 64) {k c : Nat} (hk : k < m) (hc : (difL D (strOfNums l) (64 * k)).length = c) :
    ∀ r, r ≤ 64 → (difL D (strOfNums l) (64 * k + r)).length = c + (match e k with | some p => if p < r then 1 else 0 | none => 0)
  | 0, _ => by
    rw [Nat.add_zero, hc]
    cases e k with
    | none => rfl
    | some p => simp
  | r + 1, hr => by
    have ih := FlB.dif_in h hD hp hk hc r (by omega)
    have hd := h.dif (b := 64 * k + r) (by omega) hp
    rw [show (64 * k + r) / 64 = k by omega, show (64 * k + r) % 64 = r by omega] at hd
    rw [← Nat.add_assoc, difL]
    by_cases hb : difB D (strOfNums l) (64 * k + r) = true
    · rw [if_pos hb, List.length_append, ih, hd.1 hb]
      simp
    · rw [if_neg hb, ih]
      cases he : e k with
      | none => rfl
      | some p =>
        have : p ≠ r := fun x => hb (hd.2 (by rw [he, x]))
        simp only []
        by_cases h1 : p < r
        · rw [if_pos h1, if_pos (by omega)]
        · rw [if_neg h1, if_neg (by omega)]
theorem FlB.dif_all (h : FlB D e l) (hD : D.size = 8 * m) (hp : ∀ i p, e i = some p → p < 64) : ∀ k, k ≤ m → (difL D (strOfNums l) (64 * k)).length = cntE e k
  | 0, _ => rfl
  | k + 1, hk => by
    have := h.dif_in hD hp (show k < m by omega) (FlB.dif_all h hD hp k (by omega)) 64 (Nat.le_refl _)
    rw [show 64 * (k + 1) = 64 * k + 64 by omega, this, cntE]
    cases he : e k with
    | none => rfl
    | some p => simp [hp k p he]
end
end Go.Proofs.YthenilomgbnpeaaGreatDoor
/- Plain facts on the exclusive or of texts: what it does twice is undone; with zeros it changes nothing. -/
namespace Go.Proofs.YthenilomgbnpeaaGreatDoor
open Go.RowKit

theorem xorL_getD (a b : ByteArray) : ∀ (n k : Nat), k < n → (xorL a b n).getD k 0 = ((byteAt a k ^^^ byteAt b k : Nat) : Int)
  | 0, k, h => by omega
  | n + 1, k, h => by
    rw [xorL]
    by_cases hk : k < n
    · have := xorL_getD a b n k hk
      rw [List.getD_eq_getElem?_getD] at this ⊢
      rw [List.getElem?_append_left (by rw [xorL_length]; exact hk)]
      exact this
    · obtain rfl : k = n := by omega
      rw [List.getD_eq_getElem?_getD, List.getElem?_append_right (by rw [xorL_length]; omega), xorL_length, Nat.sub_self]
      rfl
theorem xorL_eq (a b : ByteArray) (n : Nat) (l : List Int) (hl : l.length = n) (h : ∀ k, k < n → l.getD k 0 = ((byteAt a k ^^^ byteAt b k : Nat) : Int)) : xorL a b n = l := by
  apply List.ext_getElem
  · rw [xorL_length, hl]
  · intro k h1 h2
    have e1 := xorL_getD a b n k (by omega)
    have e2 := h k (by omega)
    rw [List.getD_eq_getElem?_getD, List.getElem?_eq_getElem h1] at e1
    rw [List.getD_eq_getElem?_getD, List.getElem?_eq_getElem h2] at e2
    simp only [Option.getD_some] at e1 e2
    rw [e1, e2]
theorem byteAt_str (l : List Int) (k : Nat) (hk : k < l.length) (h0 : 0 ≤ l.getD k 0) (h1 : l.getD k 0 < 256) : (byteAt (strOfNums l) k : Int) = l.getD k 0 := by
  unfold byteAt
  rw [strOfNums_data, List.getD_eq_getElem?_getD, List.getElem?_map, List.getElem?_eq_getElem hk]
  rw [List.getD_eq_getElem?_getD, List.getElem?_eq_getElem hk] at h0 h1 ⊢
  simp only [Option.map_some, Option.getD_some] at h0 h1 ⊢
  rw [UInt8.toNat_ofNat']
  omega
theorem xor_byte_lt (a b : ByteArray) (k : Nat) : byteAt a k ^^^ byteAt b k < 256 :=
  Nat.xor_lt_two_pow (n := 8) (by have := byteAt_le a k; omega) (by have := byteAt_le b k; omega)
theorem byteAt_xor (a b : ByteArray) (n k : Nat) (hk : k < n) : byteAt (strOfNums (xorL a b n)) k = byteAt a k ^^^ byteAt b k := by
  have e := xorL_getD a b n k hk
  have hl := xor_byte_lt a b k
  have := byteAt_str (xorL a b n) k (by rw [xorL_length]; exact hk) (by rw [e]; omega) (by rw [e]; omega)
  omega
theorem str_nums (s : ByteArray) : strOfNums (nums s) = s := by
  apply ByteArray.ext
  apply Array.toList_inj.1
  rw [strOfNums_data]
  unfold nums
  rw [List.map_map]
  simp [Function.comp_def]
/-- Scrambling twice. -/
theorem twice_back (s key : ByteArray) : strOfNums (xorL (strOfNums (xorL s key s.size)) key s.size) = s := by
  have : xorL (strOfNums (xorL s key s.size)) key s.size = nums s := by
    refine xorL_eq _ _ _ _ (nums_length s) fun k hk => ?_
    rw [nums_get s k hk, byteAt_xor s key s.size k hk, Nat.xor_assoc, Nat.xor_self, Nat.xor_zero]
  rw [this, str_nums]
/-- Scrambling zeros. -/
theorem zeros_key (key : ByteArray) (n : Nat) (h : key.size = n) : strOfNums (xorL (strOfNums (List.replicate n 0)) key n) = key := by
  have : xorL (strOfNums (List.replicate n 0)) key n = nums key := by
    refine xorL_eq _ _ _ _ (by rw [nums_length, h]) fun k hk => ?_
    rw [nums_get key k (by omega)]
    have hz : (List.replicate n (0 : Int)).getD k 0 = 0 := by rw [List.getD_eq_getElem?_getD, List.getElem?_replicate, if_pos hk]; rfl
    have hb := byteAt_str (List.replicate n (0 : Int)) k (by simpa using hk) (by rw [hz]; omega) (by rw [hz]; omega)
    rw [hz] at hb
    rw [show byteAt (strOfNums (List.replicate n 0)) k = 0 by omega, Nat.zero_xor]
  rw [this, str_nums]
end Go.Proofs.YthenilomgbnpeaaGreatDoor
/- Plain facts: a sealed page with a bit inverted in some of its words, and in its mark, opens. -/
namespace Go.Proofs.YthenilomgbnpeaaGreatDoor
open Go.RowKit
set_option linter.unusedVariables false

theorem scr_back (x : ByteArray) (p : Nat) : scrB (scrB x p) p = x := by
  have h := scrB_size x p
  show strOfNums (xorL (scrB x p) (strOfNums (streamL (p + 1) (scrB x p).size)) (scrB x p).size) = x
  rw [h]
  exact twice_back x _
theorem byteAt_left (a b : ByteArray) {j : Nat} (h : j < a.size) : byteAt (a ++ b) j = byteAt a j := by
  have h' : j < a.data.toList.length := by simpa using h
  unfold byteAt
  rw [ByteArray.data_append, Array.toList_append, List.getD_eq_getElem?_getD, List.getD_eq_getElem?_getD, List.getElem?_append_left h']
theorem byteAt_right (a b : ByteArray) (j : Nat) : byteAt (a ++ b) (a.size + j) = byteAt b j := by
  have h' : a.data.toList.length = a.size := by simp
  unfold byteAt
  rw [ByteArray.data_append, Array.toList_append, List.getD_eq_getElem?_getD, List.getD_eq_getElem?_getD, List.getElem?_append_right (by omega), h', Nat.add_sub_cancel_left]
theorem ext_left (a b : ByteArray) {n : Nat} (h : a.size = n) : (a ++ b).extract 0 n = a := by
  refine str_ext (by rw [ByteArray.size_extract, ByteArray.size_append]; omega) fun j hj => ?_
  rw [ByteArray.size_extract, ByteArray.size_append] at hj
  rw [byteAt_extract _ _ _ _ (by omega), Nat.zero_add, byteAt_left _ _ (by omega)]
theorem ext_right (a b : ByteArray) {n m : Nat} (h : a.size = n) (hm : n + b.size = m) : (a ++ b).extract n m = b := by
  refine str_ext (by rw [ByteArray.size_extract, ByteArray.size_append]; omega) fun j hj => ?_
  rw [ByteArray.size_extract, ByteArray.size_append] at hj
  rw [byteAt_extract _ _ _ _ (by omega), ← h, byteAt_right]
theorem seal_body {d s : ByteArray} {n : Nat} (hd : d.size = 64) (hs : s.size = 16) : bodyOf (sealB d s n) = scrB (d ++ s) n := by
  unfold bodyOf sealB
  rw [ByteArray.append_assoc]
  exact ext_left _ _ (by rw [scrB_size, ByteArray.size_append]; omega)
theorem seal_chks {d s : ByteArray} {n : Nat} (hd : d.size = 64) (hs : s.size = 16) : chksOf (sealB d s n) = chkB (scrB (d ++ s) n) := by
  unfold chksOf sealB
  have h1 : (scrB (d ++ s) n).size = 80 := by rw [scrB_size, ByteArray.size_append]; omega
  have h2 := chkB_size (scrB (d ++ s) n)
  have h3 := markS_size
  generalize scrB (d ++ s) n = x at *
  refine str_ext (by rw [ByteArray.size_extract, ByteArray.size_append, ByteArray.size_append]; omega) fun j hj => ?_
  rw [ByteArray.size_extract, ByteArray.size_append, ByteArray.size_append] at hj
  rw [byteAt_extract _ _ _ _ (by omega), ByteArray.append_assoc, ← h1, byteAt_right, byteAt_left _ _ (by omega)]
theorem seal_mark {d s : ByteArray} {n : Nat} (hd : d.size = 64) (hs : s.size = 16) : byteAt (sealB d s n) 90 = 90 := by
  unfold sealB
  have h1 : (scrB (d ++ s) n).size = 80 := by rw [scrB_size, ByteArray.size_append]; omega
  have h2 := chkB_size (scrB (d ++ s) n)
  generalize scrB (d ++ s) n = x at *
  have h3 : (x ++ chkB x).size = 90 := by rw [ByteArray.size_append]; omega
  have := byteAt_right (x ++ chkB x) markS 0
  rw [h3] at this
  rw [this]; rfl
theorem byteNums_ok (s : ByteArray) : ∀ x ∈ byteNums s, 0 ≤ x ∧ x < 256 := by
  intro x hx
  unfold byteNums at hx
  rw [List.mem_map] at hx
  obtain ⟨b, _, rfl⟩ := hx
  have := b.toNat_lt
  omega
theorem flipP_at (raw : ByteArray) (k j : Nat) (hj : j < raw.size) : byteAt (flipP raw k) j = if j = k / 8 then byteAt raw j ^^^ 2 ^ (k % 8) else byteAt raw j := by
  have hx : byteAt raw (k / 8) ^^^ 2 ^ (k % 8) < 2 ^ 8 := Nat.xor_lt_two_pow (by have := byteAt_le raw (k / 8); omega) (Nat.pow_lt_pow_right (by decide) (by omega))
  have hl : j < (flipL raw k).length := by unfold flipL; rw [List.length_set, byteNums_length]; exact hj
  have h := nums_at (flipL raw k) j hl (by
    intro x hx'
    unfold flipL at hx'
    rcases List.mem_or_eq_of_mem_set hx' with h | h
    · exact byteNums_ok raw x h
    · subst h; omega)
  have hg := byteNums_get raw j hj
  unfold flipP
  rw [List.getD_eq_getElem?_getD] at hg
  unfold flipL at h ⊢
  rw [List.getD_eq_getElem?_getD, List.getElem?_set] at h
  by_cases e : k / 8 = j
  · rw [if_pos e, if_pos (by rw [byteNums_length]; omega)] at h
    rw [if_pos e.symm]
    have := Int.ofNat_inj.1 h
    rw [this, e]
  · rw [if_neg e, hg] at h
    rw [if_neg (fun x => e x.symm)]
    exact Int.ofNat_inj.1 h
/-- The page S is R, with the bit e i of word i inverted. -/
def FlS (R : ByteArray) (E : Nat → Option Nat) (S : ByteArray) : Prop := S.size = R.size ∧ ∀ j, j < R.size → byteAt S j = byteAt R j ^^^ fb E j
theorem FlS.start (R : ByteArray) : FlS R (fun _ => none) R := ⟨rfl, fun j _ => by rw [fb_none rfl, Nat.xor_zero]⟩
theorem FlS.flip {R S : ByteArray} {E : Nat → Option Nat} (h : FlS R E S) {k p : Nat} (hk : 8 * k + p / 8 < R.size) (hp : p < 64) (he : E k = none) : FlS R (upd E k (some p)) (flipP S (64 * k + p)) := by
  refine ⟨by rw [flipP_size]; exact h.1, fun j hj => ?_⟩
  rw [flipP_at _ _ _ (by rw [h.1]; exact hj), h.2 j hj, show (64 * k + p) / 8 = 8 * k + p / 8 by omega, show (64 * k + p) % 8 = p % 8 by omega]
  by_cases e1 : j = 8 * k + p / 8
  · rw [if_pos e1, fb_none (e := E) (by rw [show j / 8 = k by omega]; exact he), Nat.xor_zero, fb_some (p := p) (by rw [show j / 8 = k by omega]; exact upd_at _ _ _), if_pos (by omega)]
  · rw [if_neg e1]
    congr 1
    by_cases e2 : j / 8 = k
    · rw [fb_none (by rw [e2]; exact he), fb_some (p := p) (by rw [e2]; exact upd_at _ _ _), if_neg (by omega)]
    · unfold fb; rw [upd_far _ _ e2]
theorem FlS.body {R S : ByteArray} {E : Nat → Option Nat} (h : FlS R E S) (hR : R.size = 91) : FlB (bodyOf R) E (byteNums (bodyOf S)) := by
  have h1 := bodyOf_size hR
  have h2 := bodyOf_size (h.1.trans hR)
  refine ⟨by rw [byteNums_length]; omega, fun j hj => ?_⟩
  rw [byteNums_get _ _ (by omega)]
  unfold bodyOf
  rw [byteAt_extract _ _ _ _ (by omega), byteAt_extract _ _ _ _ (by omega), Nat.zero_add, h.2 j (by omega)]
theorem FlS.chks {R S : ByteArray} {E : Nat → Option Nat} (h : FlS R E S) (hR : R.size = 91) (h10 : E 10 = none) (h11 : ∀ q, E 11 = some q → q / 8 = 2) : chksOf S = chksOf R := by
  have h1 := chksOf_size hR
  have h2 := chksOf_size (h.1.trans hR)
  refine str_ext (by omega) fun j hj => ?_
  unfold chksOf
  rw [byteAt_extract _ _ _ _ (by omega), byteAt_extract _ _ _ _ (by omega), h.2 _ (by omega)]
  have hf : fb E (80 + j) = 0 := by
    by_cases e : j < 8
    · exact fb_none (by rw [show (80 + j) / 8 = 10 by omega]; exact h10)
    · cases h : E 11 with
      | none => exact fb_none (by rw [show (80 + j) / 8 = 11 by omega]; exact h)
      | some q =>
        rw [fb_some (p := q) (by rw [show (80 + j) / 8 = 11 by omega]; exact h), if_neg (by have := h11 q h; omega)]
  rw [hf, Nat.xor_zero]
theorem ones_two : ∀ q : Fin 8, onesF 8 (2 ^ q.val) = 1 := by decide +kernel
theorem FlS.mark {R S : ByteArray} {E : Nat → Option Nat} (h : FlS R E S) (hR : R.size = 91) (hm : byteAt R 90 = 90) (h11 : ∀ q, E 11 = some q → q / 8 = 2) : mkErr S = if (E 11).isSome then 1 else 0 := by
  unfold mkErr
  rw [h.2 90 (by omega), hm, Nat.xor_comm 90, Nat.xor_assoc, Nat.xor_self, Nat.xor_zero]
  cases e : E 11 with
  | none => rw [fb_none (by exact e)]; rfl
  | some q =>
    rw [fb_some (p := q) (by exact e), if_pos (h11 q e)]
    exact ones_two ⟨q % 8, by omega⟩
theorem nums_str (s : ByteArray) : strOfNums (byteNums s) = s := str_nums s
theorem seal_opens {d s S : ByteArray} {n : Nat} {E : Nat → Option Nat} (hd : d.size = 64) (hs : s.size = 16) (hn : n ≤ 65534) (h : FlS (sealB d s n) E S)
    (hE : ∀ i p, E i = some p → p < 64) (h10 : E 10 = none) (h11 : ∀ q, E 11 = some q → q / 8 = 2) : OpenEnds S (n : Int) d s (cntE E 12 : Nat) 0 := by
  have hR := sealB_size (p := n) hd hs
  have hb := h.body hR
  have hbs := bodyOf_size hR
  have hc := h.chks hR h10 h11
  have hm := h.mark hR (seal_mark hd hs) h11
  have hdec := fun i (hi : i < 10) => hb.dec (m := 10) hbs hE hi
  rw [nums_str] at hdec
  rw [seal_chks hd hs] at hc
  rw [seal_body hd hs] at hdec hbs
  change chksOf S = strOfNums (chkL (scrB (d ++ s) n) 10) at hc
  rw [← hc] at hdec
  have hout := out_back (S := bodyOf S) (t := chksOf S) hbs fun i hi => (hdec i hi).2.1
  have htot := tot_cnt (e := E) (S := bodyOf S) (t := chksOf S) 10 fun i hi => (hdec i hi).2.2
  have hds : scrB (scrB (d ++ s) n) n = d ++ s := scr_back _ _
  have hle := totL_le (bodyOf S) (chksOf S) 10
  have hk : cntE E 12 = totL (bodyOf S) (chksOf S) 10 + mkErr S := by rw [htot, hm, cntE, cntE, h10]; rfl
  have key := OpenEnds.done (raw := S) (p := (n : Int)) (h.1.trans hR) n rfl hn (by rw [hm]; split <;> omega) 10 (Nat.le_refl _) (fun k hk => (hdec k hk).1) (scrB (d ++ s) n) (totL (bodyOf S) (chksOf S) 10) (by omega) hbs (.inl ⟨rfl, hout.symm, rfl, rfl⟩)
  rw [hds, ext_left _ _ hd, ext_right _ _ hd (by omega)] at key
  rw [hk, Int.natCast_add]
  exact key
theorem cntE_upd {E : Nat → Option Nat} {k p : Nat} (he : E k = none) : ∀ n, k < n → cntE (upd E k (some p)) n = cntE E n + 1
  | 0, h => by omega
  | n + 1, h => by
    rw [cntE, cntE]
    by_cases e : k = n
    · subst e
      rw [upd_at, he, cntE_congr (f := E) k fun i hi => upd_far E _ (by omega)]; rfl
    · rw [cntE_upd he n (by omega), upd_far E _ (fun x => e x.symm)]; omega
end Go.Proofs.YthenilomgbnpeaaGreatDoor
/- Plain facts: the mark of a page that was torn, erased or destroyed, also with a bit inverted. -/
namespace Go.Proofs.YthenilomgbnpeaaGreatDoor
open Go.RowKit
set_option linter.unusedVariables false

theorem fillB_at (c n j : Nat) (hc : c < 256) (h : j < n) : byteAt (fillB c n) j = c := by
  unfold byteAt fillB
  simp only [List.getD_eq_getElem?_getD]
  rw [List.getElem?_replicate, if_pos h]
  simp; omega
/-- A page that cannot be opened: its mark has more than one wrong bit. -/
def Shut (s : ByteArray) : Prop := s.size = 91 ∧ 1 < mkErr s
theorem mark_255 : ∀ q : Fin 8, 1 < onesF 8 (255 ^^^ 2 ^ q.val ^^^ 90) := by decide +kernel
theorem tornB_mark {raw : ByteArray} (hr : raw.size = 91) {k : Nat} (hk : k ≤ 90) : byteAt (tornB raw k) 90 = 255 := by
  unfold tornB
  have h1 : (raw.extract 0 k).size = k := by rw [ByteArray.size_extract]; omega
  have := byteAt_right (raw.extract 0 k) (fillB 255 (91 - k)) (90 - k)
  rw [h1, show k + (90 - k) = 90 by omega] at this
  rw [this, fillB_at _ _ _ (by omega) (by omega)]
theorem shut_torn {raw : ByteArray} (hr : raw.size = 91) {k : Nat} (hk : k ≤ 90) : Shut (tornB raw k) := by
  refine ⟨tornB_size hr (by omega), ?_⟩
  unfold mkErr
  rw [tornB_mark hr hk]; decide +kernel
theorem shut_bent {raw : ByteArray} (hr : raw.size = 91) {k : Nat} (hk : k ≤ 90) (b : Nat) : Shut (flipP (tornB raw k) b) := by
  have hs := tornB_size hr (show k ≤ 91 by omega)
  refine ⟨by rw [flipP_size, hs], ?_⟩
  unfold mkErr
  rw [flipP_at _ _ _ (by omega), tornB_mark hr hk]
  split
  · exact mark_255 ⟨b % 8, by omega⟩
  · decide +kernel
theorem shut_erased : Shut erasedB := by
  refine ⟨erasedB_size, ?_⟩
  unfold mkErr erasedB
  rw [fillB_at _ _ _ (by omega) (by omega)]; decide +kernel
theorem shut_dest : Shut destB := by
  refine ⟨destB_size, ?_⟩
  unfold mkErr destB
  rw [fillB_at _ _ _ (by omega) (by omega)]; decide +kernel
theorem Shut.ends {s : ByteArray} (h : Shut s) {p : Int} (hp : 0 ≤ p ∧ p ≤ 65534) : OpenEnds s p ⟨#[]⟩ ⟨#[]⟩ 0 6 := .mark h.1 hp h.2
end Go.Proofs.YthenilomgbnpeaaGreatDoor
