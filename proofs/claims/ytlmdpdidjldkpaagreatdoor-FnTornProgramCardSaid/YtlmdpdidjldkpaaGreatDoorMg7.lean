/- The proof's own lemmas, part 8 of 8: FlpN ScrN PsN PtN TpN FlP WkPt WkTp. -/
import Derived.Test.YtlmdpdidjldkpaaGreatDoorMg1
import Derived.Test.YtlmdpdidjldkpaaGreatDoorMg6
import Derived.Test.YtlmdpdidjldkpaaGreatDoorMg2
import Derived.Test.YtlmdpdidjldkpaaGreatDoorProg
import Derived.Test.YtlmdpdidjldkpaaGreatDoorMg4
import Derived.Test.YtlmdpdidjldkpaaGreatDoorMg3
import Derived.Test.YtlmdpdidjldkpaaGreatDoorMg0
import Derived.Deep.DeepCutAuto
import Derived.Deep.RegionHeld3
/- Plain facts: data of several words, in each at most one bit inverted. -/
namespace Go.Proofs.YtlmdpdidjldkpaaGreatDoor
open Go.RowKit

/-- What byte j is changed by, if e i is the bit inverted in word i. -/
def fb (e : Nat → Option Nat) (j : Nat) : Nat := match e (j / 8) with
  | some p => if p / 8 = j % 8 then 2 ^ (p % 8) else 0
  | none => 0
theorem fb_none {e : Nat → Option Nat} {j : Nat} (h : e (j / 8) = none) : fb e j = 0 := by unfold fb; rw [h]
theorem fb_some {e : Nat → Option Nat} {j p : Nat} (h : e (j / 8) = some p) : fb e j = if p / 8 = j % 8 then 2 ^ (p % 8) else 0 := by unfold fb; rw [h]
theorem fb_lt (e : Nat → Option Nat) (j : Nat) : fb e j < 256 := by
  cases h : e (j / 8) with
  | none => rw [fb_none h]; omega
  | some p =>
    rw [fb_some h]
    split
    · exact Nat.pow_lt_pow_right (a := 2) (m := p % 8) (n := 8) (by decide) (by omega)
    · omega
def upd (e : Nat → Option Nat) (k : Nat) (v : Option Nat) : Nat → Option Nat := fun i => if i = k then v else e i
theorem upd_at (e : Nat → Option Nat) (k : Nat) (v : Option Nat) : upd e k v k = v := by unfold upd; rw [if_pos rfl]
theorem upd_far (e : Nat → Option Nat) {k i : Nat} (v : Option Nat) (h : i ≠ k) : upd e k v i = e i := by unfold upd; rw [if_neg h]
def cntE (e : Nat → Option Nat) : Nat → Nat
  | 0 => 0
  | k + 1 => cntE e k + (if (e k).isSome then 1 else 0)
theorem cntE_congr {e f : Nat → Option Nat} : ∀ k, (∀ i, i < k → e i = f i) → cntE e k = cntE f k
  | 0, _ => rfl
  | k + 1, h => by rw [cntE, cntE, cntE_congr k (fun i hi => h i (by omega)), h k (by omega)]
/-- The bytes l are those of D, changed by e. -/
def FlB (D : ByteArray) (e : Nat → Option Nat) (l : List Int) : Prop := l.length = D.size ∧ ∀ j, j < D.size → l.getD j 0 = ((byteAt D j ^^^ fb e j : Nat) : Int)
theorem FlB.start (D : ByteArray) (l : List Int) (hl : l.length = D.size) (h : ∀ j, j < D.size → l.getD j 0 = (byteAt D j : Int)) : FlB D (fun _ => none) l :=
  ⟨hl, fun j hj => by rw [fb_none rfl, Nat.xor_zero]; exact h j hj⟩
theorem FlB.old {D : ByteArray} {e : Nat → Option Nat} {l : List Int} (h : FlB D e l) {j : Nat} (hj : j < D.size) (he : e (j / 8) = none) : l.getD j 0 = (byteAt D j : Int) := by
  rw [h.2 j hj, fb_none he, Nat.xor_zero]
theorem FlB.flip {D : ByteArray} {e : Nat → Option Nat} {l : List Int} (h : FlB D e l) {k p : Nat} (_hk : 8 * k + 8 ≤ D.size) (hp : p < 64) (he : e k = none) :
    FlB D (upd e k (some p)) (l.set (8 * k + p / 8) ((byteAt D (8 * k + p / 8) ^^^ 2 ^ (p % 8) : Nat) : Int)) := by
  refine ⟨by rw [List.length_set]; exact h.1, fun j hj => ?_⟩
  rw [List.getD_eq_getElem?_getD, List.getElem?_set]
  by_cases e1 : 8 * k + p / 8 = j
  · rw [if_pos e1, if_pos (by rw [h.1]; omega), fb_some (p := p) (by rw [show j / 8 = k by omega]; exact upd_at _ _ _), if_pos (by omega), e1]; rfl
  · rw [if_neg e1, ← List.getD_eq_getElem?_getD, h.2 j hj]
    congr 2
    by_cases e2 : j / 8 = k
    · rw [fb_none (by rw [e2]; exact he), fb_some (p := p) (by rw [e2]; exact upd_at _ _ _), if_neg (by omega)]
    · unfold fb; rw [upd_far _ _ e2]
section
variable {D : ByteArray} {e : Nat → Option Nat} {l : List Int} {m : Nat}
theorem FlB.ok (h : FlB D e l) : ∀ x ∈ l, 0 ≤ x ∧ x < 256 := by
  intro x hx
  obtain ⟨i, hi, rfl⟩ := List.getElem_of_mem hx
  have := h.2 i (by rw [← h.1]; exact hi)
  rw [List.getD_eq_getElem?_getD, List.getElem?_eq_getElem hi] at this
  have h1 := byteAt_le D i
  have h2 := fb_lt e i
  have : byteAt D i ^^^ fb e i < 2 ^ 8 := Nat.xor_lt_two_pow (by omega) (by omega)
  simp at *
  omega
theorem FlB.byte (h : FlB D e l) {j : Nat} (hj : j < D.size) : byteAt (strOfNums l) j = byteAt D j ^^^ fb e j := by
  have := nums_at l j (by rw [h.1]; exact hj) h.ok
  rw [h.2 j hj] at this
  exact Int.ofNat_inj.1 this
theorem FlB.size (h : FlB D e l) : (strOfNums l).size = D.size := by rw [strOfNums_size, h.1]
theorem FlB.word_none (h : FlB D e l) {i : Nat} (hi : 8 * i + 8 ≤ D.size) (he : e i = none) : wdN (strOfNums l) i = wdN D i := by
  refine bytes_ext (wdN_lt _ _) (wdN_lt _ _) fun j hj => ?_
  unfold wdN
  rw [wordN_at _ hj, wordN_at _ hj, wd_at _ _ hj, wd_at _ _ hj, h.byte (by omega), fb_none (by rw [show (8 * i + j) / 8 = i by omega]; exact he), Nat.xor_zero]
theorem FlB.word_some (h : FlB D e l) {i p : Nat} (hi : 8 * i + 8 ≤ D.size) (he : e i = some p) (hp : p < 64) : wdN (strOfNums l) i = wdN D i ^^^ 2 ^ p := by
  refine bytes_ext (wdN_lt _ _) (Nat.xor_lt_two_pow (wdN_lt _ _) (Nat.pow_lt_pow_right (by decide) hp)) fun j hj => ?_
  rw [xor_byte, two_byte]
  unfold wdN
  rw [wordN_at _ hj, wordN_at _ hj, wd_at _ _ hj, wd_at _ _ hj, h.byte (by omega), fb_some (p := p) (by rw [show (8 * i + j) / 8 = i by omega]; exact he), show (8 * i + j) % 8 = j by omega]
  by_cases e1 : p / 8 = j
  · rw [if_pos e1, if_pos e1.symm]
  · rw [if_neg e1, if_neg (fun x => e1 x.symm)]
theorem chk_byte {n i : Nat} (hi : i < n) : byteAt (strOfNums (chkL D n)) i = chkN (wdN D i) := by
  have := nums_at (chkL D n) i (by rw [chkL_length]; exact hi) (chkL_ok D n)
  rw [chkL_at D n i hi] at this
  exact Int.ofNat_inj.1 this
theorem FlB.dec (h : FlB D e l) (hD : D.size = 8 * m) (hp : ∀ i p, e i = some p → p < 64) {i : Nat} (hi : i < m) :
    okX (cwX (strOfNums l) (strOfNums (chkL D m)) i) ∧ valX (cwX (strOfNums l) (strOfNums (chkL D m)) i) = wdN D i ∧ cntX (cwX (strOfNums l) (strOfNums (chkL D m)) i) = if (e i).isSome then 1 else 0 := by
  have hg := chk_good (wdN_lt D i)
  have hc := chkN_lt (wdN D i)
  obtain ⟨X, hX⟩ : ∃ X, X = wdN D i + 2 ^ 64 * chkN (wdN D i) := ⟨_, rfl⟩
  have hlo : lo X = wdN D i := by rw [hX]; exact lo_of _ (wdN_lt D i)
  cases he : e i with
  | none =>
    have hx : cwX (strOfNums l) (strOfNums (chkL D m)) i = X := by
      unfold cwX
      rw [h.word_none (by omega) he, chk_byte hi, hX]
    rw [← hX] at hg
    rw [hx]
    refine ⟨.inl hg, ?_, ?_⟩
    · unfold valX; rw [if_pos hg, hlo]
    · unfold cntX; rw [if_pos hg]; rfl
  | some p =>
    have hp64 := hp i p he
    have hx : cwX (strOfNums l) (strOfNums (chkL D m)) i = X ^^^ 2 ^ p := by
      unfold cwX
      rw [h.word_some (by omega) he hp64, chk_byte hi, hX]
      exact (flip_low (wdN_lt D i) hp64).1
    rw [← hX] at hg
    obtain ⟨f1, f2⟩ := good_one hg (show p < 72 by omega)
    have hng := not_good f2
    have hfix : fixN (X ^^^ 2 ^ p) = X := by
      unfold fixN
      rw [f1]
      have hbb : bitAt (posN p) = p := posN_inj (bitAt_lt (posN_le p)) (by omega) (posN_bitAt (posN_le p))
      rw [hbb, Nat.xor_assoc, Nat.xor_self, Nat.xor_zero]
    rw [hx]
    refine ⟨.inr ⟨f2, by rw [f1]; exact posN_le p⟩, ?_, ?_⟩
    · unfold valX; rw [if_neg (by rw [hng]; simp), hfix, hlo]
    · unfold cntX; rw [if_neg (by rw [hng]; simp)]; rfl
theorem outL_at {S t : ByteArray} : ∀ n, (∀ i, i < n → valX (cwX S t i) = wdN D i) → ∀ j, j < 8 * n → (outL S t n).getD j 0 = (byteAt D j : Int)
  | 0, _, j, h => by omega
  | n + 1, hv, j, h => by
    have hl := outL_length S t n
    rw [outL, List.getD_eq_getElem?_getD]
    by_cases hj : j < 8 * n
    · rw [List.getElem?_append_left (by omega), ← List.getD_eq_getElem?_getD]
      exact outL_at n (fun i hi => hv i (by omega)) j hj
    · rw [List.getElem?_append_right (by omega), hl, hv n (by omega), ← List.getD_eq_getElem?_getD, wL_at _ (by omega)]
      unfold wdN
      rw [wordN_at _ (by omega), wd_at _ _ (by omega)]
      congr 2; omega
theorem out_back {S t : ByteArray} (hD : D.size = 8 * m) (hv : ∀ i, i < m → valX (cwX S t i) = wdN D i) : strOfNums (outL S t m) = D := by
  have hat := outL_at m hv
  have hok : ∀ x ∈ outL S t m, 0 ≤ x ∧ x < 256 := by
    intro x hx
    obtain ⟨i, hi, rfl⟩ := List.getElem_of_mem hx
    have := hat i (by rw [← outL_length S t m]; exact hi)
    rw [List.getD_eq_getElem?_getD, List.getElem?_eq_getElem hi] at this
    have h1 := byteAt_le D i
    simp at *
    omega
  refine str_ext (by rw [strOfNums_size, outL_length, hD]) fun j hj => ?_
  rw [strOfNums_size, outL_length] at hj
  have := nums_at (outL S t m) j (by rw [outL_length]; exact hj) hok
  rw [hat j hj] at this
  exact Int.ofNat_inj.1 this
theorem tot_cnt {S t : ByteArray} : ∀ n, (∀ i, i < n → cntX (cwX S t i) = if (e i).isSome then 1 else 0) → totL S t n = cntE e n
  | 0, _ => rfl
  | n + 1, h => by rw [totL, cntE, tot_cnt n (fun i hi => h i (by omega)), h n (by omega)]
theorem pow_bit (a b : Nat) : 2 ^ a / 2 ^ b % 2 = if a = b then 1 else 0 := by
  by_cases h : a = b
  · subst h; rw [if_pos rfl, Nat.div_self (Nat.pow_pos (by decide))]
  · rw [if_neg h]
    rcases Nat.lt_or_gt_of_ne h with h1 | h1
    · rw [Nat.div_eq_of_lt (Nat.pow_lt_pow_right (by decide) h1)]
    · rw [Nat.pow_div (by omega) (by decide), show a - b = (a - b - 1) + 1 by omega, Nat.pow_succ]; omega
theorem FlB.dif (h : FlB D e l) {b : Nat} (hb : b / 8 < D.size) (hp : ∀ i p, e i = some p → p < 64) : difB D (strOfNums l) b = true ↔ e (b / 64) = some (b % 64) := by
  unfold difB
  rw [h.byte hb, ← Nat.xor_assoc, Nat.xor_self, Nat.zero_xor]
  have h64 : b / 8 / 8 = b / 64 := by omega
  cases he : e (b / 64) with
  | none => rw [fb_none (by rw [h64]; exact he)]; simp
  | some p =>
    have := hp _ _ he
    rw [fb_some (p := p) (by rw [h64]; exact he)]
    by_cases e1 : p / 8 = b / 8 % 8
    · rw [if_pos e1, pow_bit]
      by_cases e2 : p % 8 = b % 8
      · rw [if_pos e2]; simp; omega
      · rw [if_neg e2]; simp; omega
    · rw [if_neg e1]; simp; omega
theorem FlB.dif_in (h : FlB D e l) (hD : D.size = 8 * m) (hp : ∀ i p, e i = some p → p < 64) {k c : Nat} (hk : k < m) (hc : (difL D (strOfNums l) (64 * k)).length = c) :
    ∀ r, r ≤ 64 → (difL D (strOfNums l) (64 * k + r)).length = c + (match e k with | some p => if p < r then 1 else 0 | none => 0)
  | 0, _ => by
    rw [Nat.add_zero, hc]
    cases e k with
    | none => rfl
    | some p => simp
  | r + 1, hr => by
    have ih := FlB.dif_in h hD hp hk hc r (by omega)
    have hd := h.dif (b := 64 * k + r) (by omega) hp
    rw [show (64 * k + r) / 64 = k by omega, show (64 * k + r) % 64 = r by omega] at hd
    rw [← Nat.add_assoc, difL]
    by_cases hb : difB D (strOfNums l) (64 * k + r) = true
    · rw [if_pos hb, List.length_append, ih, hd.1 hb]
      simp
    · rw [if_neg hb, ih]
      cases he : e k with
      | none => rfl
      | some p =>
        have : p ≠ r := fun x => hb (hd.2 (by rw [he, x]))
        simp only []
        by_cases h1 : p < r
        · rw [if_pos h1, if_pos (by omega)]
        · rw [if_neg h1, if_neg (by omega)]
theorem FlB.dif_all (h : FlB D e l) (hD : D.size = 8 * m) (hp : ∀ i p, e i = some p → p < 64) : ∀ k, k ≤ m → (difL D (strOfNums l) (64 * k)).length = cntE e k
  | 0, _ => rfl
  | k + 1, hk => by
    have := h.dif_in hD hp (show k < m by omega) (FlB.dif_all h hD hp k (by omega)) 64 (Nat.le_refl _)
    rw [show 64 * (k + 1) = 64 * k + 64 by omega, this, cntE]
    cases he : e k with
    | none => rfl
    | some p => simp [hp k p he]
end
end Go.Proofs.YtlmdpdidjldkpaaGreatDoor
/- Plain facts on the exclusive or of texts: what it does twice is undone; with zeros it changes nothing. -/
namespace Go.Proofs.YtlmdpdidjldkpaaGreatDoor
open Go.RowKit

theorem xorL_getD (a b : ByteArray) : ∀ (n k : Nat), k < n → (xorL a b n).getD k 0 = ((byteAt a k ^^^ byteAt b k : Nat) : Int)
  | 0, k, h => by omega
  | n + 1, k, h => by
    rw [xorL]
    by_cases hk : k < n
    · have := xorL_getD a b n k hk
      rw [List.getD_eq_getElem?_getD] at this ⊢
      rw [List.getElem?_append_left (by rw [xorL_length]; exact hk)]
      exact this
    · obtain rfl : k = n := by omega
      rw [List.getD_eq_getElem?_getD, List.getElem?_append_right (by rw [xorL_length]; omega), xorL_length, Nat.sub_self]
      rfl
theorem xorL_eq (a b : ByteArray) (n : Nat) (l : List Int) (hl : l.length = n) (h : ∀ k, k < n → l.getD k 0 = ((byteAt a k ^^^ byteAt b k : Nat) : Int)) : xorL a b n = l := by
  apply List.ext_getElem
  · rw [xorL_length, hl]
  · intro k h1 h2
    have e1 := xorL_getD a b n k (by omega)
    have e2 := h k (by omega)
    rw [List.getD_eq_getElem?_getD, List.getElem?_eq_getElem h1] at e1
    rw [List.getD_eq_getElem?_getD, List.getElem?_eq_getElem h2] at e2
    simp only [Option.getD_some] at e1 e2
    rw [e1, e2]
theorem byteAt_str (l : List Int) (k : Nat) (hk : k < l.length) (h0 : 0 ≤ l.getD k 0) (h1 : l.getD k 0 < 256) : (byteAt (strOfNums l) k : Int) = l.getD k 0 := by
  unfold byteAt
  rw [strOfNums_data, List.getD_eq_getElem?_getD, List.getElem?_map, List.getElem?_eq_getElem hk]
  rw [List.getD_eq_getElem?_getD, List.getElem?_eq_getElem hk] at h0 h1 ⊢
  simp only [Option.map_some, Option.getD_some] at h0 h1 ⊢
  rw [UInt8.toNat_ofNat']
  omega
theorem xor_byte_lt (a b : ByteArray) (k : Nat) : byteAt a k ^^^ byteAt b k < 256 :=
  Nat.xor_lt_two_pow (n := 8) (by have := byteAt_le a k; omega) (by have := byteAt_le b k; omega)
theorem byteAt_xor (a b : ByteArray) (n k : Nat) (hk : k < n) : byteAt (strOfNums (xorL a b n)) k = byteAt a k ^^^ byteAt b k := by
  have e := xorL_getD a b n k hk
  have hl := xor_byte_lt a b k
  have := byteAt_str (xorL a b n) k (by rw [xorL_length]; exact hk) (by rw [e]; omega) (by rw [e]; omega)
  omega
theorem str_nums (s : ByteArray) : strOfNums (nums s) = s := by
  apply ByteArray.ext
  apply Array.toList_inj.1
  rw [strOfNums_data]
  unfold nums
  rw [List.map_map]
  simp [Function.comp_def]
/-- Scrambling twice. -/
theorem twice_back (s key : ByteArray) : strOfNums (xorL (strOfNums (xorL s key s.size)) key s.size) = s := by
  have : xorL (strOfNums (xorL s key s.size)) key s.size = nums s := by
    refine xorL_eq _ _ _ _ (nums_length s) fun k hk => ?_
    rw [nums_get s k hk, byteAt_xor s key s.size k hk, Nat.xor_assoc, Nat.xor_self, Nat.xor_zero]
  rw [this, str_nums]
/-- Scrambling zeros. -/
theorem zeros_key (key : ByteArray) (n : Nat) (h : key.size = n) : strOfNums (xorL (strOfNums (List.replicate n 0)) key n) = key := by
  have : xorL (strOfNums (List.replicate n 0)) key n = nums key := by
    refine xorL_eq _ _ _ _ (by rw [nums_length, h]) fun k hk => ?_
    rw [nums_get key k (by omega)]
    have hz : (List.replicate n (0 : Int)).getD k 0 = 0 := by rw [List.getD_eq_getElem?_getD, List.getElem?_replicate, if_pos hk]; rfl
    have hb := byteAt_str (List.replicate n (0 : Int)) k (by simpa using hk) (by rw [hz]; omega) (by rw [hz]; omega)
    rw [hz] at hb
    rw [show byteAt (strOfNums (List.replicate n 0)) k = 0 by omega, Nat.zero_xor]
  rw [this, str_nums]
end Go.Proofs.YtlmdpdidjldkpaaGreatDoor
/- Plain facts: a sealed page with a bit inverted in some of its words, and in its mark, opens. -/
namespace Go.Proofs.YtlmdpdidjldkpaaGreatDoor
open Go.RowKit
set_option linter.unusedVariables false

theorem scr_back (x : ByteArray) (p : Nat) : scrB (scrB x p) p = x := by
  have h := scrB_size x p
  show strOfNums (xorL (scrB x p) (strOfNums (streamL (p + 1) (scrB x p).size)) (scrB x p).size) = x
  rw [h]
  exact twice_back x _
theorem byteAt_left (a b : ByteArray) {j : Nat} (h : j < a.size) : byteAt (a ++ b) j = byteAt a j := by
  have h' : j < a.data.toList.length := by simpa using h
  unfold byteAt
  rw [ByteArray.data_append, Array.toList_append, List.getD_eq_getElem?_getD, List.getD_eq_getElem?_getD, List.getElem?_append_left h']
theorem byteAt_right (a b : ByteArray) (j : Nat) : byteAt (a ++ b) (a.size + j) = byteAt b j := by
  have h' : a.data.toList.length = a.size := by simp
  unfold byteAt
  rw [ByteArray.data_append, Array.toList_append, List.getD_eq_getElem?_getD, List.getD_eq_getElem?_getD, List.getElem?_append_right (by omega), h', Nat.add_sub_cancel_left]
theorem ext_left (a b : ByteArray) {n : Nat} (h : a.size = n) : (a ++ b).extract 0 n = a := by
  refine str_ext (by rw [ByteArray.size_extract, ByteArray.size_append]; omega) fun j hj => ?_
  rw [ByteArray.size_extract, ByteArray.size_append] at hj
  rw [byteAt_extract _ _ _ _ (by omega), Nat.zero_add, byteAt_left _ _ (by omega)]
theorem ext_right (a b : ByteArray) {n m : Nat} (h : a.size = n) (hm : n + b.size = m) : (a ++ b).extract n m = b := by
  refine str_ext (by rw [ByteArray.size_extract, ByteArray.size_append]; omega) fun j hj => ?_
  rw [ByteArray.size_extract, ByteArray.size_append] at hj
  rw [byteAt_extract _ _ _ _ (by omega), ← h, byteAt_right]
theorem seal_body {d s : ByteArray} {n : Nat} (hd : d.size = 64) (hs : s.size = 16) : bodyOf (sealB d s n) = scrB (d ++ s) n := by
  unfold bodyOf sealB
  rw [ByteArray.append_assoc]
  exact ext_left _ _ (by rw [scrB_size, ByteArray.size_append]; omega)
theorem seal_chks {d s : ByteArray} {n : Nat} (hd : d.size = 64) (hs : s.size = 16) : chksOf (sealB d s n) = chkB (scrB (d ++ s) n) := by
  unfold chksOf sealB
  have h1 : (scrB (d ++ s) n).size = 80 := by rw [scrB_size, ByteArray.size_append]; omega
  have h2 := chkB_size (scrB (d ++ s) n)
  have h3 := markS_size
  generalize scrB (d ++ s) n = x at *
  refine str_ext (by rw [ByteArray.size_extract, ByteArray.size_append, ByteArray.size_append]; omega) fun j hj => ?_
  rw [ByteArray.size_extract, ByteArray.size_append, ByteArray.size_append] at hj
  rw [byteAt_extract _ _ _ _ (by omega), ByteArray.append_assoc, ← h1, byteAt_right, byteAt_left _ _ (by omega)]
theorem seal_mark {d s : ByteArray} {n : Nat} (hd : d.size = 64) (hs : s.size = 16) : byteAt (sealB d s n) 90 = 90 := by
  unfold sealB
  have h1 : (scrB (d ++ s) n).size = 80 := by rw [scrB_size, ByteArray.size_append]; omega
  have h2 := chkB_size (scrB (d ++ s) n)
  generalize scrB (d ++ s) n = x at *
  have h3 : (x ++ chkB x).size = 90 := by rw [ByteArray.size_append]; omega
  have := byteAt_right (x ++ chkB x) markS 0
  rw [h3] at this
  rw [this]; rfl
theorem byteNums_ok (s : ByteArray) : ∀ x ∈ byteNums s, 0 ≤ x ∧ x < 256 := by
  intro x hx
  unfold byteNums at hx
  rw [List.mem_map] at hx
  obtain ⟨b, _, rfl⟩ := hx
  have := b.toNat_lt
  omega
theorem flipP_at (raw : ByteArray) (k j : Nat) (hj : j < raw.size) : byteAt (flipP raw k) j = if j = k / 8 then byteAt raw j ^^^ 2 ^ (k % 8) else byteAt raw j := by
  have hx : byteAt raw (k / 8) ^^^ 2 ^ (k % 8) < 2 ^ 8 := Nat.xor_lt_two_pow (by have := byteAt_le raw (k / 8); omega) (Nat.pow_lt_pow_right (by decide) (by omega))
  have hl : j < (flipL raw k).length := by unfold flipL; rw [List.length_set, byteNums_length]; exact hj
  have h := nums_at (flipL raw k) j hl (by
    intro x hx'
    unfold flipL at hx'
    rcases List.mem_or_eq_of_mem_set hx' with h | h
    · exact byteNums_ok raw x h
    · subst h; omega)
  have hg := byteNums_get raw j hj
  unfold flipP
  rw [List.getD_eq_getElem?_getD] at hg
  unfold flipL at h ⊢
  rw [List.getD_eq_getElem?_getD, List.getElem?_set] at h
  by_cases e : k / 8 = j
  · rw [if_pos e, if_pos (by rw [byteNums_length]; omega)] at h
    rw [if_pos e.symm]
    have := Int.ofNat_inj.1 h
    rw [this, e]
  · rw [if_neg e, hg] at h
    rw [if_neg (fun x => e x.symm)]
    exact Int.ofNat_inj.1 h
/-- The page S is R, with the bit e i of word i inverted. -/
def FlS (R : ByteArray) (E : Nat → Option Nat) (S : ByteArray) : Prop := S.size = R.size ∧ ∀ j, j < R.size → byteAt S j = byteAt R j ^^^ fb E j
theorem FlS.start (R : ByteArray) : FlS R (fun _ => none) R := ⟨rfl, fun j _ => by rw [fb_none rfl, Nat.xor_zero]⟩
theorem FlS.flip {R S : ByteArray} {E : Nat → Option Nat} (h : FlS R E S) {k p : Nat} (hk : 8 * k + p / 8 < R.size) (hp : p < 64) (he : E k = none) : FlS R (upd E k (some p)) (flipP S (64 * k + p)) := by
  refine ⟨by rw [flipP_size]; exact h.1, fun j hj => ?_⟩
  rw [flipP_at _ _ _ (by rw [h.1]; exact hj), h.2 j hj, show (64 * k + p) / 8 = 8 * k + p / 8 by omega, show (64 * k + p) % 8 = p % 8 by omega]
  by_cases e1 : j = 8 * k + p / 8
  · rw [if_pos e1, fb_none (e := E) (by rw [show j / 8 = k by omega]; exact he), Nat.xor_zero, fb_some (p := p) (by rw [show j / 8 = k by omega]; exact upd_at _ _ _), if_pos (by omega)]
  · rw [if_neg e1]
    congr 1
    by_cases e2 : j / 8 = k
    · rw [fb_none (by rw [e2]; exact he), fb_some (p := p) (by rw [e2]; exact upd_at _ _ _), if_neg (by omega)]
    · unfold fb; rw [upd_far _ _ e2]
theorem FlS.body {R S : ByteArray} {E : Nat → Option Nat} (h : FlS R E S) (hR : R.size = 91) : FlB (bodyOf R) E (byteNums (bodyOf S)) := by
  have h1 := bodyOf_size hR
  have h2 := bodyOf_size (h.1.trans hR)
  refine ⟨by rw [byteNums_length]; omega, fun j hj => ?_⟩
  rw [byteNums_get _ _ (by omega)]
  unfold bodyOf
  rw [byteAt_extract _ _ _ _ (by omega), byteAt_extract _ _ _ _ (by omega), Nat.zero_add, h.2 j (by omega)]
theorem FlS.chks {R S : ByteArray} {E : Nat → Option Nat} (h : FlS R E S) (hR : R.size = 91) (h10 : E 10 = none) (h11 : ∀ q, E 11 = some q → q / 8 = 2) : chksOf S = chksOf R := by
  have h1 := chksOf_size hR
  have h2 := chksOf_size (h.1.trans hR)
  refine str_ext (by omega) fun j hj => ?_
  unfold chksOf
  rw [byteAt_extract _ _ _ _ (by omega), byteAt_extract _ _ _ _ (by omega), h.2 _ (by omega)]
  have hf : fb E (80 + j) = 0 := by
    by_cases e : j < 8
    · exact fb_none (by rw [show (80 + j) / 8 = 10 by omega]; exact h10)
    · cases h : E 11 with
      | none => exact fb_none (by rw [show (80 + j) / 8 = 11 by omega]; exact h)
      | some q =>
        rw [fb_some (p := q) (by rw [show (80 + j) / 8 = 11 by omega]; exact h), if_neg (by have := h11 q h; omega)]
  rw [hf, Nat.xor_zero]
theorem ones_two : ∀ q : Fin 8, onesF 8 (2 ^ q.val) = 1 := by decide +kernel
theorem FlS.mark {R S : ByteArray} {E : Nat → Option Nat} (h : FlS R E S) (hR : R.size = 91) (hm : byteAt R 90 = 90) (h11 : ∀ q, E 11 = some q → q / 8 = 2) : mkErr S = if (E 11).isSome then 1 else 0 := by
  unfold mkErr
  rw [h.2 90 (by omega), hm, Nat.xor_comm 90, Nat.xor_assoc, Nat.xor_self, Nat.xor_zero]
  cases e : E 11 with
  | none => rw [fb_none (by exact e)]; rfl
  | some q =>
    rw [fb_some (p := q) (by exact e), if_pos (h11 q e)]
    exact ones_two ⟨q % 8, by omega⟩
theorem nums_str (s : ByteArray) : strOfNums (byteNums s) = s := str_nums s
theorem seal_opens {d s S : ByteArray} {n : Nat} {E : Nat → Option Nat} (hd : d.size = 64) (hs : s.size = 16) (hn : n ≤ 65534) (h : FlS (sealB d s n) E S)
    (hE : ∀ i p, E i = some p → p < 64) (h10 : E 10 = none) (h11 : ∀ q, E 11 = some q → q / 8 = 2) : OpenEnds S (n : Int) d s (cntE E 12 : Nat) 0 := by
  have hR := sealB_size (p := n) hd hs
  have hb := h.body hR
  have hbs := bodyOf_size hR
  have hc := h.chks hR h10 h11
  have hm := h.mark hR (seal_mark hd hs) h11
  have hdec := fun i (hi : i < 10) => hb.dec (m := 10) hbs hE hi
  rw [nums_str] at hdec
  rw [seal_chks hd hs] at hc
  rw [seal_body hd hs] at hdec hbs
  change chksOf S = strOfNums (chkL (scrB (d ++ s) n) 10) at hc
  rw [← hc] at hdec
  have hout := out_back (S := bodyOf S) (t := chksOf S) hbs fun i hi => (hdec i hi).2.1
  have htot := tot_cnt (e := E) (S := bodyOf S) (t := chksOf S) 10 fun i hi => (hdec i hi).2.2
  have hds : scrB (scrB (d ++ s) n) n = d ++ s := scr_back _ _
  have hle := totL_le (bodyOf S) (chksOf S) 10
  have hk : cntE E 12 = totL (bodyOf S) (chksOf S) 10 + mkErr S := by rw [htot, hm, cntE, cntE, h10]; rfl
  have key := OpenEnds.done (raw := S) (p := (n : Int)) (h.1.trans hR) n rfl hn (by rw [hm]; split <;> omega) 10 (Nat.le_refl _) (fun k hk => (hdec k hk).1) (scrB (d ++ s) n) (totL (bodyOf S) (chksOf S) 10) (by omega) hbs (.inl ⟨rfl, hout.symm, rfl, rfl⟩)
  rw [hds, ext_left _ _ hd, ext_right _ _ hd (by omega)] at key
  rw [hk, Int.natCast_add]
  exact key
theorem cntE_upd {E : Nat → Option Nat} {k p : Nat} (he : E k = none) : ∀ n, k < n → cntE (upd E k (some p)) n = cntE E n + 1
  | 0, h => by omega
  | n + 1, h => by
    rw [cntE, cntE]
    by_cases e : k = n
    · subst e
      rw [upd_at, he, cntE_congr (f := E) k fun i hi => upd_far E _ (by omega)]; rfl
    · rw [cntE_upd he n (by omega), upd_far E _ (fun x => e x.symm)]; omega
end Go.Proofs.YtlmdpdidjldkpaaGreatDoor
/- Plain facts: the mark of a page that was torn, erased or destroyed, also with a bit inverted. -/
namespace Go.Proofs.YtlmdpdidjldkpaaGreatDoor
open Go.RowKit
set_option linter.unusedVariables false

theorem fillB_at (c n j : Nat) (hc : c < 256) (h : j < n) : byteAt (fillB c n) j = c := by
  unfold byteAt fillB
  simp only [List.getD_eq_getElem?_getD]
  rw [List.getElem?_replicate, if_pos h]
  simp; omega
/-- A page that cannot be opened: its mark has more than one wrong bit. -/
def Shut (s : ByteArray) : Prop := s.size = 91 ∧ 1 < mkErr s
theorem mark_255 : ∀ q : Fin 8, 1 < onesF 8 (255 ^^^ 2 ^ q.val ^^^ 90) := by decide +kernel
theorem tornB_mark {raw : ByteArray} (hr : raw.size = 91) {k : Nat} (hk : k ≤ 90) : byteAt (tornB raw k) 90 = 255 := by
  unfold tornB
  have h1 : (raw.extract 0 k).size = k := by rw [ByteArray.size_extract]; omega
  have := byteAt_right (raw.extract 0 k) (fillB 255 (91 - k)) (90 - k)
  rw [h1, show k + (90 - k) = 90 by omega] at this
  rw [this, fillB_at _ _ _ (by omega) (by omega)]
theorem shut_torn {raw : ByteArray} (hr : raw.size = 91) {k : Nat} (hk : k ≤ 90) : Shut (tornB raw k) := by
  refine ⟨tornB_size hr (by omega), ?_⟩
  unfold mkErr
  rw [tornB_mark hr hk]; decide +kernel
theorem shut_bent {raw : ByteArray} (hr : raw.size = 91) {k : Nat} (hk : k ≤ 90) (b : Nat) : Shut (flipP (tornB raw k) b) := by
  have hs := tornB_size hr (show k ≤ 91 by omega)
  refine ⟨by rw [flipP_size, hs], ?_⟩
  unfold mkErr
  rw [flipP_at _ _ _ (by omega), tornB_mark hr hk]
  split
  · exact mark_255 ⟨b % 8, by omega⟩
  · decide +kernel
theorem shut_erased : Shut erasedB := by
  refine ⟨erasedB_size, ?_⟩
  unfold mkErr erasedB
  rw [fillB_at _ _ _ (by omega) (by omega)]; decide +kernel
theorem shut_dest : Shut destB := by
  refine ⟨destB_size, ?_⟩
  unfold mkErr destB
  rw [fillB_at _ _ _ (by omega) (by omega)]; decide +kernel
theorem Shut.ends {s : ByteArray} (h : Shut s) {p : Int} (hp : 0 ≤ p ∧ p ≤ 65534) : OpenEnds s p ⟨#[]⟩ ⟨#[]⟩ 0 6 := .mark h.1 hp h.2
end Go.Proofs.YtlmdpdidjldkpaaGreatDoor
/- Plain facts: what an interrupted program operation leaves, page by page. -/
namespace Go.Proofs.YtlmdpdidjldkpaaGreatDoor
open Go.RowKit
set_option linter.unusedVariables false
/-- A program operation on an array whose fuse is armed: refused, or begun and cut. -/
theorem cutp_codes {F : Fl} {block page : Int} {raw : ByteArray} {G : Fl} {c : Int} (h : ProgEnds F block page raw G c) (hok : FlOk F) (hoff : F.off = false) (hf : F.fu = 0) (hr : raw.size = 91) :
    (c = 8 ∧ ∃ k n : Nat, block = k ∧ page = n ∧ k < F.bs.length ∧ (n : Int) < F.p ∧ (F.blk k).bad = false ∧ (F.blk k).nx = n ∧ G = F.prog k raw) ∨ (c ≠ 8 ∧ c ≠ 0) := by
  rcases h with h | ⟨_, _, h1⟩ | _ | _ | _ | ⟨_, _, h1, k, n, hk, hn, hkl, hnp, h2, h3⟩
  · rcases h with h | h
    · exact absurd hok h
    · exact absurd hr h
  · rw [h1] at hoff; cases hoff
  · exact .inr ⟨by omega, by omega⟩
  · exact .inr ⟨by omega, by omega⟩
  · exact .inr ⟨by omega, by omega⟩
  · exact .inl ⟨by unfold Fl.code; rw [if_pos hf], k, n, hk, hn, hkl, by omega, h2, by omega, rfl⟩
/-- The lower page of a pair. -/
def pairLow (n : Nat) : Nat := if n % 2 = 1 then n - 1 else n
theorem pairLow_le (n : Nat) : pairLow n ≤ n := by unfold pairLow; split <;> omega
/-- What the interrupted page holds when the power is back. -/
def cutPage (raw : ByteArray) (ke : Int) : ByteArray := if ke = 0 then erasedB else tornB raw ke.toNat
theorem cutPage_size {raw : ByteArray} (hr : raw.size = 91) {ke : Int} (hke : 0 ≤ ke ∧ ke ≤ 91) : (cutPage raw ke).size = 91 := by
  unfold cutPage; split
  · exact erasedB_size
  · exact tornB_size hr (by omega)
theorem cutPage_shut {raw : ByteArray} (hr : raw.size = 91) {ke : Int} (hke : 0 ≤ ke ∧ ke ≤ 90) : Shut (cutPage raw ke) := by
  unfold cutPage; split
  · exact shut_erased
  · exact shut_torn hr (by omega)
theorem cutPage_all {raw : ByteArray} (hr : raw.size = 91) : cutPage raw 91 = raw := by
  unfold cutPage; rw [if_neg (by decide)]; exact tornB_all hr
section
variable {F : Fl} {k n : Nat} {ke : Int} {raw : ByteArray}
theorem cutp_facts (h : FlOk F) (ho : 0 ≤ F.op ∧ F.op ≤ 1000) (hoff : F.off = false) (hke : 0 ≤ ke ∧ ke ≤ 91) (hk : k < F.bs.length) (hnp : (n : Int) < F.p) (hn : (F.blk k).nx = n) (hb : (F.blk k).bad = false) (hr : raw.size = 91) :
    let G := F.arm 0 ke
    let X := G.prog k raw
    FlOk X ∧ X.off = true ∧ X.bs.length = F.bs.length ∧ X.ke = ke ∧ FlOk X.on ∧ OthEq X.bs G.bs k (pairLow n) n ∧ ReadEnds X.on k n (cutPage raw ke) 0 ∧ ReadEnds X k n ⟨#[]⟩ 8 ∧ X.on.off = false := by
  intro G X
  have hg := h.arm0 (ke := ke) hke
  have hx : FlOk X := hg.prog (k := k) (show F.op < 9223372036854775807 by omega) hk (show (F.blk k).nx < F.p by omega) hr
  have hpl := h.plen hk
  have hXe : X = if ke = 0 then G.tick else G.tick.upd k ((F.blk k).torn raw ke) := by
    show G.prog k raw = _
    unfold Fl.prog
    rw [if_pos (show G.fu = 0 from rfl)]
    rfl
  have hoffX : X.off = true := by
    rw [hXe]; split <;> (show (if G.fu = 0 then true else G.off) = true; rw [if_pos (show G.fu = 0 from rfl)])
  have hlX : X.bs.length = F.bs.length := by
    rw [hXe]; split
    · rfl
    · show (F.bs.set k _).length = _; rw [List.length_set]
  have hkX : X.ke = ke := by rw [hXe]; split <;> rfl
  have hpX : X.p = F.p := by rw [hXe]; split <;> rfl
  refine ⟨hx, hoffX, hlX, hkX, hx.on, ?_, ?_, .off hx hoffX, rfl⟩
  · by_cases h0 : ke = 0
    · rw [hXe, if_pos h0]
      exact ⟨rfl, fun i hi => ⟨rfl, fun t ht hc => rfl⟩⟩
    · rw [hXe, if_neg h0]
      show OthEq (F.bs.set k ((F.blk k).torn raw ke)) F.bs k (pairLow n) n
      have hpl2 := pairLow_le n
      refine othSet _ hk ?_ fun t ht hc => ?_
      · show (List.set (if _ then _ else _) _ _).length = _
        rw [List.length_set]; split
        · rw [List.length_set]; rfl
        · rfl
      · show (List.set (if (F.blk k).nx.toNat % 2 = 1 ∧ ke < 91 then _ else _) (F.blk k).nx.toNat _).getD t _ = _
        rw [hn, show ((n : Int)).toNat = n by omega]
        rw [getD_set_ne _ _ _ _ _ (by omega)]
        by_cases hod : n % 2 = 1 ∧ ke < 91
        · rw [if_pos hod]
          have : pairLow n = n - 1 := by unfold pairLow; rw [if_pos hod.1]
          rw [getD_set_ne _ _ _ _ _ (by omega)]
          rfl
        · rw [if_neg hod]
          rfl
  · have hkon : X.on.bs.length = F.bs.length := hlX
    have hnp' : (n : Int) < X.on.p := by show (n : Int) < X.p; omega
    by_cases h0 : ke = 0
    · have hbl : X.on.blk k = F.blk k := by
        show X.bs.getD k Blk.zero = _
        rw [hXe, if_pos h0]; rfl
      have hem : (X.on.blk k).at n = ByteArray.empty := by
        rw [hbl]
        have hbo := h.2.2.1 k hk
        have := hbo.2.2.2 n (by omega)
        have h4 : PageOk (F.blk k).nx n ((F.blk k).at n) := this
        rcases h4 with h4 | ⟨_, h4⟩
        · exact ByteArray.size_eq_zero_iff.1 h4
        · omega
      have := ReadEnds.empty (block := k) (page := n) hx.on rfl k n rfl rfl (by omega) hnp' hem
      unfold cutPage
      rw [if_pos h0]
      exact this
    · have hbl : X.on.blk k = (F.blk k).torn raw ke := by
        show X.bs.getD k Blk.zero = _
        rw [hXe, if_neg h0]
        show (F.bs.set k _).getD k Blk.zero = _
        rw [getD_set_eq _ _ _ _ hk]
      have hat : (X.on.blk k).at n = tornB raw ke.toNat := by
        rw [hbl]
        show (List.set (if (F.blk k).nx.toNat % 2 = 1 ∧ ke < 91 then _ else _) (F.blk k).nx.toNat _).getD n _ = _
        rw [hn, show ((n : Int)).toNat = n by omega]
        rw [getD_set_eq]
        split
        · rw [List.length_set]; omega
        · omega
      have hne : (X.on.blk k).at n ≠ ByteArray.empty := by rw [hat]; exact not_empty (tornB_size hr (by omega))
      have := ReadEnds.full (block := k) (page := n) hx.on rfl k n rfl rfl (by omega) hnp' hne
      rw [hat] at this
      unfold cutPage
      rw [if_neg h0]
      exact this
end
end Go.Proofs.YtlmdpdidjldkpaaGreatDoor
/- PowerOn and ArmFuse, in the model and in the program: the contracts. -/
namespace Go.Proofs.YtlmdpdidjldkpaaGreatDoor
open Go.RowKit
set_option linter.unusedVariables false
set_option maxHeartbeats 1000000 in
theorem implOn_any (v : Value) (F G : Fl) (w : World) (lo hi : Nat) (h : FlIn w lo hi v F) (hh : hi ≤ w.heap.size) (hG : OnEnds F G) (hl : FlLen F) :
    Calls Tryz.prog 13 #[v] w (OwnPost G w) := by
  obtain ⟨r, hr⟩ := prop_dec (FlOk F)
  obtain ⟨u, rfl, hb⟩ := h
  have hv : ∀ W : World, BksIn W lo hi u F.bs → FlIn W lo hi (.agg (flc F u)) F := fun W a => ⟨u, rfl, a⟩
  have HV := Lib.hid (fun (W : World) (a : BksIn W lo hi u F.bs) (c : hi ≤ W.heap.size) => implValid_any (.agg (flc F u)) F r W lo hi (hv W a) c hr hl)
  have HO := Lib.hid (fun (hok : FlOk F) (W : World) (a : BksIn W lo hi u F.bs) (c : hi ≤ W.heap.size) => clone_any (.agg (flc F u)) F W lo hi (hv W a) c hok)
  have H := Lib.hid hb
  obtain ⟨Au, nu, cu, rfl⟩ := hb.slice
  clear hb hv hl
  obtain ⟨d, b, p, bs, fu, ke, off, op⟩ := F
  unfold flc at *
  simp only at *
  obtain ⟨r0, r1, b0⟩ := Rw.two_new w 28 28 #[.int .i64 d, .int .i64 b, .int .i64 p, .slice Au nu cu, .int .i64 fu, .int .i64 ke, .bool off, .int .i64 op]
    #[.int .i64 0, .int .i64 0, .int .i64 0, .slice none 0 0, .int .i64 0, .int .i64 0, .bool false, .int .i64 0]
  have R0 := Lib.hid r0
  have R1 := Lib.hid r1
  have B0 := Lib.hid b0
  clear r0 r1 b0
  have HG := Lib.hid hG
  clear hG
  go_enter Tryz.func13, Tryz.ntmps13
  go_wp2_with fail
  refine (HV.out _ (H.out.same (sm B0.out lo hh)) (by simp; omega)).mono ?_
  rintro e w1 ⟨rfl, b1⟩
  have S0 := Lib.hid (R0.out.below b1 (by simp; omega))
  have S1 := Lib.hid (R1.out.below b1 (by simp))
  have B1 := Lib.hid (B0.out.trans (b1.mono (by simp; omega)))
  have hsz1 := b1.size
  simp only [World.size_alloc] at hsz1
  obtain ⟨a0, a1, a2, a3, a4, a5, a6, a7⟩ := S0.out.eight
  obtain ⟨z0, z1, z2, z3, z4, z5, z6, z7⟩ := S1.out.eight
  obtain ⟨fz0, fz1, fz2, fz3, fz4, fz5, fz6, fz7⟩ := S1.out.frees
  clear b1
  rcases HG.out with ⟨hok, rfl⟩ | ⟨hno, rfl⟩
  · obtain rfl : r = true := hr.2 hok
    have HO2 := Lib.hid (HO.out hok)
    clear hr hok HO
    go_wp2_with fail
    refine (HO2.out _ (H.out.same (sm B1.out lo hh)) (by omega)).mono ?_
    rintro e w2 ⟨u2, rfl, ho, b2⟩
    obtain ⟨uu, rfl, ho⟩ := ho
    obtain ⟨A2, n2, c2, rfl⟩ := ho.slice
    have T1 := Lib.hid (S1.out.below b2 (by omega))
    have B2 := Lib.hid (B1.out.trans (b2.mono (by omega)))
    have HO3 := Lib.hid ho
    have hsz2 := b2.size
    clear z0 z1 z2 z3 z4 z5 z6 z7 fz0 fz1 fz2 fz3 fz4 fz5 fz6 fz7 b2
    obtain ⟨z0, z1, z2, z3, z4, z5, z6, z7⟩ := T1.out.eightA
    obtain ⟨fz0, fz1, fz2, fz3, fz4, fz5, fz6, fz7⟩ := T1.out.freesA
    unfold flc
    simp only
    go_wp2
    refine bodyPost_ret (results_cell_row Tryz.results13 _ _ _ _ #[.int .i64 d, .int .i64 b, .int .i64 p, .slice A2 n2 c2, .int .i64 (-1), .int .i64 ke, .bool false, .int .i64 op] _ _ rfl
      ((T1.out.alloc _).put8 _ _ _ _ _ _ _ _) Tryz.underlying28 rfl infoFl8) rfl ?_
    refine ⟨_, rfl, ⟨_, rfl, (HO3.out.same ?_).wide (by omega) (by simp)⟩, ?_⟩
    · repeat refine sset ?_ (.inl (by omega)) _
      exact sm ((Below.refl _ _).alloc (Nat.le_refl _) _) _ (Nat.le_refl _)
    · repeat refine bset ?_ (by omega) _
      exact B2.out.alloc B2.out.size _
  · obtain rfl : r = false := (bool_of r hr).2 hno
    clear hr hno HO
    go_wp2
    refine bodyPost_ret (results_cell_row Tryz.results13 _ _ _ _ #[.int .i64 0, .int .i64 0, .int .i64 0, .slice none 0 0, .int .i64 0, .int .i64 0, .bool false, .int .i64 0] _ _ rfl
      (S1.out.put8 _ _ _ _ _ _ _ _) Tryz.underlying28 rfl infoFl8) rfl ?_
    refine ⟨_, rfl, zeroOwn _ _ _, ?_⟩
    repeat refine bset ?_ (by omega) _
    exact B1.out
set_option maxHeartbeats 1000000 in
theorem implArm_any (v : Value) (fuse keep : Int) (F G : Fl) (c : Int) (w : World) (lo hi : Nat) (h : FlIn w lo hi v F) (hh : hi ≤ w.heap.size) (hG : ArmEnds F fuse keep G c) (hl : FlLen F) :
    Calls Tryz.prog 6 #[v, .int .i64 fuse, .int .i64 keep] w (FlPost G c w) := by
  obtain ⟨r, hr⟩ := prop_dec (FlOk F)
  obtain ⟨u, rfl, hb⟩ := h
  have hv : ∀ W : World, BksIn W lo hi u F.bs → FlIn W lo hi (.agg (flc F u)) F := fun W a => ⟨u, rfl, a⟩
  have HV := Lib.hid (fun (W : World) (a : BksIn W lo hi u F.bs) (c : hi ≤ W.heap.size) => implValid_any (.agg (flc F u)) F r W lo hi (hv W a) c hr hl)
  have HO := Lib.hid (fun (hok : FlOk F) (W : World) (a : BksIn W lo hi u F.bs) (c : hi ≤ W.heap.size) => clone_any (.agg (flc F u)) F W lo hi (hv W a) c hok)
  have H := Lib.hid hb
  obtain ⟨Au, nu, cu, rfl⟩ := hb.slice
  clear hb hv hl
  obtain ⟨d, b, p, bs, fu, ke, off, op⟩ := F
  unfold flc at *
  simp only at *
  obtain ⟨r0, r1, b0⟩ := Rw.two_new w 28 28 #[.int .i64 d, .int .i64 b, .int .i64 p, .slice Au nu cu, .int .i64 fu, .int .i64 ke, .bool off, .int .i64 op]
    #[.int .i64 0, .int .i64 0, .int .i64 0, .slice none 0 0, .int .i64 0, .int .i64 0, .bool false, .int .i64 0]
  have R0 := Lib.hid r0
  have R1 := Lib.hid r1
  have B0 := Lib.hid b0
  clear r0 r1 b0
  have HG := Lib.hid hG
  clear hG
  go_enter Tryz.func6, Tryz.ntmps6
  go_wp2_with fail
  refine (HV.out _ (H.out.same (sm B0.out lo hh)) (by simp; omega)).mono ?_
  rintro e w1 ⟨rfl, b1⟩
  have S0 := Lib.hid (R0.out.below b1 (by simp; omega))
  have S1 := Lib.hid (R1.out.below b1 (by simp))
  have B1 := Lib.hid (B0.out.trans (b1.mono (by simp; omega)))
  have hsz1 := b1.size
  simp only [World.size_alloc] at hsz1
  obtain ⟨a0, a1, a2, a3, a4, a5, a6, a7⟩ := S0.out.eight
  obtain ⟨z0, z1, z2, z3, z4, z5, z6, z7⟩ := S1.out.eight
  obtain ⟨fz0, fz1, fz2, fz3, fz4, fz5, fz6, fz7⟩ := S1.out.frees
  clear b1
  have ZERO : Hid (∀ c : Int, FlPost Fl.zero c w (.returned (.tuple #[.agg #[.int .i64 0, .int .i64 0, .int .i64 0, .slice none 0 0, .int .i64 0, .int .i64 0, .bool false, .int .i64 0], .int .i64 c])) ((((((((w1.setCell ⟨w.heap.size + 1, 0, none⟩ (.int .i64 0)).setCell ⟨w.heap.size + 1, 1, none⟩ (.int .i64 0)).setCell ⟨w.heap.size + 1, 2, none⟩ (.int .i64 0)).setCell ⟨w.heap.size + 1, 3, none⟩ (.slice none 0 0)).setCell ⟨w.heap.size + 1, 4, none⟩ (.int .i64 0)).setCell ⟨w.heap.size + 1, 5, none⟩ (.int .i64 0)).setCell ⟨w.heap.size + 1, 6, none⟩ (.bool false)).setCell ⟨w.heap.size + 1, 7, none⟩ (.int .i64 0))) := Lib.hid (fun c => by
    refine ⟨_, rfl, zeroOwn _ _ _, ?_⟩
    repeat refine bset ?_ (by omega) _
    exact B1.out)
  rcases HG.out with hno | ⟨hok, ho⟩ | ⟨hok, ho, hrg⟩ | ⟨hok, ho, h2, h3⟩
  · obtain rfl : r = false := (bool_of r hr).2 hno
    clear hr hno HO
    go_wp2
    exact bodyPost_ret (results_row_tmp Tryz.results6 _ _ _ _ #[.int .i64 0, .int .i64 0, .int .i64 0, .slice none 0 0, .int .i64 0, .int .i64 0, .bool false, .int .i64 0] _ _ rfl
      (S1.out.put8 _ _ _ _ _ _ _ _) Tryz.underlying28 rfl infoFl8) rfl (ZERO.out 1)
  · obtain rfl : r = true := hr.2 hok
    simp only at ho
    subst ho
    clear hr hok HO
    go_wp2
    exact bodyPost_ret (results_row_tmp Tryz.results6 _ _ _ _ #[.int .i64 0, .int .i64 0, .int .i64 0, .slice none 0 0, .int .i64 0, .int .i64 0, .bool false, .int .i64 0] _ _ rfl
      (S1.out.put8 _ _ _ _ _ _ _ _) Tryz.underlying28 rfl infoFl8) rfl (ZERO.out 8)
  · obtain rfl : r = true := hr.2 hok
    simp only at ho
    subst ho
    clear hr hok HO
    by_cases g1 : -1 ≤ fuse ∧ fuse ≤ 1000000
    · have g2 : ¬ (0 ≤ keep ∧ keep ≤ 91) := by
        rcases hrg with q | q
        · exact absurd g1 q
        · exact q
      have K1 := Lib.hid (fun (W : World) => validFuse_any fuse true W (by simp; omega))
      have K2 := Lib.hid (fun (W : World) => validKeep_any keep false W (by simp; omega))
      clear hrg g1 g2
      go_wp2_with fail
      refine (K1.out _).mono ?_
      rintro e w2 ⟨rfl, rfl⟩
      go_wp2_with fail
      refine (K2.out _).mono ?_
      rintro e w2 ⟨rfl, rfl⟩
      go_wp2
      exact bodyPost_ret (results_row_tmp Tryz.results6 _ _ _ _ #[.int .i64 0, .int .i64 0, .int .i64 0, .slice none 0 0, .int .i64 0, .int .i64 0, .bool false, .int .i64 0] _ _ rfl
        (S1.out.put8 _ _ _ _ _ _ _ _) Tryz.underlying28 rfl infoFl8) rfl (ZERO.out 2)
    · have K1 := Lib.hid (fun (W : World) => validFuse_any fuse false W (by simp; omega))
      clear hrg g1
      go_wp2_with fail
      refine (K1.out _).mono ?_
      rintro e w2 ⟨rfl, rfl⟩
      go_wp2
      exact bodyPost_ret (results_row_tmp Tryz.results6 _ _ _ _ #[.int .i64 0, .int .i64 0, .int .i64 0, .slice none 0 0, .int .i64 0, .int .i64 0, .bool false, .int .i64 0] _ _ rfl
        (S1.out.put8 _ _ _ _ _ _ _ _) Tryz.underlying28 rfl infoFl8) rfl (ZERO.out 2)
  · obtain rfl : r = true := hr.2 hok
    simp only at ho
    subst ho
    have HO2 := Lib.hid (HO.out hok)
    have K1 := Lib.hid (fun (W : World) => validFuse_any fuse true W (by simp; omega))
    have K2 := Lib.hid (fun (W : World) => validKeep_any keep true W (by simp; omega))
    clear hr hok HO ZERO h2 h3
    go_wp2_with fail
    refine (K1.out _).mono ?_
    rintro e w2 ⟨rfl, rfl⟩
    go_wp2_with fail
    refine (K2.out _).mono ?_
    rintro e w2 ⟨rfl, rfl⟩
    go_wp2_with fail
    refine (HO2.out _ (H.out.same (sm B1.out lo hh)) (by omega)).mono ?_
    rintro e w2 ⟨u2, rfl, ho, b2⟩
    obtain ⟨uu, rfl, ho⟩ := ho
    obtain ⟨A2, n2, c2, rfl⟩ := ho.slice
    have T1 := Lib.hid (S1.out.below b2 (by omega))
    have B2 := Lib.hid (B1.out.trans (b2.mono (by omega)))
    have HO3 := Lib.hid ho
    have hsz2 := b2.size
    clear z0 z1 z2 z3 z4 z5 z6 z7 fz0 fz1 fz2 fz3 fz4 fz5 fz6 fz7 b2
    obtain ⟨z0, z1, z2, z3, z4, z5, z6, z7⟩ := T1.out.eightA
    obtain ⟨fz0, fz1, fz2, fz3, fz4, fz5, fz6, fz7⟩ := T1.out.freesA
    unfold flc
    simp only
    go_wp2
    refine bodyPost_ret (results_row_tmp Tryz.results6 _ _ _ _ #[.int .i64 d, .int .i64 b, .int .i64 p, .slice A2 n2 c2, .int .i64 fuse, .int .i64 keep, .bool false, .int .i64 op] _ _ rfl
      ((T1.out.alloc _).put8 _ _ _ _ _ _ _ _) Tryz.underlying28 rfl infoFl8) rfl ?_
    refine ⟨_, rfl, ⟨_, rfl, (HO3.out.same ?_).wide (by omega) (by simp)⟩, ?_⟩
    · repeat refine sset ?_ (.inl (by omega)) _
      exact sm ((Below.refl _ _).alloc (Nat.le_refl _) _) _ (Nat.le_refl _)
    · repeat refine bset ?_ (by omega) _
      exact B2.out.alloc B2.out.size _
end Go.Proofs.YtlmdpdidjldkpaaGreatDoor
/- A page that was torn, erased or destroyed: the walk. -/
namespace Go.Proofs.YtlmdpdidjldkpaaGreatDoor
open Go.RowKit
set_option linter.unusedVariables false
end Go.Proofs.YtlmdpdidjldkpaaGreatDoor
/- An interrupted program operation: the walk. -/
namespace Go.Proofs.YtlmdpdidjldkpaaGreatDoor
open Go.RowKit
set_option linter.unusedVariables false
/-- The array after its fuse was armed: in a variable's block, and its code. -/
def ArmSt (F : Fl) (w : World) (p9 c10 : Value) (wx : World) : Prop := ∃ (ke : Int) (G : Fl) (c : Int) (Ag : Option Addr) (ng cg g : Nat), (0 ≤ ke ∧ ke ≤ 91) ∧ ArmEnds F 0 ke G c ∧ p9 = .pointer (some ⟨g, 0, none⟩) ∧ c10 = .int .i64 c ∧
  FoSt G G Ag ng cg Ag ng cg g g w wx
theorem ArmSt.alloc {F G : Fl} {w wa wP : World} {ke c : Int} {Ag : Option Addr} {ng cg lo : Nat} (hk : 0 ≤ ke ∧ ke ≤ 91) (hG : ArmEnds F 0 ke G c) (h : BksOwn wP lo wP.heap.size (.slice Ag ng cg) G.bs) (b : Below w.heap.size w wP) :
    ArmSt F w (.pointer (some ⟨wP.heap.size, 0, none⟩)) (.int .i64 c) (wP.alloc (.cells #[.int .i64 G.d, .int .i64 G.b, .int .i64 G.p, .slice Ag ng cg, .int .i64 G.fu, .int .i64 G.ke, .bool G.off, .int .i64 G.op] 28)) := by
  have f : FlIn (wP.alloc (.cells #[.int .i64 G.d, .int .i64 G.b, .int .i64 G.p, .slice Ag ng cg, .int .i64 G.fu, .int .i64 G.ke, .bool G.off, .int .i64 G.op] 28)) 0 (wP.alloc (.cells #[.int .i64 G.d, .int .i64 G.b, .int .i64 G.p, .slice Ag ng cg, .int .i64 G.fu, .int .i64 G.ke, .bool G.off, .int .i64 G.op] 28)).heap.size (.agg #[.int .i64 G.d, .int .i64 G.b, .int .i64 G.p, .slice Ag ng cg, .int .i64 G.fu, .int .i64 G.ke, .bool G.off, .int .i64 G.op]) G := ⟨_, rfl, (h.reads.same (sm ((Below.refl wP.heap.size _).alloc (Nat.le_refl _) (.cells #[.int .i64 G.d, .int .i64 G.b, .int .i64 G.p, .slice Ag ng cg, .int .i64 G.fu, .int .i64 G.ke, .bool G.off, .int .i64 G.op] 28)) _ (Nat.le_refl _))).wide (Nat.zero_le _) (by simp)⟩
  exact ⟨ke, G, c, Ag, ng, cg, _, hk, hG, rfl, rfl, Rw.new _ _ _, Rw.new _ _ _, f, f, b.alloc b.size _⟩
theorem ArmSt.store {F G : Fl} {w wP : World} {ke c : Int} {Ag : Option Addr} {ng cg lo g : Nat} (hk : 0 ≤ ke ∧ ke ≤ 91) (hG : ArmEnds F 0 ke G c) (h : BksOwn wP lo wP.heap.size (.slice Ag ng cg) G.bs) (b : Below w.heap.size w wP)
    (r : Rw wP g 28 #[.int .i64 0, .int .i64 0, .int .i64 0, .slice none 0 0, .int .i64 0, .int .i64 0, .bool false, .int .i64 0]) (h1 : w.heap.size ≤ g) (h2 : g < lo) :
    ArmSt F w (.pointer (some ⟨g, 0, none⟩)) (.int .i64 c) ((((((((wP.setCell ⟨g, 0, none⟩ (.int .i64 G.d)).setCell ⟨g, 1, none⟩ (.int .i64 G.b)).setCell ⟨g, 2, none⟩ (.int .i64 G.p)).setCell ⟨g, 3, none⟩ (.slice Ag ng cg)).setCell ⟨g, 4, none⟩ (.int .i64 G.fu)).setCell ⟨g, 5, none⟩ (.int .i64 G.ke)).setCell ⟨g, 6, none⟩ (.bool G.off)).setCell ⟨g, 7, none⟩ (.int .i64 G.op)) := by
  have f : FlIn ((((((((wP.setCell ⟨g, 0, none⟩ (.int .i64 G.d)).setCell ⟨g, 1, none⟩ (.int .i64 G.b)).setCell ⟨g, 2, none⟩ (.int .i64 G.p)).setCell ⟨g, 3, none⟩ (.slice Ag ng cg)).setCell ⟨g, 4, none⟩ (.int .i64 G.fu)).setCell ⟨g, 5, none⟩ (.int .i64 G.ke)).setCell ⟨g, 6, none⟩ (.bool G.off)).setCell ⟨g, 7, none⟩ (.int .i64 G.op)) 0 ((((((((wP.setCell ⟨g, 0, none⟩ (.int .i64 G.d)).setCell ⟨g, 1, none⟩ (.int .i64 G.b)).setCell ⟨g, 2, none⟩ (.int .i64 G.p)).setCell ⟨g, 3, none⟩ (.slice Ag ng cg)).setCell ⟨g, 4, none⟩ (.int .i64 G.fu)).setCell ⟨g, 5, none⟩ (.int .i64 G.ke)).setCell ⟨g, 6, none⟩ (.bool G.off)).setCell ⟨g, 7, none⟩ (.int .i64 G.op)).heap.size (.agg #[.int .i64 G.d, .int .i64 G.b, .int .i64 G.p, .slice Ag ng cg, .int .i64 G.fu, .int .i64 G.ke, .bool G.off, .int .i64 G.op]) G :=
    ⟨_, rfl, (h.reads.same (by (repeat refine sset ?_ (by omega) _); exact Same.refl _ _ _)).wide (Nat.zero_le _) (by simp)⟩
  have bb : Below w.heap.size w ((((((((wP.setCell ⟨g, 0, none⟩ (.int .i64 G.d)).setCell ⟨g, 1, none⟩ (.int .i64 G.b)).setCell ⟨g, 2, none⟩ (.int .i64 G.p)).setCell ⟨g, 3, none⟩ (.slice Ag ng cg)).setCell ⟨g, 4, none⟩ (.int .i64 G.fu)).setCell ⟨g, 5, none⟩ (.int .i64 G.ke)).setCell ⟨g, 6, none⟩ (.bool G.off)).setCell ⟨g, 7, none⟩ (.int .i64 G.op)) := by
    repeat refine bset ?_ h1 _
    exact b
  exact ⟨ke, G, c, Ag, ng, cg, _, hk, hG, rfl, rfl, r.put8 _ _ _ _ _ _ _ _, r.put8 _ _ _ _ _ _ _ _, f, f, bb⟩
set_option maxHeartbeats 4000000 in
set_option maxRecDepth 100000 in
theorem tp_any (a0 : Option Addr) (len0 cap0 : Nat) (z0 : List Int) (a1 : Option Addr) (len1 cap1 : Nat) (z1 : List Int) (w : World) (w0 : IsRow .u8 w a0 len0 cap0 z0) (w1 : IsRow .u8 w a1 len1 cap1 z1) (hT0 : MaskTab w) :
    Calls Tryz.prog 3 #[.slice a0 len0 cap0, .slice a1 len1 cap1] w fun e w' => e = .returned (.bool true) ∧ Below w.heap.size w w' := by
  have b0 := w0.len
  have b1 := w1.len
  have HT := Lib.hid hT0
  clear hT0
  by_cases hl : len0 ≤ 1048576 ∧ len1 ≤ 1048576
  · obtain ⟨hl0, hl1⟩ := hl
    have hc0 := w0.code hl0
    have hc1 := w1.code hl1
    have HL := Lib.hid (show Calls Tryz.prog 4 #[.slice a0 len0 cap0, .slice a1 len1 cap1] w fun e w' => e = .returned (.bool false) ∧ w = w' from long_no _ _ _ _ _ _ _ hl0 hl1)
    have HD := Lib.hid (drawPg_any w _ hc0)
    have HA := Lib.hid (fun (W : World) (hb : Below w.heap.size w W) => b10At_any w.heap.size (.slice a1 len1 cap1) 0 92 W (hc1.keep hb.block) (by omega) (by omega) (by omega))
    have HB := Lib.hid (fun (W : World) (hb : Below w.heap.size w W) (i n : Nat) (h1 : i ≤ 100) (h2 : n ≤ 100) => b10Data_any w.heap.size (.slice a1 len1 cap1) i n W (hc1.keep hb.block) hb.size (by omega) (by omega))
    clear w0 w1 hc0 hc1 hl0 hl1 b0 b1
    go_enter Tryz.func3, Tryz.ntmps3
    go_wp2_with fail
    refine HL.out.mono ?_
    rintro e w' ⟨rfl, rfl⟩
    go_wp2_with fail
    refine HD.out.mono ?_
    rintro e w1 ⟨v, F, block, page, raw, rfl, ⟨u, rfl, hb⟩, hbent, hraw, b1⟩
    obtain ⟨A, nb, cb, rfl⟩ := hb.slice
    unfold flc
    have hz1 := b1.size
    have f1 : FlIn (w1.alloc (.cells #[.int .i64 F.d, .int .i64 F.b, .int .i64 F.p, .slice A nb cb, .int .i64 F.fu, .int .i64 F.ke, .bool F.off, .int .i64 F.op] 28)) 0 (w1.alloc (.cells #[.int .i64 F.d, .int .i64 F.b, .int .i64 F.p, .slice A nb cb, .int .i64 F.fu, .int .i64 F.ke, .bool F.off, .int .i64 F.op] 28)).heap.size (.agg #[.int .i64 F.d, .int .i64 F.b, .int .i64 F.p, .slice A nb cb, .int .i64 F.fu, .int .i64 F.ke, .bool F.off, .int .i64 F.op]) F := ⟨_, rfl, (hb.same (sm ((Below.refl w1.heap.size _).alloc (Nat.le_refl _) (.cells #[.int .i64 F.d, .int .i64 F.b, .int .i64 F.p, .slice A nb cb, .int .i64 F.fu, .int .i64 F.ke, .bool F.off, .int .i64 F.op] 28)) _ (Nat.le_refl _))).wide (Nat.zero_le _) (by simp)⟩
    have r1 := Rw.new w1 28 #[.int .i64 F.d, .int .i64 F.b, .int .i64 F.p, .slice A nb cb, .int .i64 F.fu, .int .i64 F.ke, .bool F.off, .int .i64 F.op]
    have S1 := Lib.hid (show FoSt F F A nb cb A nb cb w1.heap.size w1.heap.size w (w1.alloc (.cells #[.int .i64 F.d, .int .i64 F.b, .int .i64 F.p, .slice A nb cb, .int .i64 F.fu, .int .i64 F.ke, .bool F.off, .int .i64 F.op] 28)) from ⟨r1, r1, f1, f1, b1.alloc hz1 _⟩)
    have BENT := Lib.hid hbent
    clear HL HD hb hbent b1 f1 r1 hraw
    obtain ⟨f, hf⟩ : ∃ f, f = w1.heap.size := ⟨_, rfl⟩
    obtain ⟨wa, hwa⟩ : ∃ x, x = w1.alloc (.cells #[.int .i64 F.d, .int .i64 F.b, .int .i64 F.p, .slice A nb cb, .int .i64 F.fu, .int .i64 F.ke, .bool F.off, .int .i64 F.op] 28) := ⟨_, rfl⟩
    go_upto_region 4 with fail
    rw [← hf, ← hwa] at S1 ⊢
    clear hf hwa hz1
    have KP := Lib.hid (fun (W : World) (B : Below wa.heap.size wa W) => (show FoSt F F A nb cb A nb cb f f w W ∧ W.cell? ⟨f, 0, none⟩ = some (.int .i64 F.d) ∧ W.cell? ⟨f, 1, none⟩ = some (.int .i64 F.b) ∧ W.cell? ⟨f, 2, none⟩ = some (.int .i64 F.p) ∧ W.cell? ⟨f, 3, none⟩ = some (.slice A nb cb) ∧ W.cell? ⟨f, 4, none⟩ = some (.int .i64 F.fu) ∧ W.cell? ⟨f, 5, none⟩ = some (.int .i64 F.ke) ∧ W.cell? ⟨f, 6, none⟩ = some (.bool F.off) ∧ W.cell? ⟨f, 7, none⟩ = some (.int .i64 F.op) from ⟨S1.out.below B, (S1.out.below B).1.eight⟩))
    go_cut [9, 10] (fun p9 c10 wx => Hid (ArmSt F w p9 c10 wx))
    case first =>
      have hsa := S1.out.2.2.2.2.size
      go_region_held3 (fun W => FoSt F F A nb cb A nb cb f f w W ∧ W.cell? ⟨f, 0, none⟩ = some (.int .i64 F.d) ∧ W.cell? ⟨f, 1, none⟩ = some (.int .i64 F.b) ∧ W.cell? ⟨f, 2, none⟩ = some (.int .i64 F.p) ∧ W.cell? ⟨f, 3, none⟩ = some (.slice A nb cb) ∧ W.cell? ⟨f, 4, none⟩ = some (.int .i64 F.fu) ∧ W.cell? ⟨f, 5, none⟩ = some (.int .i64 F.ke) ∧ W.cell? ⟨f, 6, none⟩ = some (.bool F.off) ∧ W.cell? ⟨f, 7, none⟩ = some (.int .i64 F.op))
        (first
          | with_reducible exact KP.out _ ((((((((hbP.setCell hzq _).setCell hzq _).setCell hzq _).setCell hzq _).setCell hzq _).setCell hzq _).setCell hzq _).setCell hzq _)
          | with_reducible exact KP.out _ hbP
          | with_reducible exact KP.out _ (hbP.alloc hbP.size _)
          | with_reducible exact KP.out _ (Below.refl wa.heap.size wa).drew
          | with_reducible exact KP.out _ ((Below.refl wa.heap.size wa).alloc (Nat.le_refl _) _).drew)
        (first
          | (go_at_call 7
             refine (HA.out wa.drew (S1.out.2.2.2.2.drew)).mono ?_
             rintro e w' ⟨ke, rfl, hk0, hk1, rfl⟩
             obtain ⟨G, c, hG⟩ := armEnds F 0 ke)
          | (go_at_call 7
             refine (HA.out _ ((S1.out.2.2.2.2.alloc hsa _).drew)).mono ?_
             rintro e w' ⟨ke, rfl, hk0, hk1, rfl⟩
             obtain ⟨G, c, hG⟩ := armEnds F 0 ke)
          | (go_at_call 6
             refine (implArm_any _ 0 ke F G c wa.drew _ _ (KP.out _ (Below.refl wa.heap.size wa).drew).1.2.2.1 (Nat.le_refl _) hG BENT.out.lens).mono ?_
             rintro e wP ⟨y, rfl, ⟨uy, rfl, hby⟩, b2⟩
             obtain ⟨Ag, ng, cg, rfl⟩ := hby.slice
             unfold flc
             have hbP : Below wa.heap.size wa wP := (Below.refl wa.heap.size wa).drew.trans b2)
          | (go_at_call 6
             refine (implArm_any _ 0 ke F G c _ _ _ (KP.out _ ((Below.refl wa.heap.size wa).alloc (Nat.le_refl _) (.cells #[.int .i64 0, .int .i64 0, .int .i64 0, .slice none 0 0, .int .i64 0, .int .i64 0, .bool false, .int .i64 0] 28)).drew).1.2.2.1 (Nat.le_refl _) hG BENT.out.lens).mono ?_
             rintro e wP ⟨y, rfl, ⟨uy, rfl, hby⟩, b2⟩
             obtain ⟨Ag, ng, cg, rfl⟩ := hby.slice
             unfold flc
             have hbP : Below wa.heap.size wa wP := ((Below.refl wa.heap.size wa).alloc (Nat.le_refl _) (.cells #[.int .i64 0, .int .i64 0, .int .i64 0, .slice none 0 0, .int .i64 0, .int .i64 0, .bool false, .int .i64 0] 28)).drew.trans (b2.mono (by simp))
             have hzq : wa.heap.size ≤ wa.heap.size := Nat.le_refl _
             have rz := (show Rw (wa.alloc (.cells #[.int .i64 0, .int .i64 0, .int .i64 0, .slice none 0 0, .int .i64 0, .int .i64 0, .bool false, .int .i64 0] 28)).drew wa.heap.size _ _ from Rw.new wa 28 #[.int .i64 0, .int .i64 0, .int .i64 0, .slice none 0 0, .int .i64 0, .int .i64 0, .bool false, .int .i64 0]).below b2 (by simp)
             obtain ⟨z0, z1, z2, z3, z4, z5, z6, z7⟩ := rz.eight
             obtain ⟨y0, y1, y2, y3, y4, y5, y6, y7⟩ := rz.frees))
      all_goals (go_wp2_with fail; go_meet)
      all_goals
        refine Lib.hid ?_
        have hke : 0 ≤ ke ∧ ke ≤ 91 := ⟨hk0, by omega⟩
        have hbW := S1.out.2.2.2.2.trans (hbP.mono hsa)
        clear hk0 hk1 KP HA S1 BENT
        first
          | (with_reducible refine ArmSt.alloc (wa := wa) hke hG hby hbW)
          | (with_reducible refine ArmSt.store hke hG hby hbW rz hsa ?_
             simp)
    case rest =>
      obtain ⟨ke, G, c, Ag, ng, cg, g, hke, hG, rfl, rfl, S2⟩ := hcut.out
      have S2 := Lib.hid S2
      have HG := Lib.hid hG
      clear hcut S1 KP HA hG
      go_wp2_with fail
      refine (HB.out _ S2.out.2.2.2.2 1 64 (by omega) (by omega)).mono ?_
      rintro e w3 ⟨D, rfl, hD, b3⟩
      have S3 := Lib.hid (S2.out.below b3)
      clear S2 b3
      go_wp2_with fail
      refine (HB.out _ S3.out.2.2.2.2 65 16 (by omega) (by omega)).mono ?_
      rintro e w4 ⟨Sp, rfl, hS, b4⟩
      have S4 := Lib.hid (S3.out.below b4)
      clear S3 b4 HB
      have HSL := Lib.hid (fun (W : World) (hT : MaskTab W) => implSeal_any D Sp 7 (sealB D Sp 7) 0 W (.done ⟨hD, hS⟩ 7 rfl (by decide)) (by omega) (by omega) hT)
      have HR := Lib.hid (sealB_size (p := 7) hD hS)
      have HOP := Lib.hid (fun (W : World) (hT : MaskTab W) => implOpen_any (sealB D Sp 7) 7 D Sp (cntE (fun _ => none) 12 : Nat) 0 W (seal_opens (n := 7) hD hS (by decide) (FlS.start _) (fun _ _ h => by cases h) rfl (fun _ h => by cases h)) (by rw [HR.out]; omega) hT)
      have HOS := Lib.hid (fun (T : ByteArray) (h : Shut T) (W : World) (hT : MaskTab W) => implOpen_any T 7 ⟨#[]⟩ ⟨#[]⟩ 0 6 W (h.ends ⟨by omega, by omega⟩) (by have := h.1; omega) hT)
      generalize sealB D Sp 7 = R at *
      generalize ((cntE (fun _ => none) 12 : Nat) : Int) = cn at *
      clear hD hS
      go_wp2_with fail
      refine (HSL.out _ (HT.out.below S4.out.2.2.2.2 (Nat.le_refl _))).mono ?_
      rintro e w5 ⟨rfl, b5⟩
      have S5 := Lib.hid (S4.out.below b5)
      clear S4 b5 HSL
      rcases arm_codes HG.out hke with ⟨rfl, hok, hoff, hGe⟩ | hc
      case inr =>
        have e0 : (c != 0) = true := by simp; omega
        clear hc HG
        go_wp2
        go_ret
        exact ⟨rfl, S5.out.2.2.2.2⟩
      case inl =>
        have hga : FlOk G := by rw [hGe]; exact hok.arm0 hke
        obtain ⟨X, c, hX⟩ := progEnds G block page R
        have HPG := Lib.hid (fun (W : World) (S : FoSt G G Ag ng cg Ag ng cg g g w W) => implProg_any _ block page R G X c W _ _ S.2.2.1 (Nat.le_refl _) hX hga.lens (by rw [HR.out]; omega))
        have HCUT := Lib.hid (cutp_codes hX hga (by rw [hGe]; exact hoff) (by rw [hGe]; rfl) HR.out)
        have HOK := Lib.hid (show FlOk F ∧ F.off = false ∧ G = F.arm 0 ke from ⟨hok, hoff, hGe⟩)
        obtain ⟨d0, d1, d2, d3, d4, d5, d6, d7⟩ := S5.out.1.eight
        clear hga hX hok hoff hGe HG
        go_wp2_with fail
        clear d0 d1 d2 d3 d4 d5 d6 d7
        refine (HPG.out _ S5.out).mono ?_
        rintro e w6 ⟨y, rfl, ⟨ux, rfl, hbx⟩, b6⟩
        obtain ⟨Ax, nx, cx, rfl⟩ := hbx.slice
        unfold flc
        have s6 := (S5.out.below b6).alloc (.cells #[.int .i64 X.d, .int .i64 X.b, .int .i64 X.p, .slice Ax nx cx, .int .i64 X.fu, .int .i64 X.ke, .bool X.off, .int .i64 X.op] 28)
        have S6 := Lib.hid (show FoSt G X Ag ng cg Ax nx cx g w6.heap.size w (w6.alloc (.cells #[.int .i64 X.d, .int .i64 X.b, .int .i64 X.p, .slice Ax nx cx, .int .i64 X.fu, .int .i64 X.ke, .bool X.off, .int .i64 X.op] 28)) from ⟨s6.1, Rw.new _ _ _, s6.2.2.1, ⟨_, rfl, (hbx.reads.same (sm ((Below.refl w6.heap.size _).alloc (Nat.le_refl _) (.cells #[.int .i64 X.d, .int .i64 X.b, .int .i64 X.p, .slice Ax nx cx, .int .i64 X.fu, .int .i64 X.ke, .bool X.off, .int .i64 X.op] 28)) _ (Nat.le_refl _))).wide (Nat.zero_le _) (by simp)⟩, s6.2.2.2.2⟩)
        clear S5 b6 hbx HPG s6
        rcases HCUT.out with ⟨rfl, k, n, rfl, rfl, hkl, hnp, hbad, hnx, hXe⟩ | ⟨hc8, hc0⟩
        case inr =>
          have e0 : (c != 0) = true := by simp; omega
          have e8 : (c != 8) = true := by simp; omega
          clear hc8 hc0 HCUT
          go_wp2
          go_ret
          exact ⟨rfl, S6.out.2.2.2.2⟩
        case inl =>
          obtain ⟨hok, hoff, hGe⟩ := HOK.out
          have hop := hok.2.2.2.2.2
          have hGl : G.bs.length = F.bs.length := by rw [hGe]; rfl
          have hGk : G.ke = ke := by rw [hGe]; rfl
          have hGb : G.blk k = F.blk k := by rw [hGe]; rfl
          have hGp : G.p = F.p := by rw [hGe]; rfl
          have cf := cutp_facts (F := F) (k := k) (n := n) (ke := ke) (raw := R) hok ⟨hop, by have := BENT.out.2.2; omega⟩ hoff hke (by omega) (by omega) (by rw [← hGb]; exact hnx) (by rw [← hGb]; exact hbad) HR.out
          dsimp only at cf
          rw [← hGe, ← hXe] at cf
          obtain ⟨g0, g1, g2, g3, g4, g5, g6, g7, g8⟩ := cf
          obtain ⟨Y, hY⟩ : ∃ Y, Y = X.on := ⟨_, rfl⟩
          rw [← hY] at g4 g6 g8
          have hp16 : 8 ≤ F.p ∧ F.p ≤ 16 := hok.1.p16
          have hn16 : (n : Int) < 16 := by omega
          obtain ⟨P, hP⟩ : ∃ P, P = cutPage R ke := ⟨_, rfl⟩
          have HP : Hid ((ke = 91 ∧ P = R) ∨ (ke ≤ 90 ∧ Shut P)) := Lib.hid (by
            rw [hP]
            by_cases h : ke = 91
            · exact .inl ⟨h, by rw [h]; exact cutPage_all HR.out⟩
            · exact .inr ⟨by omega, cutPage_shut HR.out ⟨hke.1, by omega⟩⟩)
          rw [← hP] at g6
          have HVA := Lib.hid (fun (W : World) (S : FoSt G X Ag ng cg Ax nx cx g w6.heap.size w W) => specValid_any _ X true W _ _ S.2.2.2.1 (Nat.le_refl _) (by simp [g0]) g0.lens)
          have HON := Lib.hid (fun (W : World) (S : FoSt G X Ag ng cg Ax nx cx g w6.heap.size w W) => implOn_any _ X Y W _ _ S.2.2.2.1 (Nat.le_refl _) (.inl ⟨g0, hY⟩) g0.lens)
          have HRX := Lib.hid (fun (W : World) (S : FoSt G X Ag ng cg Ax nx cx g w6.heap.size w W) => implRead_any _ (k : Int) (n : Int) X ⟨#[]⟩ 8 W _ _ S.2.2.2.1 (Nat.le_refl _) g7 g0.lens)
          have HRY := Lib.hid (fun (W : World) (Ay : Option Addr) (ny cy y : Nat) (S : FoSt X Y Ax nx cx Ay ny cy w6.heap.size y w W) => implRead_any _ (k : Int) (n : Int) Y P 0 W _ _ S.2.2.2.1 (Nat.le_refl _) g6 g4.lens)
          have HOT0 := Lib.hid (fun (low : Int) (hlow : ((pairLow n : Nat) : Int) = low) (W : World) (S : FoSt G X Ag ng cg Ax nx cx g w6.heap.size w W) => others_any _ _ X G (k : Int) low (n : Int) W _ _ _ _ S.2.2.2.1 S.2.2.1 (Nat.le_refl _) (Nat.le_refl _) (hlow ▸ g5) g0.lens)
          have HGK := Lib.hid hGk
          have HXO := Lib.hid g1
          have HYO := Lib.hid g8
          clear HCUT HOK hop hok hoff hGe hGl hGk hGb hGp g0 g1 g2 g3 g4 g5 g6 g7 g8 hY hP hXe hkl hnp hbad hnx BENT hp16
          have hwn : IntKind.i64.wrap ((n : Int) - 1) = (n : Int) - 1 := IntWalk.i64_in _ (by omega)
          obtain ⟨low, hlow, hpar⟩ : ∃ low : Int, ((pairLow n : Nat) : Int) = low ∧ ((n % 2 = 1 ∧ low = (n : Int) - 1) ∨ (n % 2 = 0 ∧ low = (n : Int))) := by
            refine ⟨_, rfl, ?_⟩
            unfold pairLow
            split
            · exact .inl ⟨by omega, by omega⟩
            · exact .inr ⟨by omega, rfl⟩
          have HOT := Lib.hid (HOT0.out low hlow)
          clear HOT0 hlow
          rcases hpar with ⟨hod, rfl⟩ | ⟨hod, rfl⟩
          all_goals
            first
              | have hm : (n : Int) % 2 = 1 := by omega
              | have hm : ((n : Int) % 2 == 1) = false := by simp; omega
            obtain ⟨d0, d1, d2, d3, d4, d5, d6, d7⟩ := S6.out.2.1.eight
            have hno : (!X.off) = false := by rw [HXO.out]; rfl
            clear hod
            go_wp2_with fail
            clear d0 d1 d2 d3 d4 d5 d6 d7 hm hno
            obtain ⟨x, hx⟩ : ∃ x, x = w6.heap.size := ⟨_, rfl⟩
            rw [← hx] at S6 HVA HON HRX HRY HOT ⊢
            clear hx
            refine (HVA.out _ S6.out).mono ?_
            rintro e w7 ⟨rfl, b7⟩
            have S7 := Lib.hid (S6.out.below b7)
            clear S6 b7 HVA
            obtain ⟨d0, d1, d2, d3, d4, d5, d6, d7⟩ := S7.out.2.1.eight
            obtain ⟨e0, e1, e2, e3, e4, e5, e6, e7⟩ := S7.out.1.eight
            go_wp2_with fail
            clear d0 d1 d2 d3 d4 d5 d6 d7 e0 e1 e2 e3 e4 e5 e6 e7
            refine (HOT.out _ S7.out).mono ?_
            rintro e w8 ⟨rfl, b8⟩
            have S8 := Lib.hid (S7.out.below b8)
            clear S7 b8 HOT hwn
            obtain ⟨d0, d1, d2, d3, d4, d5, d6, d7⟩ := S8.out.2.1.eight
            go_wp2_with fail
            clear d0 d1 d2 d3 d4 d5 d6 d7
            refine (HON.out _ S8.out).mono ?_
            rintro e w9 ⟨yv, rfl, ⟨uy, rfl, hby⟩, b9⟩
            obtain ⟨Ay, ny, cy, rfl⟩ := hby.slice
            unfold flc
            have s9 := (S8.out.below b9).alloc (.cells #[.int .i64 Y.d, .int .i64 Y.b, .int .i64 Y.p, .slice Ay ny cy, .int .i64 Y.fu, .int .i64 Y.ke, .bool Y.off, .int .i64 Y.op] 28)
            have S9 := Lib.hid s9
            have T9 := Lib.hid (show FoSt X Y Ax nx cx Ay ny cy x w9.heap.size w (w9.alloc (.cells #[.int .i64 Y.d, .int .i64 Y.b, .int .i64 Y.p, .slice Ay ny cy, .int .i64 Y.fu, .int .i64 Y.ke, .bool Y.off, .int .i64 Y.op] 28)) from ⟨s9.2.1, Rw.new _ _ _, s9.2.2.2.1, ⟨_, rfl, (hby.reads.same (sm ((Below.refl w9.heap.size _).alloc (Nat.le_refl _) _) _ (Nat.le_refl _))).wide (Nat.zero_le _) (by simp)⟩, s9.2.2.2.2⟩)
            clear S8 b9 hby HON s9
            obtain ⟨d0, d1, d2, d3, d4, d5, d6, d7⟩ := T9.out.2.1.eight
            go_wp2_with fail
            clear d0 d1 d2 d3 d4 d5 d6 d7
            obtain ⟨y, hy⟩ : ∃ y, y = w9.heap.size := ⟨_, rfl⟩
            rw [← hy] at T9 ⊢
            clear hy
            refine (HRY.out _ _ _ _ _ T9.out).mono ?_
            rintro e w10 ⟨rfl, b10⟩
            have S10 := Lib.hid (S9.out.below b10)
            have T10 := Lib.hid (T9.out.below b10)
            clear S9 T9 b10 HRY
            have HTw := Lib.hid (HT.out.below S10.out.2.2.2.2 (Nat.le_refl _))
            rcases HP.out with ⟨hk91, rfl⟩ | ⟨hk90, hsh⟩
            case inl =>
              have HGE := Lib.hid (HGK.out.trans hk91)
              have HO := Lib.hid (HOP.out w10 HTw.out)
              clear hk91 HOP HOS HTw HP
              go_wp2_with fail
              refine HO.out.mono ?_
              rintro e w11 ⟨rfl, b11⟩
              have S11 := Lib.hid (S10.out.below b11)
              have T11 := Lib.hid (T10.out.below b11)
              clear S10 T10 b11 HO
              obtain ⟨d0, d1, d2, d3, d4, d5, d6, d7⟩ := S11.out.2.1.eight
              go_wp2_with fail
              clear d0 d1 d2 d3 d4 d5 d6 d7
              refine (HRX.out _ S11.out).mono ?_
              rintro e w12 ⟨rfl, b12⟩
              have S12 := Lib.hid (S11.out.below b12)
              have T12 := Lib.hid (T11.out.below b12)
              clear S11 T11 b12
              obtain ⟨d0, d1, d2, d3, d4, d5, d6, d7⟩ := T12.out.2.1.eight
              obtain ⟨e0, e1, e2, e3, e4, e5, e6, e7⟩ := S12.out.1.eight
              rw [HYO.out] at d6
              rw [HGE.out] at e5
              go_wp2
              go_ret
              exact ⟨rfl, S12.out.2.2.2.2⟩
            case inr =>
              have hkb : (ke == 91) = false := by simp; omega
              have HGE := Lib.hid HGK.out
              have HO := Lib.hid (HOS.out P hsh w10 HTw.out)
              clear HOP HOS HTw HP hsh
              go_wp2_with fail
              refine HO.out.mono ?_
              rintro e w11 ⟨rfl, b11⟩
              have S11 := Lib.hid (S10.out.below b11)
              have T11 := Lib.hid (T10.out.below b11)
              clear S10 T10 b11 HO
              obtain ⟨d0, d1, d2, d3, d4, d5, d6, d7⟩ := S11.out.2.1.eight
              go_wp2_with fail
              clear d0 d1 d2 d3 d4 d5 d6 d7
              refine (HRX.out _ S11.out).mono ?_
              rintro e w12 ⟨rfl, b12⟩
              have S12 := Lib.hid (S11.out.below b12)
              have T12 := Lib.hid (T11.out.below b12)
              clear S11 T11 b12
              obtain ⟨d0, d1, d2, d3, d4, d5, d6, d7⟩ := T12.out.2.1.eight
              obtain ⟨e0, e1, e2, e3, e4, e5, e6, e7⟩ := S12.out.1.eight
              rw [HYO.out] at d6
              rw [HGE.out] at e5
              go_wp2
              go_ret
              exact ⟨rfl, S12.out.2.2.2.2⟩
  · clear w0 w1
    go_enter Tryz.func3, Tryz.ntmps3
    go_wp2_with (go_at_call 4; refine (long_yes _ _ _ _ _ _ _ b0 b1 (by omega)).mono ?_; rintro e w' ⟨rfl, rfl⟩)
    go_ret
    exact ⟨rfl, Below.refl _ _⟩
end Go.Proofs.YtlmdpdidjldkpaaGreatDoor
