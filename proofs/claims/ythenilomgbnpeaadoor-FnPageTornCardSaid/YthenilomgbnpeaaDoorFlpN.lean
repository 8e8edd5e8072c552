/- Plain facts: data of several words, in each at most one bit inverted. -/
import Derived.Test.YthenilomgbnpeaaDoorWdN
import Derived.Test.YthenilomgbnpeaaDoorDecN
import Derived.Test.YthenilomgbnpeaaDoorDiff
namespace Go.Proofs.YthenilomgbnpeaaDoor
open Go.RowKit

/-- What byte j is changed by, if e i is the bit inverted in word i. -/
def fb (e : Nat → Option Nat) (j : Nat) : Nat := match e (j / 8) with
  | some p => if p / 8 = j % 8 then 2 ^ (p % 8) else 0
  | none => 0
theorem fb_none {e : Nat → Option Nat} {j : Nat} (h : e (j / 8) = none) : fb e j = 0 := by unfold fb; rw [h]
theorem fb_some {e : Nat → Option Nat} {j p : Nat} (h : e (j / 8) = some p) : fb e j = if p / 8 = j % 8 then 2 ^ (p % 8) else 0 := by unfold fb; rw [h]
theorem fb_lt (e : Nat → Option Nat) (j : Nat) : fb e j < 256 := by
  cases h : e (j / 8) with
  | none => rw [fb_none h]; omega
  | some p =>
    rw [fb_some h]
    split
    · exact Nat.pow_lt_pow_right (a := 2) (m := p % 8) (n := 8) (by decide) (by omega)
    · omega
def upd (e : Nat → Option Nat) (k : Nat) (v : Option Nat) : Nat → Option Nat := fun i => if i = k then v else e i
theorem upd_at (e : Nat → Option Nat) (k : Nat) (v : Option Nat) : upd e k v k = v := by unfold upd; rw [if_pos rfl]
theorem upd_far (e : Nat → Option Nat) {k i : Nat} (v : Option Nat) (h : i ≠ k) : upd e k v i = e i := by unfold upd; rw [if_neg h]
def cntE (e : Nat → Option Nat) : Nat → Nat
  | 0 => 0
  | k + 1 => cntE e k + (if (e k).isSome then 1 else 0)
theorem cntE_congr {e f : Nat → Option Nat} : ∀ k, (∀ i, i < k → e i = f i) → cntE e k = cntE f k
  | 0, _ => rfl
  | k + 1, h => by rw [cntE, cntE, cntE_congr k (fun i hi => h i (by omega)), h k (by omega)]
/-- The bytes l are those of D, changed by e. -/
def FlB (D : ByteArray) (e : Nat → Option Nat) (l : List Int) : Prop := l.length = D.size ∧ ∀ j, j < D.size → l.getD j 0 = ((byteAt D j ^^^ fb e j : Nat) : Int)
theorem FlB.start (D : ByteArray) (l : List Int) (hl : l.length = D.size) (h : ∀ j, j < D.size → l.getD j 0 = (byteAt D j : Int)) : FlB D (fun _ => none) l :=
  ⟨hl, fun j hj => by rw [fb_none rfl, Nat.xor_zero]; exact h j hj⟩
theorem FlB.old {D : ByteArray} {e : Nat → Option Nat} {l : List Int} (h : FlB D e l) {j : Nat} (hj : j < D.size) (he : e (j / 8) = none) : l.getD j 0 = (byteAt D j : Int) := by
  rw [h.2 j hj, fb_none he, Nat.xor_zero]
theorem FlB.flip {D : ByteArray} {e : Nat → Option Nat} {l : List Int} (h : FlB D e l) {k p : Nat} (_hk : 8 * k + 8 ≤ D.size) (hp : p < 64) (he : e k = none) :
    FlB D (upd e k (some p)) (l.set (8 * k + p / 8) ((byteAt D (8 * k + p / 8) ^^^ 2 ^ (p % 8) : Nat) : Int)) := by
  refine ⟨by rw [List.length_set]; exact h.1, fun j hj => ?_⟩
  rw [List.getD_eq_getElem?_getD, List.getElem?_set]
  by_cases e1 : 8 * k + p / 8 = j
  · rw [if_pos e1, if_pos (by rw [h.1]; omega), fb_some (p := p) (by rw [show j / 8 = k by omega]; exact upd_at _ _ _), if_pos (by omega), e1]; rfl
  · rw [if_neg e1, ← List.getD_eq_getElem?_getD, h.2 j hj]
    congr 2
    by_cases e2 : j / 8 = k
    · rw [fb_none (by rw [e2]; exact he), fb_some (p := p) (by rw [e2]; exact upd_at _ _ _), if_neg (by omega)]
    · unfold fb; rw [upd_far _ _ e2]
section
variable {D : ByteArray} {e : Nat → Option Nat} {l : List Int} {m : Nat}
theorem FlB.ok (h : FlB D e l) : ∀ x ∈ l, 0 ≤ x ∧ x < 256 := by
  intro x hx
  obtain ⟨i, hi, rfl⟩ := List.getElem_of_mem hx
  have := h.2 i (by rw [← h.1]; exact hi)
  rw [List.getD_eq_getElem?_getD, List.getElem?_eq_getElem hi] at this
  have h1 := byteAt_le D i
  have h2 := fb_lt e i
  have : byteAt D i ^^^ fb e i < 2 ^ 8 := Nat.xor_lt_two_pow (by omega) (by omega)
  simp at *
  omega
theorem FlB.byte (h : FlB D e l) {j : Nat} (hj : j < D.size) : byteAt (strOfNums l) j = byteAt D j ^^^ fb e j := by
  have := nums_at l j (by rw [h.1]; exact hj) h.ok
  rw [h.2 j hj] at this
  exact Int.ofNat_inj.1 this
theorem FlB.size (h : FlB D e l) : (strOfNums l).size = D.size := by rw [strOfNums_size, h.1]
theorem FlB.word_none (h : FlB D e l) {i : Nat} (hi : 8 * i + 8 ≤ D.size) (he : e i = none) : wdN (strOfNums l) i = wdN D i := by
  refine bytes_ext (wdN_lt _ _) (wdN_lt _ _) fun j hj => ?_
  unfold wdN
  rw [wordN_at _ hj, wordN_at _ hj, wd_at _ _ hj, wd_at _ _ hj, h.byte (by omega), fb_none (by rw [show (8 * i + j) / 8 = i by omega]; exact he), Nat.xor_zero]
theorem FlB.word_some (h : FlB D e l) {i p : Nat} (hi : 8 * i + 8 ≤ D.size) (he : e i = some p) (hp : p < 64) : wdN (strOfNums l) i = wdN D i ^^^ 2 ^ p := by
  refine bytes_ext (wdN_lt _ _) (Nat.xor_lt_two_pow (wdN_lt _ _) (Nat.pow_lt_pow_right (by decide) hp)) fun j hj => ?_
  rw [xor_byte, two_byte]
  unfold wdN
  rw [wordN_at _ hj, wordN_at _ hj, wd_at _ _ hj, wd_at _ _ hj, h.byte (by omega), fb_some (p := p) (by rw [show (8 * i + j) / 8 = i by omega]; exact he), show (8 * i + j) % 8 = j by omega]
  by_cases e1 : p / 8 = j
  · rw [if_pos e1, if_pos e1.symm]
  · rw [if_neg e1, if_neg (fun x => e1 x.symm)]
theorem chk_byte {n i : Nat} (hi : i < n) : byteAt (strOfNums (chkL D n)) i = chkN (wdN D i) := by
  have := nums_at (chkL D n) i (by rw [chkL_length]; exact hi) (chkL_ok D n)
  rw [chkL_at D n i hi] at this
  exact Int.ofNat_inj.1 this
theorem FlB.dec (h : FlB D e l) (hD : D.size = 8 * m) (hp : ∀ i p, e i = some p → p < 64) {i : Nat} (hi : i < m) :
    okX (cwX (strOfNums l) (strOfNums (chkL D m)) i) ∧ valX (cwX (strOfNums l) (strOfNums (chkL D m)) i) = wdN D i ∧ cntX (cwX (strOfNums l) (strOfNums (chkL D m)) i) = if (e i).isSome then 1 else 0 := by
  have hg := chk_good (wdN_lt D i)
  have hc := chkN_lt (wdN D i)
  obtain ⟨X, hX⟩ : ∃ X, X = wdN D i + 2 ^ 64 * chkN (wdN D i) := ⟨_, rfl⟩
  have hlo : lo X = wdN D i := by rw [hX]; exact lo_of _ (wdN_lt D i)
  cases he : e i with
  | none =>
    have hx : cwX (strOfNums l) (strOfNums (chkL D m)) i = X := by
      unfold cwX
      rw [h.word_none (by omega) he, chk_byte hi, hX]
    rw [← hX] at hg
    rw [hx]
    refine ⟨.inl hg, ?_, ?_⟩
    · unfold valX; rw [if_pos hg, hlo]
    · unfold cntX; rw [if_pos hg]; rfl
  | some p =>
    have hp64 := hp i p he
    have hx : cwX (strOfNums l) (strOfNums (chkL D m)) i = X ^^^ 2 ^ p := by
      unfold cwX
      rw [h.word_some (by omega) he hp64, chk_byte hi, hX]
      exact (flip_low (wdN_lt D i) hp64).1
    rw [← hX] at hg
    obtain ⟨f1, f2⟩ := good_one hg (show p < 72 by omega)
    have hng := not_good f2
    have hfix : fixN (X ^^^ 2 ^ p) = X := by
      unfold fixN
      rw [f1]
      have hbb : bitAt (posN p) = p := posN_inj (bitAt_lt (posN_le p)) (by omega) (posN_bitAt (posN_le p))
      rw [hbb, Nat.xor_assoc, Nat.xor_self, Nat.xor_zero]
    rw [hx]
    refine ⟨.inr ⟨f2, by rw [f1]; exact posN_le p⟩, ?_, ?_⟩
    · unfold valX; rw [if_neg (by rw [hng]; simp), hfix, hlo]
    · unfold cntX; rw [if_neg (by rw [hng]; simp)]; rfl
theorem outL_at {S t : ByteArray} : ∀ n, (∀ i, i < n → valX (cwX S t i) = wdN D i) → ∀ j, j < 8 * n → (outL S t n).getD j 0 = (byteAt D j : Int)
  | 0, _, j, h => by omega
  | n + 1, hv, j, h => by
    have hl := outL_length S t n
    rw [outL, List.getD_eq_getElem?_getD]
    by_cases hj : j < 8 * n
    · rw [List.getElem?_append_left (by omega), ← List.getD_eq_getElem?_getD]
      exact outL_at n (fun i hi => hv i (by omega)) j hj
    · rw [List.getElem?_append_right (by omega), hl, hv n (by omega), ← List.getD_eq_getElem?_getD, wL_at _ (by omega)]
      unfold wdN
      rw [wordN_at _ (by omega), wd_at _ _ (by omega)]
      congr 2; omega
theorem out_back {S t : ByteArray} (hD : D.size = 8 * m) (hv : ∀ i, i < m → valX (cwX S t i) = wdN D i) : strOfNums (outL S t m) = D := by
  have hat := outL_at m hv
  have hok : ∀ x ∈ outL S t m, 0 ≤ x ∧ x < 256 := by
    intro x hx
    obtain ⟨i, hi, rfl⟩ := List.getElem_of_mem hx
    have := hat i (by rw [← outL_length S t m]; exact hi)
    rw [List.getD_eq_getElem?_getD, List.getElem?_eq_getElem hi] at this
    have h1 := byteAt_le D i
    simp at *
    omega
  refine str_ext (by rw [strOfNums_size, outL_length, hD]) fun j hj => ?_
  rw [strOfNums_size, outL_length] at hj
  have := nums_at (outL S t m) j (by rw [outL_length]; exact hj) hok
  rw [hat j hj] at this
  exact Int.ofNat_inj.1 this
theorem tot_cnt {S t : ByteArray} : ∀ n, (∀ i, i < n → cntX (cwX S t i) = if (e i).isSome then 1 else 0) → totL S t n = cntE e n
  | 0, _ => rfl
  | n + 1, h => by rw [totL, cntE, tot_cnt n (fun i hi => h i (by omega)), h n (by omega)]
theorem pow_bit (a b : Nat) : 2 ^ a / 2 ^ b % 2 = if a = b then 1 else 0 := by
  by_cases h : a = b
  · subst h; rw [if_pos rfl, Nat.div_self (Nat.pow_pos (by decide))]
  · rw [if_neg h]
    rcases Nat.lt_or_gt_of_ne h with h1 | h1
    · rw [Nat.div_eq_of_lt (Nat.pow_lt_pow_right (by decide) h1)]
    · rw [Nat.pow_div (by omega) (by decide), show a - b = (a - b - 1) + 1 by omega, Nat.pow_succ]; omega
theorem FlB.dif (h : FlB D e l) {b : Nat} (hb : b / 8 < D.size) (hp : ∀ i p, e i = some p → p < 64) : difB D (strOfNums l) b = true ↔ e (b / 64) = some (b % 64) := by
  unfold difB
  rw [h.byte hb, ← Nat.xor_assoc, Nat.xor_self, Nat.zero_xor]
  have h64 : b / 8 / 8 = b / 64 := by omega
  cases he : e (b / 64) with
  | none => rw [fb_none (by rw [h64]; exact he)]; simp
  | some p =>
    have := hp _ _ he
    rw [fb_some (p := p) (by rw [h64]; exact he)]
    by_cases e1 : p / 8 = b / 8 % 8
    · rw [if_pos e1, pow_bit]
      by_cases e2 : p % 8 = b % 8
      · rw [if_pos e2]; simp; omega
      · rw [if_neg e2]; simp; omega
    · rw [if_neg e1]; simp; omega
theorem FlB.dif_in (h : FlB D e l) (hD : D.size = 8 * m) (hp : ∀ i p, e i = some p → p < 64) {k c : Nat} (hk : k < m) (hc : (difL D (strOfNums l) (64 * k)).length = c) :
    ∀ r, r ≤ 64 → (difL D (strOfNums l) (64 * k + r)).length = c + (match e k with | some p => if p < r then 1 else 0 | none => 0)
  | 0, _ => by
    rw [Nat.add_zero, hc]
    cases e k with
    | none => rfl
    | some p => simp
  | r + 1, hr => by
    have ih := FlB.dif_in h hD hp hk hc r (by omega)
    have hd := h.dif (b := 64 * k + r) (by omega) hp
    rw [show (64 * k + r) / 64 = k by omega, show (64 * k + r) % 64 = r by omega] at hd
    rw [← Nat.add_assoc, difL]
    by_cases hb : difB D (strOfNums l) (64 * k + r) = true
    · rw [if_pos hb, List.length_append, ih, hd.1 hb]
      simp
    · rw [if_neg hb, ih]
      cases he : e k with
      | none => rfl
      | some p =>
        have : p ≠ r := fun x => hb (hd.2 (by rw [he, x]))
        simp only []
        by_cases h1 : p < r
        · rw [if_pos h1, if_pos (by omega)]
        · rw [if_neg h1, if_neg (by omega)]
theorem FlB.dif_all (h : FlB D e l) (hD : D.size = 8 * m) (hp : ∀ i p, e i = some p → p < 64) : ∀ k, k ≤ m → (difL D (strOfNums l) (64 * k)).length = cntE e k
  | 0, _ => rfl
  | k + 1, hk => by
    have := h.dif_in hD hp (show k < m by omega) (FlB.dif_all h hD hp k (by omega)) 64 (Nat.le_refl _)
    rw [show 64 * (k + 1) = 64 * k + 64 by omega, this, cntE]
    cases he : e k with
    | none => rfl
    | some p => simp [hp k p he]
end
end Go.Proofs.YthenilomgbnpeaaDoor
