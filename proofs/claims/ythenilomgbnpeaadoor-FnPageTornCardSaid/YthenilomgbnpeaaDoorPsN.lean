/- Plain facts: a sealed page with a bit inverted in some of its words, and in its mark, opens. -/
import Derived.Test.YthenilomgbnpeaaDoorOp
import Derived.Test.YthenilomgbnpeaaDoorFlpN
import Derived.Test.YthenilomgbnpeaaDoorFp
import Derived.Test.YthenilomgbnpeaaDoorScrN
namespace Go.Proofs.YthenilomgbnpeaaDoor
open Go.RowKit
set_option linter.unusedVariables false

theorem scr_back (x : ByteArray) (p : Nat) : scrB (scrB x p) p = x := by
  have h := scrB_size x p
  show strOfNums (xorL (scrB x p) (strOfNums (streamL (p + 1) (scrB x p).size)) (scrB x p).size) = x
  rw [h]
  exact twice_back x _
theorem byteAt_left (a b : ByteArray) {j : Nat} (h : j < a.size) : byteAt (a ++ b) j = byteAt a j := by
  have h' : j < a.data.toList.length := by simpa using h
  unfold byteAt
  rw [ByteArray.data_append, Array.toList_append, List.getD_eq_getElem?_getD, List.getD_eq_getElem?_getD, List.getElem?_append_left h']
theorem byteAt_right (a b : ByteArray) (j : Nat) : byteAt (a ++ b) (a.size + j) = byteAt b j := by
  have h' : a.data.toList.length = a.size := by simp
  unfold byteAt
  rw [ByteArray.data_append, Array.toList_append, List.getD_eq_getElem?_getD, List.getD_eq_getElem?_getD, List.getElem?_append_right (by omega), h', Nat.add_sub_cancel_left]
theorem ext_left (a b : ByteArray) {n : Nat} (h : a.size = n) : (a ++ b).extract 0 n = a := by
  refine str_ext (by rw [ByteArray.size_extract, ByteArray.size_append]; omega) fun j hj => ?_
  rw [ByteArray.size_extract, ByteArray.size_append] at hj
  rw [byteAt_extract _ _ _ _ (by omega), Nat.zero_add, byteAt_left _ _ (by omega)]
theorem ext_right (a b : ByteArray) {n m : Nat} (h : a.size = n) (hm : n + b.size = m) : (a ++ b).extract n m = b := by
  refine str_ext (by rw [ByteArray.size_extract, ByteArray.size_append]; omega) fun j hj => ?_
  rw [ByteArray.size_extract, ByteArray.size_append] at hj
  rw [byteAt_extract _ _ _ _ (by omega), ← h, byteAt_right]
theorem seal_body {d s : ByteArray} {n : Nat} (hd : d.size = 64) (hs : s.size = 16) : bodyOf (sealB d s n) = scrB (d ++ s) n := by
  unfold bodyOf sealB
  rw [ByteArray.append_assoc]
  exact ext_left _ _ (by rw [scrB_size, ByteArray.size_append]; omega)
theorem seal_chks {d s : ByteArray} {n : Nat} (hd : d.size = 64) (hs : s.size = 16) : chksOf (sealB d s n) = chkB (scrB (d ++ s) n) := by
  unfold chksOf sealB
  have h1 : (scrB (d ++ s) n).size = 80 := by rw [scrB_size, ByteArray.size_append]; omega
  have h2 := chkB_size (scrB (d ++ s) n)
  have h3 := markS_size
  generalize scrB (d ++ s) n = x at *
  refine str_ext (by rw [ByteArray.size_extract, ByteArray.size_append, ByteArray.size_append]; omega) fun j hj => ?_
  rw [ByteArray.size_extract, ByteArray.size_append, ByteArray.size_append] at hj
  rw [byteAt_extract _ _ _ _ (by omega), ByteArray.append_assoc, ← h1, byteAt_right, byteAt_left _ _ (by omega)]
theorem seal_mark {d s : ByteArray} {n : Nat} (hd : d.size = 64) (hs : s.size = 16) : byteAt (sealB d s n) 90 = 90 := by
  unfold sealB
  have h1 : (scrB (d ++ s) n).size = 80 := by rw [scrB_size, ByteArray.size_append]; omega
  have h2 := chkB_size (scrB (d ++ s) n)
  generalize scrB (d ++ s) n = x at *
  have h3 : (x ++ chkB x).size = 90 := by rw [ByteArray.size_append]; omega
  have := byteAt_right (x ++ chkB x) markS 0
  rw [h3] at this
  rw [this]; rfl
theorem byteNums_ok (s : ByteArray) : ∀ x ∈ byteNums s, 0 ≤ x ∧ x < 256 := by
  intro x hx
  unfold byteNums at hx
  rw [List.mem_map] at hx
  obtain ⟨b, _, rfl⟩ := hx
  have := b.toNat_lt
  omega
theorem flipP_at (raw : ByteArray) (k j : Nat) (hj : j < raw.size) : byteAt (flipP raw k) j = if j = k / 8 then byteAt raw j ^^^ 2 ^ (k % 8) else byteAt raw j := by
  have hx : byteAt raw (k / 8) ^^^ 2 ^ (k % 8) < 2 ^ 8 := Nat.xor_lt_two_pow (by have := byteAt_le raw (k / 8); omega) (Nat.pow_lt_pow_right (by decide) (by omega))
  have hl : j < (flipL raw k).length := by unfold flipL; rw [List.length_set, byteNums_length]; exact hj
  have h := nums_at (flipL raw k) j hl (by
    intro x hx'
    unfold flipL at hx'
    rcases List.mem_or_eq_of_mem_set hx' with h | h
    · exact byteNums_ok raw x h
    · subst h; omega)
  have hg := byteNums_get raw j hj
  unfold flipP
  rw [List.getD_eq_getElem?_getD] at hg
  unfold flipL at h ⊢
  rw [List.getD_eq_getElem?_getD, List.getElem?_set] at h
  by_cases e : k / 8 = j
  · rw [if_pos e, if_pos (by rw [byteNums_length]; omega)] at h
    rw [if_pos e.symm]
    have := Int.ofNat_inj.1 h
    rw [this, e]
  · rw [if_neg e, hg] at h
    rw [if_neg (fun x => e x.symm)]
    exact Int.ofNat_inj.1 h
/-- The page S is R, with the bit e i of word i inverted. -/
def FlS (R : ByteArray) (E : Nat → Option Nat) (S : ByteArray) : Prop := S.size = R.size ∧ ∀ j, j < R.size → byteAt S j = byteAt R j ^^^ fb E j
theorem FlS.start (R : ByteArray) : FlS R (fun _ => none) R := ⟨rfl, fun j _ => by rw [fb_none rfl, Nat.xor_zero]⟩
theorem FlS.flip {R S : ByteArray} {E : Nat → Option Nat} (h : FlS R E S) {k p : Nat} (hk : 8 * k + p / 8 < R.size) (hp : p < 64) (he : E k = none) : FlS R (upd E k (some p)) (flipP S (64 * k + p)) := by
  refine ⟨by rw [flipP_size]; exact h.1, fun j hj => ?_⟩
  rw [flipP_at _ _ _ (by rw [h.1]; exact hj), h.2 j hj, show (64 * k + p) / 8 = 8 * k + p / 8 by omega, show (64 * k + p) % 8 = p % 8 by omega]
  by_cases e1 : j = 8 * k + p / 8
  · rw [if_pos e1, fb_none (e := E) (by rw [show j / 8 = k by omega]; exact he), Nat.xor_zero, fb_some (p := p) (by rw [show j / 8 = k by omega]; exact upd_at _ _ _), if_pos (by omega)]
  · rw [if_neg e1]
    congr 1
    by_cases e2 : j / 8 = k
    · rw [fb_none (by rw [e2]; exact he), fb_some (p := p) (by rw [e2]; exact upd_at _ _ _), if_neg (by omega)]
    · unfold fb; rw [upd_far _ _ e2]
theorem FlS.body {R S : ByteArray} {E : Nat → Option Nat} (h : FlS R E S) (hR : R.size = 91) : FlB (bodyOf R) E (byteNums (bodyOf S)) := by
  have h1 := bodyOf_size hR
  have h2 := bodyOf_size (h.1.trans hR)
  refine ⟨by rw [byteNums_length]; omega, fun j hj => ?_⟩
  rw [byteNums_get _ _ (by omega)]
  unfold bodyOf
  rw [byteAt_extract _ _ _ _ (by omega), byteAt_extract _ _ _ _ (by omega), Nat.zero_add, h.2 j (by omega)]
theorem FlS.chks {R S : ByteArray} {E : Nat → Option Nat} (h : FlS R E S) (hR : R.size = 91) (h10 : E 10 = none) (h11 : ∀ q, E 11 = some q → q / 8 = 2) : chksOf S = chksOf R := by
  have h1 := chksOf_size hR
  have h2 := chksOf_size (h.1.trans hR)
  refine str_ext (by omega) fun j hj => ?_
  unfold chksOf
  rw [byteAt_extract _ _ _ _ (by omega), byteAt_extract _ _ _ _ (by omega), h.2 _ (by omega)]
  have hf : fb E (80 + j) = 0 := by
    by_cases e : j < 8
    · exact fb_none (by rw [show (80 + j) / 8 = 10 by omega]; exact h10)
    · cases h : E 11 with
      | none => exact fb_none (by rw [show (80 + j) / 8 = 11 by omega]; exact h)
      | some q =>
        rw [fb_some (p := q) (by rw [show (80 + j) / 8 = 11 by omega]; exact h), if_neg (by have := h11 q h; omega)]
  rw [hf, Nat.xor_zero]
theorem ones_two : ∀ q : Fin 8, onesF 8 (2 ^ q.val) = 1 := by decide +kernel
theorem FlS.mark {R S : ByteArray} {E : Nat → Option Nat} (h : FlS R E S) (hR : R.size = 91) (hm : byteAt R 90 = 90) (h11 : ∀ q, E 11 = some q → q / 8 = 2) : mkErr S = if (E 11).isSome then 1 else 0 := by
  unfold mkErr
  rw [h.2 90 (by omega), hm, Nat.xor_comm 90, Nat.xor_assoc, Nat.xor_self, Nat.xor_zero]
  cases e : E 11 with
  | none => rw [fb_none (by exact e)]; rfl
  | some q =>
    rw [fb_some (p := q) (by exact e), if_pos (h11 q e)]
    exact ones_two ⟨q % 8, by omega⟩
theorem nums_str (s : ByteArray) : strOfNums (byteNums s) = s := str_nums s
theorem seal_opens {d s S : ByteArray} {n : Nat} {E : Nat → Option Nat} (hd : d.size = 64) (hs : s.size = 16) (hn : n ≤ 65534) (h : FlS (sealB d s n) E S)
    (hE : ∀ i p, E i = some p → p < 64) (h10 : E 10 = none) (h11 : ∀ q, E 11 = some q → q / 8 = 2) : OpenEnds S (n : Int) d s (cntE E 12 : Nat) 0 := by
  have hR := sealB_size (p := n) hd hs
  have hb := h.body hR
  have hbs := bodyOf_size hR
  have hc := h.chks hR h10 h11
  have hm := h.mark hR (seal_mark hd hs) h11
  have hdec := fun i (hi : i < 10) => hb.dec (m := 10) hbs hE hi
  rw [nums_str] at hdec
  rw [seal_chks hd hs] at hc
  rw [seal_body hd hs] at hdec hbs
  change chksOf S = strOfNums (chkL (scrB (d ++ s) n) 10) at hc
  rw [← hc] at hdec
  have hout := out_back (S := bodyOf S) (t := chksOf S) hbs fun i hi => (hdec i hi).2.1
  have htot := tot_cnt (e := E) (S := bodyOf S) (t := chksOf S) 10 fun i hi => (hdec i hi).2.2
  have hds : scrB (scrB (d ++ s) n) n = d ++ s := scr_back _ _
  have hle := totL_le (bodyOf S) (chksOf S) 10
  have hk : cntE E 12 = totL (bodyOf S) (chksOf S) 10 + mkErr S := by rw [htot, hm, cntE, cntE, h10]; rfl
  have key := OpenEnds.done (raw := S) (p := (n : Int)) (h.1.trans hR) n rfl hn (by rw [hm]; split <;> omega) 10 (Nat.le_refl _) (fun k hk => (hdec k hk).1) (scrB (d ++ s) n) (totL (bodyOf S) (chksOf S) 10) (by omega) hbs (.inl ⟨rfl, hout.symm, rfl, rfl⟩)
  rw [hds, ext_left _ _ hd, ext_right _ _ hd (by omega)] at key
  rw [hk, Int.natCast_add]
  exact key
theorem cntE_upd {E : Nat → Option Nat} {k p : Nat} (he : E k = none) : ∀ n, k < n → cntE (upd E k (some p)) n = cntE E n + 1
  | 0, h => by omega
  | n + 1, h => by
    rw [cntE, cntE]
    by_cases e : k = n
    · subst e
      rw [upd_at, he, cntE_congr (f := E) k fun i hi => upd_far E _ (by omega)]; rfl
    · rw [cntE_upd he n (by omega), upd_far E _ (fun x => e x.symm)]; omega
end Go.Proofs.YthenilomgbnpeaaDoor
