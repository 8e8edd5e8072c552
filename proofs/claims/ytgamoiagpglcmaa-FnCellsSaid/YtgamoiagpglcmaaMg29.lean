/- The proof's own lemmas, part 30: FcN. -/
import Derived.Test.YtgamoiagpglcmaaProg
import Derived.Test.YtgamoiagpglcmaaMg24
import Derived.Test.YtgamoiagpglcmaaMg27
import Derived.Test.YtgamoiagpglcmaaMg28
/- Plain facts of the law FnCells. -/
namespace Go.Proofs.Ytgamoiagpglcmaa
open Go.RowKit
set_option linter.unusedVariables false
/-- A text of zeros and ones. -/
def Bit2 (L : List Int) : Prop := ∀ i, i < L.length → L.getD i 0 = 48 ∨ L.getD i 0 = 49
theorem bit2_app {L : List Int} (h : Bit2 L) {x : Int} (hx : x = 48 ∨ x = 49) : Bit2 (L ++ [x]) := by
  intro i hi
  rcases Nat.lt_or_ge i L.length with e | e
  · have := h i e
    rw [List.getD_eq_getElem?_getD, List.getElem?_append_left e, ← List.getD_eq_getElem?_getD]; exact this
  · have : i = L.length := by simp at hi; omega
    subst this
    rw [List.getD_eq_getElem?_getD]; simp; exact hx
theorem bit2_small {L : List Int} (h : Bit2 L) : ∀ x ∈ L, 0 ≤ x ∧ x < 256 := by
  intro x hx
  obtain ⟨i, hi, rfl⟩ := List.mem_iff_getElem.1 hx
  have := h i hi
  rw [List.getD_eq_getElem?_getD, List.getElem?_eq_getElem hi] at this
  simp at this; omega
theorem sz_nums (L : List Int) : (strOfNums L).size = L.length := by unfold strOfNums; simp [ByteArray.size]
theorem byteAt_appC (l : List Int) (r : ByteArray) (k : Nat) (hk : k < l.length) (hb : ∀ x ∈ l, 0 ≤ x ∧ x < 256) : (byteAt (strOfNums l ++ r) k : Int) = l.getD k 0 := by
  have h1 := hb _ (List.getElem_mem hk)
  unfold byteAt
  rw [ByteArray.data_append, Array.toList_append, strOfNums_data, List.getD_eq_getElem?_getD, List.getElem?_append_left (by simpa using hk), List.getElem?_map, List.getD_eq_getElem?_getD, List.getElem?_eq_getElem hk]
  simp only [Option.map_some, Option.getD_some]
  rw [UInt8.toNat_ofNat']
  omega

def Reads (t : ByteArray) (i x : Nat) : Prop := ∀ j, j < (uv x).length → (byteAt t (i + j) : Int) = (uv x).getD j 0
theorem nums_atC (l : List Int) (k : Nat) (hk : k < l.length) (hb : ∀ x ∈ l, 0 ≤ x ∧ x < 256) : (byteAt (strOfNums l) k : Int) = l.getD k 0 := by
  have := byteAt_appC l ByteArray.empty k hk hb
  rwa [ByteArray.append_empty] at this
/-- The eight bytes of a number. -/
def wL (x : Nat) : List Int := (List.range 8).map fun j => ((x / 256 ^ j % 256 : Nat) : Int)
theorem at_nums {L : List Int} (h : Bit2 L) (k : Nat) (hk : k < L.length) : (byteAt (strOfNums L) k : Int) = L.getD k 0 := by
  exact nums_atC L k hk (bit2_small h)
theorem bits_nums {L : List Int} (h : Bit2 L) : BitsOk (strOfNums L) := by
  intro k hk
  rw [sz_nums] at hk
  have a := at_nums h k hk
  have b := h k hk
  unfold BitAt
  omega
def zeroC (n : Nat) : Ce := ⟨List.replicate n 0⟩
theorem zero_ok {n : Nat} (h : n ≤ 64) : CeOk (zeroC n) := by
  refine ⟨by simpa [zeroC] using h, fun i hi => ?_⟩
  have hi' : i < n := by simpa [zeroC] using hi
  unfold ChOk zeroC
  simp [List.getD_eq_getElem?_getD, hi']
theorem prgZ_at {L : List Int} (h : Bit2 L) (i : Nat) (hi : i < L.length) : (prgC (zeroC L.length) (strOfNums L)).c.getD i 0 = if L.getD i 0 = 48 then 255 else 0 := by
  unfold prgC
  have hi' : i < (zeroC L.length).c.length := by simpa [zeroC] using hi
  rw [mapI_at _ _ _ hi']
  have a := at_nums h i hi
  have e : (zeroC L.length).c.getD i 0 = 0 := by simp [zeroC, List.getD_eq_getElem?_getD, hi]
  rw [e]
  by_cases g : L.getD i 0 = 48
  · rw [if_pos g, if_pos (by omega)]
  · rw [if_neg g, if_neg (by omega)]
theorem prgZ_len (L : List Int) : (prgC (zeroC L.length) (strOfNums L)).c.length = L.length := by unfold prgC; simp [mapI_length, zeroC]
theorem prgZ_ok {L : List Int} (h : Bit2 L) (hl : L.length ≤ 64) : CeOk (prgC (zeroC L.length) (strOfNums L)) := by
  refine ⟨by rw [prgZ_len]; exact hl, fun i hi => ?_⟩
  rw [prgZ_len] at hi
  unfold ChOk
  rw [prgZ_at h i hi]
  split <;> omega
theorem prgZ_sense {L : List Int} (h : Bit2 L) : senS (prgC (zeroC L.length) (strOfNums L)) true = strOfNums L := by
  show strOfNums (senL _) = _
  congr 1
  refine List.ext_getElem (by rw [senL_length, prgZ_len]) fun i h1 h2 => ?_
  have e1 := senL_at (prgC (zeroC L.length) (strOfNums L)).c i (by rw [prgZ_len]; exact h2)
  rw [prgZ_at h i h2] at e1
  have b := h i h2
  rw [List.getD_eq_getElem?_getD, List.getElem?_eq_getElem h1] at e1
  rw [List.getD_eq_getElem?_getD, List.getElem?_eq_getElem h2] at e1 b
  simp only [Option.getD_some] at e1 b
  rw [e1]
  rcases b with b | b <;> rw [b] <;> decide
theorem prgZ_leaks {L : List Int} (h : Bit2 L) (h0 : L.getD 0 0 = 48) (h1 : L.getD 1 0 = 49) (hl : 2 ≤ L.length) : Leaks (eraE (prgC (zeroC L.length) (strOfNums L)) true) := by
  have e : (eraE (prgC (zeroC L.length) (strOfNums L)) true).c = (prgC (zeroC L.length) (strOfNums L)).c.map (· / 4) := rfl
  have g : ∀ i, i < L.length → (eraE (prgC (zeroC L.length) (strOfNums L)) true).c.getD i 0 = (if L.getD i 0 = 48 then 255 else 0) / 4 := by
    intro i hi
    rw [e, ← prgZ_at h i hi, List.getD_eq_getElem?_getD, List.getD_eq_getElem?_getD, List.getElem?_map]
    have : i < (prgC (zeroC L.length) (strOfNums L)).c.length := by rw [prgZ_len]; exact hi
    rw [List.getElem?_eq_getElem this]; rfl
  refine ⟨1, by rw [e, List.length_map, prgZ_len]; omega, ?_⟩
  rw [g 1 (by omega), g 0 (by omega), h0, h1]
  decide
theorem eraE_ok {M : Ce} (h : CeOk M) : CeOk (eraE M true) := by
  have e : (eraE M true).c = M.c.map (· / 4) := rfl
  refine ⟨by rw [e, List.length_map]; exact h.1, fun i hi => ?_⟩
  rw [e, List.length_map] at hi
  have a := h.2 i hi
  unfold ChOk at *
  have : (eraE M true).c.getD i 0 = M.c.getD i 0 / 4 := by
    rw [e, List.getD_eq_getElem?_getD, List.getD_eq_getElem?_getD, List.getElem?_map, List.getElem?_eq_getElem hi]; rfl
  rw [this]; omega
theorem wip_at (M : Ce) (i : Nat) (h : i < M.c.length) : (wipE M true).c.getD i 0 = 63 := by
  show (List.replicate M.c.length (63 : Int)).getD i 0 = 63
  simp [List.getD_eq_getElem?_getD, h]
theorem wip_len (M : Ce) : (wipE M true).c.length = M.c.length := by show (List.replicate M.c.length (63 : Int)).length = _; simp
theorem wip_calm (M : Ce) : ¬ Leaks (wipE M true) := by
  rintro ⟨i, hi, hne⟩
  rw [wip_len] at hi
  exact hne (by rw [wip_at M i hi, wip_at M 0 (by omega)])
theorem wip_ok {M : Ce} (h : CeOk M) : CeOk (wipE M true) := by
  refine ⟨by rw [wip_len]; exact h.1, fun i hi => ?_⟩
  rw [wip_len] at hi
  unfold ChOk
  rw [wip_at M i hi]; omega
theorem wip_size (M : Ce) : (senS (wipE M true) true).size = M.c.length := by
  show (strOfNums (senL _)).size = _
  rw [sz_nums, senL_length, wip_len]
theorem wip_ones (M : Ce) : Bit2 (senL (wipE M true).c) ∧ ∀ i, i < M.c.length → byteAt (senS (wipE M true) true) i = 49 := by
  have a : ∀ i, i < M.c.length → (senL (wipE M true).c).getD i 0 = 49 := by
    intro i hi
    rw [senL_at _ _ (by rw [wip_len]; exact hi), wip_at M i hi]; rfl
  have b : Bit2 (senL (wipE M true).c) := by
    intro i hi
    rw [senL_length, wip_len] at hi
    exact .inr (a i hi)
  refine ⟨b, fun i hi => ?_⟩
  have c := at_nums b i (by rw [senL_length, wip_len]; exact hi)
  rw [a i hi] at c
  show byteAt (strOfNums _) i = 49
  omega
end Go.Proofs.Ytgamoiagpglcmaa
