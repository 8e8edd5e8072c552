/- Plain facts on encoded metadata: the fields come back, and which texts are encodings. -/
import Derived.Test.YtfnccbanmgfkeabDoorProg
import Derived.Test.YtfnccbanmgfkeabDoorMx
import Derived.Test.YtfnccbanmgfkeabDoorFixN
namespace Go.Proofs.YtfnccbanmgfkeabDoor
open Go.RowKit
set_option linter.unusedVariables false
set_option linter.unusedSimpArgs false
theorem mf_ext {s t : ByteArray} (hs : s.size = t.size) (h : ∀ j, j < s.size → byteAt s j = byteAt t j) : s = t := by
  apply ByteArray.ext
  apply Array.toList_inj.1
  apply List.ext_getElem
  · simpa using hs
  · intro k h1 h2
    have h1' : k < s.size := by simpa using h1
    have := h k h1'
    unfold byteAt at this
    rw [List.getD_eq_getElem?_getD, List.getD_eq_getElem?_getD, List.getElem?_eq_getElem h1, List.getElem?_eq_getElem h2] at this
    exact UInt8.toNat_inj.1 this
theorem mf_extract (s : ByteArray) (a b j : Nat) (h : a + j < b) : byteAt (s.extract a b) j = byteAt s (a + j) := by
  unfold byteAt
  rw [ByteArray.data_extract, Array.toList_extract, List.extract_eq_take_drop, List.getD_eq_getElem?_getD, List.getD_eq_getElem?_getD, List.getElem?_take, if_pos (by omega), List.getElem?_drop]
theorem mf_left (a b : ByteArray) {j : Nat} (h : j < a.size) : byteAt (a ++ b) j = byteAt a j := by
  have h' : j < a.data.toList.length := by simpa using h
  unfold byteAt
  rw [ByteArray.data_append, Array.toList_append, List.getD_eq_getElem?_getD, List.getD_eq_getElem?_getD, List.getElem?_append_left h']
theorem mf_right (a b : ByteArray) (j : Nat) : byteAt (a ++ b) (a.size + j) = byteAt b j := by
  have h' : a.data.toList.length = a.size := by simp
  unfold byteAt
  rw [ByteArray.data_append, Array.toList_append, List.getD_eq_getElem?_getD, List.getD_eq_getElem?_getD, List.getElem?_append_right (by omega), h', Nat.add_sub_cancel_left]
theorem mf_in (a b : ByteArray) {i j : Nat} (h : j ≤ a.size) : (a ++ b).extract i j = a.extract i j := by
  refine mf_ext (by rw [ByteArray.size_extract, ByteArray.size_extract, ByteArray.size_append]; omega) fun k hk => ?_
  rw [ByteArray.size_extract, ByteArray.size_append] at hk
  rw [mf_extract _ _ _ _ (by omega), mf_extract _ _ _ _ (by omega), mf_left _ _ (by omega)]
theorem mf_end (a b : ByteArray) {n m : Nat} (h : a.size = n) (hm : n + b.size = m) : (a ++ b).extract n m = b := by
  refine mf_ext (by rw [ByteArray.size_extract, ByteArray.size_append]; omega) fun j hj => ?_
  rw [ByteArray.size_extract, ByteArray.size_append] at hj
  rw [mf_extract _ _ _ _ (by omega), ← h, mf_right]
theorem mf_all (a : ByteArray) {n : Nat} (h : a.size = n) : a.extract 0 n = a := by rw [← h]; simp
theorem mf_past (s : ByteArray) (k : Nat) (h : s.size ≤ k) : byteAt s k = 0 := by
  unfold byteAt
  rw [List.getD_eq_getElem?_getD, List.getElem?_eq_none (by simpa using h)]
  rfl
theorem pow_mono256 {n k : Nat} (h : n ≤ k) : (256 : Nat) ^ n ≤ 256 ^ k := Nat.pow_le_pow_right (by decide) h
/-- A number below 256 ^ n comes back from its n bytes. -/
theorem fix_backN (U n : Nat) (hn : n ≤ 8) (hU : U < 256 ^ n) (h63 : U < 2 ^ 63) : fixF (strOfNums (encF (U : Int) n)) n = U := by
  have e0 : ((U : Int) % 18446744073709551616).toNat = U := by omega
  have hb : ∀ k, k < 8 → byteAt (strOfNums (encF (U : Int) n)) k = U / 256 ^ k % 256 := by
    intro k hk
    by_cases hkn : k < n
    · have e := encF_getD (U : Int) n k hkn
      have e2 := enc_byte (U : Int) (by omega) (by omega) k hk
      rw [u8_wrap_mod, e2, e0] at e
      have hs := byteAt_app (encF (U : Int) n) ByteArray.empty k (by rw [encF_length]; exact hkn) (by
        intro x hx
        obtain ⟨j, hj, rfl⟩ := List.mem_iff_getElem.1 hx
        have := encF_getD (U : Int) n j (by rw [encF_length] at hj; exact hj)
        rw [List.getD_eq_getElem?_getD, List.getElem?_eq_getElem hj, u8_wrap_mod] at this
        simp only [Option.getD_some] at this
        omega)
      rw [ByteArray.append_empty, e] at hs
      omega
    · rw [mf_past _ _ (by rw [strOfNums_size, encF_length]; omega), Nat.div_eq_of_lt (Nat.lt_of_lt_of_le hU (pow_mono256 (by omega)))]
  have := fix_bytes _ U (by omega) hb n hn
  rw [this, Nat.mod_eq_of_lt hU]
  unfold wrap64
  omega
theorem fld_of {s t : ByteArray} {a b : Nat} {n : Nat} {U : Int} (h : s.extract a b = strOfNums (encF U n)) (hn : n ≤ 7) (h0 : 0 ≤ U) (hU : U < 256 ^ n) : fld s a b = U := by
  obtain ⟨u, rfl⟩ : ∃ u : Nat, U = u := ⟨U.toNat, by omega⟩
  unfold fld
  rw [h, strOfNums_size, encF_length]
  have h7 : (256 : Nat) ^ n ≤ 256 ^ 7 := pow_mono256 hn
  have e7 : (256 : Nat) ^ 7 = 72057594037927936 := by decide
  have hu : u < 256 ^ n := by
    have : ((u : Nat) : Int) < ((256 ^ n : Nat) : Int) := by rw [Int.natCast_pow]; exact hU
    exact Int.ofNat_lt.1 this
  exact fix_backN u n (by omega) hu (by omega)
/-- Valid metadata come back from their encoding. -/
theorem fields_back {k l s f c : Int} (h : MetaOk k l s f c) : fld (sealM (metaL k l s f c)) 0 1 = k ∧ fld (sealM (metaL k l s f c)) 1 3 = l ∧ fld (sealM (metaL k l s f c)) 3 7 = s ∧ fld (sealM (metaL k l s f c)) 7 11 = f ∧ fld (sealM (metaL k l s f c)) 11 12 = c := by
  have z : ∀ (x : Int) (n : Nat), (strOfNums (encF x n)).size = n := fun x n => by rw [strOfNums_size, encF_length]
  have hr : (0 ≤ k ∧ k ≤ 4) ∧ (0 ≤ l ∧ l ≤ 47) ∧ (0 ≤ s ∧ s ≤ 1000000) ∧ (0 ≤ f ∧ f ≤ 1000000) ∧ (0 ≤ c ∧ c ≤ 4) := by unfold MetaOk at h; omega
  have p1 : (256 : Int) ^ 1 = 256 := by decide
  have p2 : (256 : Int) ^ 2 = 65536 := by decide
  have p4 : (256 : Int) ^ 4 = 4294967296 := by decide
  unfold sealM metaL
  refine ⟨fld_of (t := .empty) (n := 1) ?_ (by omega) (by omega) (by omega), fld_of (t := .empty) (n := 2) ?_ (by omega) (by omega) (by omega), fld_of (t := .empty) (n := 4) ?_ (by omega) (by omega) (by omega), fld_of (t := .empty) (n := 4) ?_ (by omega) (by omega) (by omega), fld_of (t := .empty) (n := 1) ?_ (by omega) (by omega) (by omega)⟩
  · repeat rw [mf_in _ _ (by simp only [ByteArray.size_append, z]; omega)]
    exact mf_all _ (z _ _)
  · rw [mf_in _ _ (by simp only [ByteArray.size_append, z]; omega), mf_in _ _ (by simp only [ByteArray.size_append, z]; omega), mf_in _ _ (by simp only [ByteArray.size_append, z]; omega), mf_in _ _ (by simp only [ByteArray.size_append, z]; omega)]
    exact mf_end _ _ (by simp only [ByteArray.size_append, z]) (by rw [z])
  · rw [mf_in _ _ (by simp only [ByteArray.size_append, z]; omega), mf_in _ _ (by simp only [ByteArray.size_append, z]; omega), mf_in _ _ (by simp only [ByteArray.size_append, z]; omega)]
    exact mf_end _ _ (by simp only [ByteArray.size_append, z]) (by rw [z])
  · rw [mf_in _ _ (by simp only [ByteArray.size_append, z]; omega), mf_in _ _ (by simp only [ByteArray.size_append, z]; omega)]
    exact mf_end _ _ (by simp only [ByteArray.size_append, z]) (by rw [z])
  · rw [mf_in _ _ (by simp only [ByteArray.size_append, z]; omega)]
    exact mf_end _ _ (by simp only [ByteArray.size_append, z]) (by rw [z])
/-- The encoding of valid metadata is found to be one, with the same fields. -/
theorem mdOk_seal {k l s f c : Int} (h : MetaOk k l s f c) : MdOk (sealM (metaL k l s f c)) ∧ mdV (sealM (metaL k l s f c)) true = .agg #[.int .i64 k, .int .i64 l, .int .i64 s, .int .i64 f, .int .i64 c] := by
  obtain ⟨e1, e2, e3, e4, e5⟩ := fields_back h
  refine ⟨⟨sealM_size _ _ _ _ _, ?_⟩, ?_⟩
  · unfold FldOk
    rw [e1, e2, e3, e4, e5]
    exact ⟨h, rfl⟩
  · show fldV _ = _
    unfold fldV
    rw [e1, e2, e3, e4, e5]
theorem mdOk_empty : ¬ MdOk .empty := fun e => by have := e.1; cases this
end Go.Proofs.YtfnccbanmgfkeabDoor
