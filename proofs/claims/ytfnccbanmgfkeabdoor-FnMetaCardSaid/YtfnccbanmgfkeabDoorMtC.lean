/- Plain facts: one changed byte of sixteen is found out. -/
import Derived.Test.YtfnccbanmgfkeabDoorProg
import Derived.Test.YtfnccbanmgfkeabDoorMtF
import Derived.Test.YtfnccbanmgfkeabDoorCrcW
namespace Go.Proofs.YtfnccbanmgfkeabDoor
open Go.RowKit
set_option linter.unusedVariables false
set_option linter.unusedSimpArgs false
/-- The last four bytes are the checksum of the first twelve. -/
theorem MdOk.ck {x : ByteArray} (h : MdOk x) : x.extract 12 16 = strOfNums (encF ((ckOf (x.extract 0 12) : Nat) : Int) 4) := by
  obtain ⟨h16, h1, h2⟩ := h
  have hz := metaL_size (fld x 0 1) (fld x 1 3) (fld x 3 7) (fld x 7 11) (fld x 11 12)
  generalize metaL (fld x 0 1) (fld x 1 3) (fld x 3 7) (fld x 7 11) (fld x 11 12) = m at *
  unfold sealM at h2
  have e1 : x.extract 0 12 = m := by rw [← h2, mf_in _ _ (by omega)]; exact mf_all _ hz
  have e2 : x.extract 12 16 = strOfNums (encF ((ckOf m : Nat) : Int) 4) := by
    rw [← h2]
    exact mf_end _ _ hz (by rw [strOfNums_size, encF_length])
  rw [e2, e1]
theorem enc4_inj {a b : Nat} (ha : a < 4294967296) (hb : b < 4294967296) (h : strOfNums (encF (a : Int) 4) = strOfNums (encF (b : Int) 4)) : a = b := by
  have e : (256 : Nat) ^ 4 = 4294967296 := by decide
  have h1 := fix_backN a 4 (by omega) (by omega) (by omega)
  have h2 := fix_backN b 4 (by omega) (by omega) (by omega)
  rw [h, h2] at h1
  omega
theorem one_byte (j k b : Nat) (hb : b < 256) : 2 ^ (8 * j) * b / 2 ^ (8 * k) % 256 = if k = j then b else 0 := by
  rcases Nat.lt_trichotomy k j with h | rfl | h
  · rw [if_neg (by omega), show 8 * j = 8 * k + (8 + 8 * (j - k - 1)) by omega, Nat.pow_add, Nat.mul_assoc, Nat.mul_div_cancel_left _ (Nat.two_pow_pos _), Nat.pow_add, show (2 : Nat) ^ 8 = 256 by decide, Nat.mul_assoc, Nat.mul_mod_right]
  · rw [if_pos rfl, Nat.mul_div_cancel_left _ (Nat.two_pow_pos _), Nat.mod_eq_of_lt hb]
  · rw [if_neg (by omega), show 8 * k = 8 * j + (8 + 8 * (k - j - 1)) by omega, Nat.pow_add, Nat.mul_div_mul_left _ _ (Nat.two_pow_pos _), Nat.pow_add, ← Nat.div_div_eq_div_mul, show (2 : Nat) ^ 8 = 256 by decide, Nat.div_eq_of_lt hb]
    simp
theorem changed_no {x y : ByteArray} (h : MdOk x) {j b : Nat} (hj : j < 16) (hb : b < 256) (hb0 : b ≠ 0) (hy : y.size = 16) (hyj : byteAt y j = byteAt x j ^^^ b) (hyo : ∀ i, i ≠ j → byteAt y i = byteAt x i) : ¬ MdOk y := by
  intro hY
  have hx := h.1
  have c1 := h.ck
  have c2 := hY.ck
  by_cases hj12 : j < 12
  · have e : y.extract 12 16 = x.extract 12 16 := by
      refine mf_ext (by rw [ByteArray.size_extract, ByteArray.size_extract]; omega) fun i hi => ?_
      rw [ByteArray.size_extract] at hi
      rw [mf_extract _ _ _ _ (by omega), mf_extract _ _ _ _ (by omega), hyo _ (by omega)]
    rw [c1, c2] at e
    have e3 := enc4_inj (ckOf_lt _) (ckOf_lt _) e
    have hs : (x.extract 0 12).size = 12 := by rw [ByteArray.size_extract]; omega
    have eb : y.extract 0 12 = strOfNums (burst (x.extract 0 12) (8 * j) b) := by
      have hok : ∀ v ∈ burst (x.extract 0 12) (8 * j) b, 0 ≤ v ∧ v < 256 := by
        intro v hv
        simp only [burst, List.mem_map] at hv
        obtain ⟨i, _, rfl⟩ := hv
        have := burst_byte_lt (x.extract 0 12) (8 * j) b i
        omega
      refine mf_ext (by rw [ByteArray.size_extract, strOfNums_size, burst_length, hs]; omega) fun i hi => ?_
      rw [ByteArray.size_extract] at hi
      have h1 := nums_at' (burst (x.extract 0 12) (8 * j) b) i (by rw [burst_length, hs]; omega) hok
      rw [burst_getD _ _ _ _ (by rw [hs]; omega), one_byte _ _ _ hb, mf_extract _ _ _ _ (by omega)] at h1
      rw [mf_extract _ _ _ _ (by omega), Nat.zero_add]
      rw [Nat.zero_add] at h1
      by_cases hij : i = j
      · subst hij
        rw [if_pos rfl] at h1
        rw [hyj]
        exact (Int.ofNat_inj.1 h1).symm
      · rw [if_neg hij, Nat.xor_zero] at h1
        rw [hyo _ hij]
        exact (Int.ofNat_inj.1 h1).symm
    rw [eb] at e3
    exact hb0 ((burst_ck (x.extract 0 12) (8 * j) b 8 hb (by omega) (by rw [hs]; omega)).1 e3)
  · have e : y.extract 0 12 = x.extract 0 12 := by
      refine mf_ext (by rw [ByteArray.size_extract, ByteArray.size_extract]; omega) fun i hi => ?_
      rw [ByteArray.size_extract] at hi
      rw [mf_extract _ _ _ _ (by omega), mf_extract _ _ _ _ (by omega), hyo _ (by omega)]
    rw [e, ← c1] at c2
    have e2 := congrArg (fun t => byteAt t (j - 12)) c2
    rw [mf_extract _ _ _ _ (by omega), mf_extract _ _ _ _ (by omega), show 12 + (j - 12) = j by omega, hyj] at e2
    have : b = 0 := by
      have e4 : byteAt x j ^^^ (byteAt x j ^^^ b) = byteAt x j ^^^ byteAt x j := by rw [e2]
      rwa [← Nat.xor_assoc, Nat.xor_self, Nat.zero_xor] at e4
    exact hb0 this
end Go.Proofs.YtfnccbanmgfkeabDoor
