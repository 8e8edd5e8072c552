/- The keystream, in the model and in the program: the contracts. -/
import Derived.Test.YthenilomgbnpeaaDoorProg
import Derived.Test.YthenilomgbnpeaaDoorLfsr
import Derived.Test.YthenilomgbnpeaaDoorBytes
import Derived.Test.YthenilomgbnpeaaDoorKeyN
namespace Go.Proofs.YthenilomgbnpeaaDoor
open Go.RowKit

set_option maxRecDepth 100000 in
theorem implKey_yes (s m : Nat) (w : World) (h1 : 1 ≤ s) (h : s < 65536) (hm : m ≤ 256) :
    Calls Tryd.prog 22 #[.int .i64 s, .int .i64 m] w fun e w' => e = .returned (.tuple #[.string (strOfNums (streamL s m)), .int .i64 0]) ∧ Below w.heap.size w w' := by
  have hs1 : (s : Int) ≤ 65535 := by omega
  have hd : decide (256 < (m : Int)) = false := by simp; omega
  go_enter Tryd.func22, Tryd.ntmps22
  go_wp2_with (first
    | (go_at_call 34; refine (implValid_yes _ _ (by omega) (by omega)).mono ?_; rintro e w' ⟨rfl, rfl⟩)
    | (refine wpList_make_bytes rfl _ _ rfl _ _ _ _ m rfl rfl rfl rfl (by omega) (Below.refl _ _) (Nat.le_refl _) ?_; intro w1 hown hb))
  go_loopw [7, 27] (fun u i wr => ∃ k : Nat, k ≤ m ∧ i = .int .i64 k ∧ u = .int .u16 (stepI s (8 * k) : Nat) ∧ BytesOwn wr w.heap.size (.slice (some ⟨w.heap.size, 0, none⟩) m m) (streamL s k ++ List.replicate (m - k) 0) ∧ Below w.heap.size w wr) (fun _ i _ => m - (intOf i).toNat)
  case atStart => exact ⟨0, Nat.zero_le _, rfl, rfl, by simpa [streamL] using hown, hb⟩
  case round =>
    obtain ⟨k, hk, rfl, rfl, hown, hb⟩ := hrel
    have hlen := streamL_length s k
    obtain ⟨t, ht⟩ : ∃ t, t = stepI s (8 * k) := ⟨_, rfl⟩
    have htl : t < 65536 := by rw [ht]; exact stepI_lt s h _
    rw [← ht]
    have HT := Lib.hid ht
    clear ht
    by_cases hlt : k < m
    · have e0 : streamL s k ++ List.replicate (m - k) 0 = streamL s k ++ ((keyP t 0 : Nat) : Int) :: List.replicate (m - (k + 1)) 0 := by
        rw [show m - k = (m - (k + 1)) + 1 by omega, List.replicate_succ]; rfl
      rw [e0] at hown
      clear e0
      go_wp2
      obtain ⟨wo, hwo⟩ : ∃ wo : World, wo = wr := ⟨_, rfl⟩
      subst hwo
      go_loopw [7, 30] (fun u j wi => ∃ i : Nat, i ≤ 8 ∧ j = .int .i64 i ∧ u = .int .u16 (stepI t i : Nat) ∧ BytesOwn wi w.heap.size (.slice (some ⟨w.heap.size, 0, none⟩) m m) (streamL s k ++ ((keyP t i : Nat) : Int) :: List.replicate (m - (k + 1)) 0) ∧ Below w.heap.size w wi) (fun _ j _ => 8 - (intOf j).toNat)
      case atStart => exact ⟨0, by omega, rfl, rfl, hown, hb⟩
      case round =>
        clear hown hb
        obtain ⟨i, hi, rfl, rfl, hown, hb⟩ := hrel
        have hsl := stepI_lt t htl i
        have hlm : (streamL s k ++ ((keyP t i : Nat) : Int) :: List.replicate (m - (k + 1)) 0).length = m := by simp [hlen]; omega
        have hcell := hown.cell (j := k) hlm hlt
        rw [List.getD_eq_getElem?_getD, List.getElem?_append_right (by omega), hlen, Nat.sub_self] at hcell
        have hfree := hown.free hlm k
        by_cases hi8 : i < 8
        · simp only [List.getElem?_cons_zero, Option.getD_some] at hcell
          have HE := Lib.hid (key_impl t i hi8 hsl)
          have hnext := hown.stored hlm k (bits .or .u8 ((keyP t i : Nat) : Int) (bits .and .u16 ((stepI t i : Nat) : Int) 1 % 256 * 2 ^ i % 256))
          rw [set_mid _ _ _ _ _ hlen] at hnext
          have hbn := hb.setCell (p := ⟨w.heap.size, k, none⟩) (Nat.le_refl _) (.int .u8 (bits .or .u8 ((keyP t i : Nat) : Int) (bits .and .u16 ((stepI t i : Nat) : Int) 1 % 256 * 2 ^ i % 256)))
          clear hown hb hlm
          go_wp2
          go_region
          go_wp2_with (go_at_call 35; refine (nextState_any _ _ hsl).mono ?_; rintro e w' ⟨rfl, rfl⟩)
          go_roundw
          case rel => exact ⟨i + 1, by omega, by go_num, rfl, by rw [← HE.out]; exact hnext.drew, hbn.drew⟩
          case measure => simp [intOf]; omega
        · obtain rfl : i = 8 := by omega
          clear hcell hfree hlm
          go_wp2
          go_roundw
          case rel => exact ⟨k + 1, by omega, by go_num, by rw [HT.out, ← stepI_add]; rfl, by rw [HT.out] at hown; simpa [streamL] using hown, hb⟩
          case measure => simp [intOf]; omega
    · have hcv := bytes_str hown
      go_wp2
      go_ret2
      exact ⟨by rw [show m = k by omega]; simp, hb⟩
theorem implKey_no (s m : Int) (w : World) (h : (s < 1 ∨ 65535 < s) ∨ m < 0 ∨ 256 < m) :
    Calls Tryd.prog 22 #[.int .i64 s, .int .i64 m] w fun e w' => e = .returned (.tuple #[.string ⟨#[]⟩, .int .i64 2]) ∧ Below w.heap.size w w' := by
  by_cases hs : s < 1 ∨ 65535 < s
  · clear h
    go_enter Tryd.func22, Tryd.ntmps22
    go_wp2_with (go_at_call 34; refine (implValid_no _ _ hs).mono ?_; rintro e w' ⟨rfl, rfl⟩)
    go_ret2
    exact ⟨rfl, Below.refl _ _⟩
  · have hs1 : 1 ≤ s := by omega
    have hs2 : s ≤ 65535 := by omega
    by_cases hm : m < 0
    · have hm' : decide (m < 0) = true := by simpa using hm
      clear h hs
      go_enter Tryd.func22, Tryd.ntmps22
      go_wp2_with (go_at_call 34; refine (implValid_yes _ _ hs1 hs2).mono ?_; rintro e w' ⟨rfl, rfl⟩)
      go_ret2
      exact ⟨rfl, Below.refl _ _⟩
    · have hm1 : 256 < m := by omega
      have hm' : decide (m < 0) = false := by simpa using hm
      have hm'' : decide (256 < m) = true := by simpa using hm1
      clear h hs
      go_enter Tryd.func22, Tryd.ntmps22
      go_wp2_with (go_at_call 34; refine (implValid_yes _ _ hs1 hs2).mono ?_; rintro e w' ⟨rfl, rfl⟩)
      go_ret2
      exact ⟨rfl, Below.refl _ _⟩
end Go.Proofs.YthenilomgbnpeaaDoor
