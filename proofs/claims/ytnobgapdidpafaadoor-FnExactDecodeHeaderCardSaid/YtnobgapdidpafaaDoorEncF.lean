/- EncodeFixed, in the model and in the program: their contracts. -/
import Derived.Test.YtnobgapdidpafaaDoorProg
import Derived.Test.YtnobgapdidpafaaDoorLfsr
import Derived.Test.YtnobgapdidpafaaDoorBytes
import Derived.Test.YtnobgapdidpafaaDoorEncN
import Derived.WalkKit
import Derived.ProofKit
import Derived.Lib.Hide
namespace Go.Proofs.YtnobgapdidpafaaDoor
open Go.RowKit

theorem specEncFixed_yes (n : Int) (m : Nat) (w : World) (hm : m ≤ 8) :
    Calls Tryd.prog 28 #[.int .i64 n, .int .i64 m] w fun e w' => e = .returned (.string (strOfNums (encF n m))) ∧ Below w.heap.size w w' := by
  have hm0 : (m : Int) ≤ 8 := by omega
  go_enter Tryd.func28, Tryd.ntmps28
  go_wp2
  go_loopw [5, 6] (fun v i wr => ∃ k : Nat, k ≤ m ∧ i = .int .i64 k ∧ BytesOwn wr w.heap.size v (encF n k) ∧ Below w.heap.size w wr) (fun _ i _ => m - (intOf i).toNat)
  case atStart => exact ⟨0, Nat.zero_le _, rfl, BytesOwn.made _ (Nat.le_refl _), (Below.refl _ _).alloc (Nat.le_refl _) _⟩
  case round =>
    obtain ⟨k, hk, rfl, hown, hb⟩ := hrel
    have hz := hb.size
    have hlen := encF_length n k
    by_cases hlt : k < m
    · go_wp2_with (first | (go_at_call 27; refine (l00In_yes _ _ _ _ (by omega) (by omega)).mono ?_; rintro e w' ⟨rfl, rfl⟩) | (at_builtin; refine wpList_append_byte rfl _ _ rfl _ _ rfl hown hb hz _ _ rfl (by omega) ?_; intro v' w1 hown' hb'; clear hown hb))
      go_roundw
      case rel => exact ⟨k + 1, by omega, by go_num, hown', hb'⟩
      case measure => simp [intOf]; omega
    · have hcv := bytes_str hown
      go_wp2_with (go_at_call 27; refine (l00In_yes _ _ _ _ (by omega) (by omega)).mono ?_; rintro e w' ⟨rfl, rfl⟩)
      go_ret
      exact ⟨ret_str (by rw [show m = k by omega]), hb⟩
theorem specEncFixed_no (n m : Int) (w : World) (hm : m < 0 ∨ 8 < m) :
    Calls Tryd.prog 28 #[.int .i64 n, .int .i64 m] w fun e w' => e = .returned (.string (strOfNums [])) ∧ Below w.heap.size w w' := by
  go_enter Tryd.func28, Tryd.ntmps28
  go_wp2
  go_loopw [5, 6] (fun v i wr => i = .int .i64 0 ∧ BytesOwn wr w.heap.size v [] ∧ Below w.heap.size w wr) (fun _ _ _ => 0)
  case atStart => exact ⟨rfl, BytesOwn.made _ (Nat.le_refl _), (Below.refl _ _).alloc (Nat.le_refl _) _⟩
  case round =>
    obtain ⟨rfl, hown, hb⟩ := hrel
    have hcv := bytes_str hown
    go_wp2_with (go_at_call 27; refine (l00In_no _ _ _ _ hm).mono ?_; rintro e w' ⟨rfl, rfl⟩)
    go_ret
    exact ⟨rfl, hb⟩

theorem set_at_end (l : List Int) (n k : Nat) (b : Int) (h : l.length = k) (hk : k < n) : (l ++ List.replicate (n - k) 0).set k b = (l ++ [b]) ++ List.replicate (n - (k + 1)) 0 := by
  rw [List.set_append_right _ _ (by omega), h, Nat.sub_self, show n - k = (n - (k + 1)) + 1 by omega, List.replicate_succ, List.set_cons_zero, List.append_assoc]; rfl
theorem div_next (n : Int) (k : Nat) : n / 2 ^ (8 * k) / 256 = n / 2 ^ (8 * (k + 1)) := by
  have h : (0 : Int) ≤ 2 ^ (8 * k) := Int.pow_nonneg (by decide)
  rw [Int.ediv_ediv_of_nonneg h, show 8 * (k + 1) = 8 * k + 8 by omega, Int.pow_add]; rfl

theorem implEncFixed_yes (n : Int) (m : Nat) (w : World) (hm : m ≤ 8) :
    Calls Tryd.prog 18 #[.int .i64 n, .int .i64 m] w fun e w' => e = .returned (.string (strOfNums (encF n m))) ∧ Below w.heap.size w w' := by
  have hm0 : (m : Int) ≤ 8 := by omega
  have hd : decide (8 < (m : Int)) = false := by simp; omega
  go_enter Tryd.func18, Tryd.ntmps18
  go_wp2_with (refine wpList_make_bytes rfl _ _ rfl _ _ _ _ m rfl rfl rfl rfl (by omega) (Below.refl _ _) (Nat.le_refl _) ?_; intro w1 hown hb)
  go_loopw [0, 17] (fun v i wr => ∃ k : Nat, k ≤ m ∧ i = .int .i64 k ∧ v = .int .i64 (n / 2 ^ (8 * k)) ∧ BytesOwn wr w.heap.size (.slice (some ⟨w.heap.size, 0, none⟩) m m) (encF n k ++ List.replicate (m - k) 0) ∧ Below w.heap.size w wr) (fun _ i _ => m - (intOf i).toNat)
  case atStart => exact ⟨0, Nat.zero_le _, rfl, by simp, by simpa [encF] using hown, hb⟩
  case round =>
    obtain ⟨k, hk, rfl, rfl, hown, hb⟩ := hrel
    have hlen : (encF n k ++ List.replicate (m - k) 0).length = m := by simp [encF_length]; omega
    by_cases hlt : k < m
    · have hc := hown.cell (j := k) hlen hlt
      have hf := hown.free hlen k
      have hnext := hown.stored hlen k (IntKind.u8.wrap (n / 2 ^ (8 * k)))
      rw [set_at_end _ _ _ _ (encF_length n k) hlt] at hnext
      have hbn := hb.setCell (p := ⟨w.heap.size, k, none⟩) (Nat.le_refl _) (.int .u8 (IntKind.u8.wrap (n / 2 ^ (8 * k))))
      have hdn := Lib.hid (div_next n k)
      clear hown hb hlen
      go_wp2
      go_roundw
      case rel => exact ⟨k + 1, by omega, by go_num, by rw [hdn.out], hnext, hbn⟩
      case measure => simp [intOf]; omega
    · have hcv := bytes_str hown
      go_wp2
      go_ret
      exact ⟨ret_str (by rw [show m = k by omega]; simp), hb⟩
theorem implEncFixed_no (n m : Int) (w : World) (hm : m < 0 ∨ 8 < m) :
    Calls Tryd.prog 18 #[.int .i64 n, .int .i64 m] w fun e w' => e = .returned (.string (strOfNums [])) ∧ Below w.heap.size w w' := by
  by_cases h1 : m < 0
  all_goals
    go_enter Tryd.func18, Tryd.ntmps18
    go_wp2
    go_ret
    exact ⟨rfl, Below.refl _ _⟩
end Go.Proofs.YtnobgapdidpafaaDoor
