/- DecodeFixed, in the model and in the program: their contracts. -/
import Derived.Test.YtnobgapdidpafaaDoorProg
import Derived.Test.YtnobgapdidpafaaDoorBits
import Derived.WalkKit
import Derived.ProofKit
import Derived.Lib.Hide
namespace Go.Proofs.YtnobgapdidpafaaDoor
open Go.RowKit

/-- The integer of the first k bytes. -/
def fixF (s : ByteArray) : Nat → Int
  | 0 => 0
  | k + 1 => bits .or .i64 (fixF s k) (wrap64 ((byteAt s k : Int) * 2 ^ (8 * k)))

theorem specDecFixed_short (s : ByteArray) (w : World) (hs : s.size ≤ 8) :
    Calls Tryd.prog 20 #[.string s] w fun e w' => e = .returned (.int .i64 (fixF s s.size)) ∧ w = w' := by
  go_enter Tryd.func20, Tryd.ntmps20
  go_wp2
  go_loop [3, 4] (fun n i => ∃ k : Nat, k ≤ s.size ∧ i = .int .i64 k ∧ n = .int .i64 (fixF s k)) (fun _ i => s.size - (intOf i).toNat)
  case atStart => exact ⟨0, Nat.zero_le _, rfl, rfl⟩
  case round =>
    obtain ⟨k, hk, rfl, rfl⟩ := hrel
    by_cases hlt : k < s.size
    · have hb := byteAt_eq hlt
      have hl := byteAt_le s k
      rw [← hb] at hl
      have HB := Lib.hid hb; clear hb
      go_wp2
      go_round
      case rel => exact ⟨k + 1, by omega, by go_num, by rw [HB.out]; rfl⟩
      case measure => simp [intOf]; omega
    · go_wp2
      go_ret
      exact ⟨ret_int (by rw [show s.size = k by omega]), rfl⟩
theorem specDecFixed_long (s : ByteArray) (w : World) (hs : 8 < s.size) :
    Calls Tryd.prog 20 #[.string s] w fun e w' => e = .returned (.int .i64 0) ∧ w = w' := by
  go_enter Tryd.func20, Tryd.ntmps20
  go_wp2
  go_loop [3, 4] (fun n i => n = .int .i64 0 ∧ i = .int .i64 0) (fun _ _ => 0)
  case atStart => exact ⟨rfl, rfl⟩
  case round =>
    obtain ⟨rfl, rfl⟩ := hrel
    go_wp2
    go_ret
    exact ⟨rfl, rfl⟩
theorem implDecFixed_short (s : ByteArray) (w : World) (hs : s.size ≤ 8) :
    Calls Tryd.prog 21 #[.string s] w fun e w' => e = .returned (.int .i64 (fixF s s.size)) ∧ w = w' := by
  go_enter Tryd.func21, Tryd.ntmps21
  go_wp2
  go_loop [3, 10] (fun n i => ∃ k : Nat, k ≤ s.size ∧ i = .int .i64 k ∧ n = .int .i64 (fixF s k)) (fun _ i => s.size - (intOf i).toNat)
  case atStart => exact ⟨0, Nat.zero_le _, rfl, rfl⟩
  case round =>
    obtain ⟨k, hk, rfl, rfl⟩ := hrel
    by_cases hlt : k < s.size
    · have hb := byteAt_eq hlt
      have hl := byteAt_le s k
      rw [← hb] at hl
      have HB := Lib.hid hb; clear hb
      go_wp2
      go_round
      case rel => exact ⟨k + 1, by omega, by go_num, by rw [HB.out]; rfl⟩
      case measure => simp [intOf]; omega
    · go_wp2
      go_ret
      exact ⟨ret_int (by rw [show s.size = k by omega]), rfl⟩
theorem implDecFixed_long (s : ByteArray) (w : World) (hs : 8 < s.size) :
    Calls Tryd.prog 21 #[.string s] w fun e w' => e = .returned (.int .i64 0) ∧ w = w' := by
  go_enter Tryd.func21, Tryd.ntmps21
  go_wp2
  go_ret
  exact ⟨rfl, rfl⟩
end Go.Proofs.YtnobgapdidpafaaDoor
