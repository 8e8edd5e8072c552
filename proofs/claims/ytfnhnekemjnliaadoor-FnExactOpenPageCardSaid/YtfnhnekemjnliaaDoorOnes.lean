/- Counting the bits that are 1, in the model and in the program: the contracts. -/
import Derived.Test.YtfnhnekemjnliaaDoorProg
import Derived.Test.YtfnhnekemjnliaaDoorBits
import Derived.ProofKit
import Derived.Lib.Hide
import Derived.Lib.BitFns
namespace Go.Proofs.YtfnhnekemjnliaaDoor
open Go.RowKit

/-- The bits of x that are 1, of its lowest f ones. -/
def onesF : Nat → Nat → Nat
  | 0, _ => 0
  | f + 1, x => x % 2 + onesF f (x / 2)
theorem onesF_le : ∀ f x, onesF f x ≤ f
  | 0, _ => Nat.le_refl _
  | f + 1, x => by have := onesF_le f (x / 2); rw [onesF]; omega
/-- The bits of the first k bytes that are 1. -/
def onesS (s : ByteArray) : Nat → Nat
  | 0 => 0
  | k + 1 => onesS s k + onesF 8 (byteAt s k)
theorem onesS_le (s : ByteArray) : ∀ k, onesS s k ≤ 8 * k
  | 0 => Nat.le_refl _
  | k + 1 => by have := onesS_le s k; have := onesF_le 8 (byteAt s k); rw [onesS]; omega

theorem onesF_more : ∀ f x, x < 2 ^ f → onesF (f + 1) x = onesF f x
  | 0, x, h => by have : x = 0 := by simpa using h
                  subst this; rfl
  | f + 1, x, h => by
    rw [onesF, onesF_more f (x / 2) (by rw [Nat.pow_succ] at h; omega)]; rfl
theorem onesF_step {x : Nat} (h : x < 256) : onesF 8 x = x % 2 + onesF 8 (x / 2) := by
  rw [onesF_more 7 (x / 2) (by omega)]; rfl
theorem pop_ones : ∀ f x, Lib.popAux f x = onesF f x
  | 0, _ => rfl
  | f + 1, x => by rw [Lib.popAux, onesF, pop_ones f]
theorem ones_big : ∀ k f x, x < 2 ^ f → onesF (f + k) x = onesF f x
  | 0, _, _, _ => rfl
  | k + 1, f, x, h => by
    rw [← Nat.add_assoc, onesF_more (f + k) x (Nat.lt_of_lt_of_le h (Nat.pow_le_pow_right (by decide) (by omega))), ones_big k f x h]
theorem count_ones {x : Nat} (h : x < 256) : Lib.onesCount x = onesF 8 x := by
  unfold Lib.onesCount; rw [pop_ones]; exact ones_big 56 8 x h

set_option maxRecDepth 1000000 in
theorem onesCount8_int (x : Int) (w : World) (h0 : 0 ≤ x) (h1 : x ≤ 255) :
    Calls Tryd.prog 20 #[.int .u8 x] w fun e w' => e = .returned (.int .i64 (Lib.onesCount x.toNat)) ∧ w' = w := by
  have e : wrap64 (Lib.pop8 x) = (Lib.onesCount x.toNat : Int) := by
    have h2 := Lib.pop8_eq ⟨x.toNat, by omega⟩
    have l := Lib.onesCount_le8 ⟨x.toNat, by omega⟩
    simp only [Int.toNat_of_nonneg h0] at h2
    simp only at l
    rw [h2, IntWalk.wrap64_in _ (by omega)]
  have E := Lib.hid e
  clear e
  go_enter Tryd.func20, Tryd.ntmps20
  go_wp2
  go_ret
  exact ⟨ret_int E.out, rfl⟩
theorem onesCount8_any (x : Nat) (w : World) (h : x ≤ 255) :
    Calls Tryd.prog 20 #[.int .u8 x] w fun e w' => e = .returned (.int .i64 (onesF 8 x : Nat)) ∧ w = w' :=
  (onesCount8_int (x : Int) w (by omega) (by omega)).mono fun _ _ ⟨he, hw⟩ => ⟨by rw [he, Int.toNat_natCast, count_ones (by omega)], hw.symm⟩

theorem specOnes_any (n : Nat) (w : World) (h : n ≤ 255) :
    Calls Tryd.prog 38 #[.int .i64 n] w fun e w' => e = .returned (.int .i64 (onesF 8 n : Nat)) ∧ w = w' := by
  go_enter Tryd.func38, Tryd.ntmps38
  go_wp2
  go_loop [0, 3] (fun u k => ∃ (x c : Nat), x ≤ 255 ∧ c ≤ 8 ∧ u = .int .i64 x ∧ k = .int .i64 c ∧ c + onesF 8 x = onesF 8 n) (fun u _ => (intOf u).toNat)
  case atStart => exact ⟨n, 0, h, by omega, rfl, rfl, by omega⟩
  case round =>
    obtain ⟨x, c, hx, hc, rfl, rfl, hs⟩ := hrel
    have hst := onesF_step (x := x) (by omega)
    have hle := onesF_le 8 n
    have ha := and1_i64 x (by omega)
    by_cases hp : 0 < x
    · have h1 : c + x % 2 ≤ 8 := by omega
      have h2 : ((x % 2 : Nat) : Int) = (x : Int) % 2 := by omega
      rw [h2] at ha
      have HS : Hid ((c + x % 2) + onesF 8 (x / 2) = onesF 8 n) := by show _ = _; omega
      clear hst hs hle h2
      go_wp2
      go_round
      case rel => exact ⟨x / 2, c + x % 2, by omega, h1, by go_num, by go_num, HS.out⟩
      case measure => simp [intOf]; omega
    · obtain rfl : x = 0 := by omega
      have HS := Lib.hid hs
      clear hst hs ha hle
      go_wp2
      go_ret
      exact ⟨ret_int (by have := HS.out; rw [show onesF 8 0 = 0 from rfl] at this; omega), rfl⟩

end Go.Proofs.YtfnhnekemjnliaaDoor
