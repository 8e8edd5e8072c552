/- Counting the bits that are 1, in the model and in the program: the contracts. -/
import Derived.Test.YthenilomgbnpeaaDoorProg
import Derived.Test.YthenilomgbnpeaaDoorBits
import Derived.ProofKit
import Derived.Lib.Hide
import Derived.Lib.BitFns
namespace Go.Proofs.YthenilomgbnpeaaDoor
open Go.RowKit

/-- The bits of x that are 1, of its lowest f ones. -/
def onesF : Nat → Nat → Nat
  | 0, _ => 0
  | f + 1, x => x % 2 + onesF f (x / 2)
theorem onesF_le : ∀ f x, onesF f x ≤ f
  | 0, _ => Nat.le_refl _
  | f + 1, x => by have := onesF_le f (x / 2); rw [onesF]; omega
/-- The bits of the first k bytes that are 1. -/
def onesS (s : ByteArray) : Nat → Nat
  | 0 => 0
  | k + 1 => onesS s k + onesF 8 (byteAt s k)
theorem onesS_le (s : ByteArray) : ∀ k, onesS s k ≤ 8 * k
  | 0 => Nat.le_refl _
  | k + 1 => by have := onesS_le s k; have := onesF_le 8 (byteAt s k); rw [onesS]; omega

theorem onesF_more : ∀ f x, x < 2 ^ f → onesF (f + 1) x = onesF f x
  | 0, x, h => by have : x = 0 := by simpa using h
                  subst this; rfl
  | f + 1, x, h => by
    rw [onesF, onesF_more f (x / 2) (by rw [Nat.pow_succ] at h; omega)]; rfl
theorem onesF_step {x : Nat} (h : x < 256) : onesF 8 x = x % 2 + onesF 8 (x / 2) := by
  rw [onesF_more 7 (x / 2) (by omega)]; rfl
theorem pop_ones : ∀ f x, Lib.popAux f x = onesF f x
  | 0, _ => rfl
  | f + 1, x => by rw [Lib.popAux, onesF, pop_ones f]
theorem ones_big : ∀ k f x, x < 2 ^ f → onesF (f + k) x = onesF f x
  | 0, _, _, _ => rfl
  | k + 1, f, x, h => by
    rw [← Nat.add_assoc, onesF_more (f + k) x (Nat.lt_of_lt_of_le h (Nat.pow_le_pow_right (by decide) (by omega))), ones_big k f x h]
theorem count_ones {x : Nat} (h : x < 256) : Lib.onesCount x = onesF 8 x := by
  unfold Lib.onesCount; rw [pop_ones]; exact ones_big 56 8 x h

set_option maxRecDepth 1000000 in
theorem onesCount8_int (x : Int) (w : World) (h0 : 0 ≤ x) (h1 : x ≤ 255) :
    Calls Tryd.prog 18 #[.int .u8 x] w fun e w' => e = .returned (.int .i64 (Lib.onesCount x.toNat)) ∧ w' = w := by
  have e : wrap64 (Lib.pop8 x) = (Lib.onesCount x.toNat : Int) := by
    have h2 := Lib.pop8_eq ⟨x.toNat, by omega⟩
    have l := Lib.onesCount_le8 ⟨x.toNat, by omega⟩
    simp only [Int.toNat_of_nonneg h0] at h2
    simp only at l
    rw [h2, IntWalk.wrap64_in _ (by omega)]
  have E := Lib.hid e
  clear e
  go_enter Tryd.func18, Tryd.ntmps18
  go_wp2
  go_ret
  exact ⟨ret_int E.out, rfl⟩
theorem onesCount8_any (x : Nat) (w : World) (h : x ≤ 255) :
    Calls Tryd.prog 18 #[.int .u8 x] w fun e w' => e = .returned (.int .i64 (onesF 8 x : Nat)) ∧ w = w' :=
  (onesCount8_int (x : Int) w (by omega) (by omega)).mono fun _ _ ⟨he, hw⟩ => ⟨by rw [he, Int.toNat_natCast, count_ones (by omega)], hw.symm⟩

end Go.Proofs.YthenilomgbnpeaaDoor
