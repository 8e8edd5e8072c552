/- The exclusive or of two texts, in the model. -/
import Derived.Test.YtfnhnekemjnliaaDoorProg
import Derived.Test.YtfnhnekemjnliaaDoorWords
import Derived.Test.YtfnhnekemjnliaaDoorBytes
import Derived.Test.YtfnhnekemjnliaaDoorBits
import Derived.ProofKit
namespace Go.Proofs.YtfnhnekemjnliaaDoor
open Go.RowKit

/-- The first k bytes of the exclusive or. -/
def xorL (a b : ByteArray) : Nat → List Int
  | 0 => []
  | k + 1 => xorL a b k ++ [((byteAt a k ^^^ byteAt b k : Nat) : Int)]
theorem xorL_length (a b : ByteArray) : ∀ k, (xorL a b k).length = k
  | 0 => rfl
  | k + 1 => by simp [xorL, xorL_length a b k]

theorem specXor_any (a b : ByteArray) (w : World) (hab : a.size = b.size) (ha : a.size ≤ 1048576) :
    Calls Tryd.prog 55 #[.string a, .string b] w fun e w' => e = .returned (.string (strOfNums (xorL a b a.size))) ∧ Below w.heap.size w w' := by
  go_enter Tryd.func55, Tryd.ntmps55
  go_wp2
  go_loopw [5, 6] (fun v i wr => ∃ k : Nat, k ≤ a.size ∧ i = .int .i64 k ∧ BytesOwn wr w.heap.size v (xorL a b k) ∧ Below w.heap.size w wr) (fun _ i _ => a.size - (intOf i).toNat)
  case atStart => exact ⟨0, Nat.zero_le _, rfl, BytesOwn.made _ (Nat.le_refl _), (Below.refl _ _).alloc (Nat.le_refl _) _⟩
  case round =>
    obtain ⟨k, hk, rfl, hown, hb⟩ := hrel
    have hz := hb.size
    have hlen := xorL_length a b k
    by_cases hlt : k < a.size
    · have hlt2 : k < b.size := by omega
      have hi1 : (k : Int) < (a.size : Int) := by omega
      have hi2 : (k : Int) < (b.size : Int) := by omega
      have HX : Hid (bits .xor .u8 (a[k].toNat : Int) (b[k].toNat : Int) = ((byteAt a k ^^^ byteAt b k : Nat) : Int)) := by
        have h1 := byteAt_le a k
        have h2 := byteAt_le b k
        rw [byteAt_eq hlt, byteAt_eq hlt2]; exact u8_xor_nat _ _ (by omega) (by omega)
      go_wp2
      have hcell : ∀ (W : World) (x : Value), (W.alloc (.cells #[x] 5)).cell? ⟨W.heap.size, 0, none⟩ = some x := fun W x => by rw [World.cell?_alloc_at _ _ _ _ rfl]; rfl
      have HC := Lib.hid hcell
      clear hcell
      go_region_law (refine step_append_byte rfl (.tmp 14) (.tmp 22) rfl u5 _ (by simp [Act.eval]) ((hown.alloc _).drew) ((hb.alloc hz _).drew) (by simp; omega) wr.heap.size 1 (bits .xor .u8 (a[k].toNat : Int) (b[k].toNat : Int)) (by simp [Act.eval]) (HC.out _ _) (by omega) ?_; intro v' w1 hown' hb')
      all_goals
        rw [HX.out] at hown'
        go_wp2
        go_roundw
        case rel => exact ⟨k + 1, by omega, by go_num, hown', hb'⟩
        case measure => simp [intOf]; omega
    · have hcv := bytes_str hown
      go_wp2
      go_ret
      exact ⟨ret_str (by rw [show a.size = k by omega]), hb⟩
end Go.Proofs.YtfnhnekemjnliaaDoor
