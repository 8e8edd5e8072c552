/- The parity after one unit has changed, in the model and in the program: the contracts. -/
import Derived.Test.YtegjppihopncoaaProg
import Derived.Test.YtegjppihopncoaaPar
namespace Go.Proofs.Ytegjppihopncoaa
open Go.RowKit

theorem three_reads (w : World) (a b c : ByteArray) : StrsIn (w.alloc (.cells #[.string a, .string b, .string c] 9)) (.slice (some ⟨w.heap.size, 0, none⟩) 3 3) [a, b, c] := by
  refine ⟨_, _, _, rfl, Nat.le_refl _, by omega, rfl, fun _ => ⟨w.heap.size, 0, rfl, by simp, fun i hi => ?_⟩⟩
  rw [Nat.zero_add, World.cell?_alloc_new]
  match i, hi with
  | 0, _ => rfl
  | 1, _ => rfl
  | 2, _ => rfl
theorem three_small {a b c : ByteArray} {M : Nat} (ha : a.size ≤ M) (hb : b.size ≤ M) (hc : c.size ≤ M) : ∀ i, i < [a, b, c].length → ([a, b, c].getD i ByteArray.empty).size ≤ M := by
  intro i hi
  match i, hi with
  | 0, _ => exact ha
  | 1, _ => exact hb
  | 2, _ => exact hc
theorem implUpd_any (a b c R : ByteArray) (k : Int) (w : World) (ha : a.size ≤ 1048576) (hb : b.size ≤ 1048576) (hc : c.size ≤ 1048576) (hE : XorEnds [a, b, c] R k) :
    Calls Try.prog 10 #[.string a, .string b, .string c] w (XorPost R k w) := by
  have HX := Lib.hid (xorOf_any (.slice (some ⟨w.heap.size, 0, none⟩) 3 3) [a, b, c] R k _ (three_reads w a b c) (three_small (by omega) (by omega) (by omega)) hE)
  clear hE
  go_enter Try.func10, Try.ntmps10
  go_wp2_with (go_at_call 11; refine HX.out.mono ?_; rintro e w1 ⟨rfl, hb1⟩)
  go_ret2
  exact ⟨rfl, ((Below.refl w.heap.size w).alloc (Nat.le_refl _) _).trans (hb1.mono (by simp))⟩
end Go.Proofs.Ytegjppihopncoaa
