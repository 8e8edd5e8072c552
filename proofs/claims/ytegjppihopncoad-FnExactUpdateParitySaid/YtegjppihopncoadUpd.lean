/- The parity after one unit has changed, in the model and in the program: the contracts. -/
import Derived.Test.YtegjppihopncoadProg
import Derived.Test.YtegjppihopncoadPar
namespace Go.Proofs.Ytegjppihopncoad
open Go.RowKit

theorem three_reads (w : World) (a b c : ByteArray) : StrsIn (w.alloc (.cells #[.string a, .string b, .string c] 9)) (.slice (some ⟨w.heap.size, 0, none⟩) 3 3) [a, b, c] := by
  refine ⟨_, _, _, rfl, Nat.le_refl _, by omega, rfl, fun _ => ⟨w.heap.size, 0, rfl, by simp, fun i hi => ?_⟩⟩
  rw [Nat.zero_add, World.cell?_alloc_new]
  match i, hi with
  | 0, _ => rfl
  | 1, _ => rfl
  | 2, _ => rfl
theorem three_small {a b c : ByteArray} {M : Nat} (ha : a.size ≤ M) (hb : b.size ≤ M) (hc : c.size ≤ M) : ∀ i, i < [a, b, c].length → ([a, b, c].getD i ByteArray.empty).size ≤ M := by
  intro i hi
  match i, hi with
  | 0, _ => exact ha
  | 1, _ => exact hb
  | 2, _ => exact hc
theorem specUpd_any (a b c R : ByteArray) (k : Int) (w : World) (ha : a.size ≤ 1048576) (hb : b.size ≤ 1048576) (hc : c.size ≤ 1048576) (hE : XorEnds [a, b, c] R k) :
    Calls Try.prog 13 #[.string a, .string b, .string c] w (XorPost R k w) := by
  have hbig := three_small (M := 9223372036854775807) (a := a) (b := b) (c := c) (by omega) (by omega) (by omega)
  have HR := Lib.hid (fun (W : World) => three_reads W a b c)
  rcases hE with ⟨m, hm, rfl, rfl⟩ | ⟨hm, rfl, rfl⟩
  · have HU := Lib.hid (fun (W : World) (v : Value) (h : StrsIn W v [a, b, c]) => l04Units_yes v [a, b, c] m W h hm)
    have HS := Lib.hid (fun (W : World) (v : Value) (h : StrsIn W v [a, b, c]) => l04Sum_any v [a, b, c] m W h hm)
    clear hm hbig
    generalize sumS [a, b, c] m = s at *
    go_enter Try.func13, Try.ntmps13
    go_wp2_with (go_at_call 22; refine (HU.out _ _ (HR.out w)).mono ?_; rintro e w1 ⟨rfl, hb1⟩)
    have B1 := ((Below.refl w.heap.size w).alloc (Nat.le_refl _) (.cells #[.string a, .string b, .string c] 9)).trans (hb1.mono (by simp))
    go_wp2_with (go_at_call 23; refine (HS.out _ _ (HR.out w1)).mono ?_; rintro e w2 ⟨rfl, hb2⟩)
    have B2 := (B1.alloc B1.size (.cells #[.string a, .string b, .string c] 9)).trans (hb2.mono (by have := B1.size; simp; omega))
    go_ret2
    exact ⟨rfl, B2⟩
  · have HU := Lib.hid (fun (W : World) (v : Value) (h : StrsIn W v [a, b, c]) => l04Units_no v [a, b, c] W h hm hbig)
    clear hm hbig
    go_enter Try.func13, Try.ntmps13
    go_wp2_with (go_at_call 22; refine (HU.out _ _ (HR.out w)).mono ?_; rintro e w1 ⟨rfl, hb1⟩)
    have B1 := ((Below.refl w.heap.size w).alloc (Nat.le_refl _) (.cells #[.string a, .string b, .string c] 9)).trans (hb1.mono (by simp))
    go_ret2
    exact ⟨rfl, B1⟩
theorem implUpd_any (a b c R : ByteArray) (k : Int) (w : World) (ha : a.size ≤ 1048576) (hb : b.size ≤ 1048576) (hc : c.size ≤ 1048576) (hE : XorEnds [a, b, c] R k) :
    Calls Try.prog 14 #[.string a, .string b, .string c] w (XorPost R k w) := by
  have HX := Lib.hid (xorOf_any (.slice (some ⟨w.heap.size, 0, none⟩) 3 3) [a, b, c] R k _ (three_reads w a b c) (three_small (by omega) (by omega) (by omega)) hE)
  clear hE
  go_enter Try.func14, Try.ntmps14
  go_wp2_with (go_at_call 25; refine HX.out.mono ?_; rintro e w1 ⟨rfl, hb1⟩)
  go_ret2
  exact ⟨rfl, ((Below.refl w.heap.size w).alloc (Nat.le_refl _) _).trans (hb1.mono (by simp))⟩
end Go.Proofs.Ytegjppihopncoad
