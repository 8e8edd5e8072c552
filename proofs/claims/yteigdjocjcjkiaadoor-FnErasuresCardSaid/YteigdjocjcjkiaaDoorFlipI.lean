/- A bit of a codeword inverted: the exported function, in the model and in the program. -/
import Derived.Test.YteigdjocjcjkiaaDoorProg
import Derived.Test.YteigdjocjcjkiaaDoorFlipS
import Derived.Test.YteigdjocjcjkiaaDoorCwI
import Derived.Test.YteigdjocjcjkiaaDoorDecN
namespace Go.Proofs.YteigdjocjcjkiaaDoor
open Go.RowKit

def BitPost (s : ByteArray) (k c : Int) (w : World) (e : Ending) (w' : World) : Prop := e = .returned (.tuple #[.string s, .int .i64 k, .int .i64 c]) ∧ Below w.heap.size w w'
set_option maxRecDepth 100000 in
theorem implFlip_yes (X b : Nat) (w : World) (hX : X < 2 ^ 72) (hb : b < 72) :
    Calls Tryd.prog 13 #[.string (wStr (lo X)), .int .i64 (hi X : Nat), .int .i64 b] w (BitPost (wStr (lo (X ^^^ 2 ^ b))) (hi (X ^^^ 2 ^ b) : Nat) 0 w) := by
  have hC := fun (W : World) => codewordOf_yes X W hX
  have hF := fun (W : World) => flip_cw X b W hX hb
  have hT := fun (W : World) => text_any (X ^^^ 2 ^ b) W
  have hk := hi_lt (flip_lt hX hb)
  unfold cw at hC hF hT
  generalize wStr (lo (X ^^^ 2 ^ b)) = t at *
  generalize lo (X ^^^ 2 ^ b) = y at *
  generalize hi (X ^^^ 2 ^ b) = k at *
  generalize wStr (lo X) = s at *
  generalize lo X = x at *
  generalize hi X = c at *
  have HC := Lib.hid hC
  have HF := Lib.hid hF
  have HT := Lib.hid hT
  clear hC hF hT
  have hbi : (b : Int) < 72 := by omega
  go_enter Tryd.func13, Tryd.ntmps13
  go_wp2_with (first
    | (go_at_call 17; refine (HC.out _).mono ?_; rintro e w1 ⟨rfl, hb1⟩)
    | (
      go_at_call 19
      refine (HF.out _).mono ?_
      rintro e w2 ⟨rfl, hb2⟩
      have r1 : Row w2 w1.heap.size 45 #[.int .u64 x, .int .u8 c] := Row.below (heap_alloc_new w1 _) hb2 (by simp)
      have c0 := r1.cell 0
      have c1 := r1.cell 1
      have f0 := r1.free 0
      have f1 := r1.free 1
      simp only [List.getElem?_toArray, List.getElem?_cons_zero, List.getElem?_cons_succ] at c0 c1
      have R1 := Lib.hid r1
      clear r1))
  have r2 : Row ((w2.setCell ⟨w1.heap.size, 0, none⟩ (.int .u64 (y : Nat))).setCell ⟨w1.heap.size, 1, none⟩ (.int .u8 (k : Nat))) w1.heap.size 45 #[.int .u64 y, .int .u8 k] := (R1.out.set_ 0 _).set_ 1 _
  have hr := r2.range
  have hz1 := hb1.size
  have hz2 := hb2.size
  simp at hz2
  have hbw : Below w.heap.size w ((w2.setCell ⟨w1.heap.size, 0, none⟩ (.int .u64 (y : Nat))).setCell ⟨w1.heap.size, 1, none⟩ (.int .u8 (k : Nat))) := (((hb1.alloc hb1.size _).trans (hb2.mono (by simp; omega))).setCell (by simp; omega) _).setCell (by simp; omega) _
  have hsz : w1.heap.size < ((w2.setCell ⟨w1.heap.size, 0, none⟩ (.int .u64 (y : Nat))).setCell ⟨w1.heap.size, 1, none⟩ (.int .u8 (k : Nat))).heap.size := by simp; omega
  clear r2 c0 c1 f0 f1 hb1 hb2
  generalize (w2.setCell ⟨w1.heap.size, 0, none⟩ (.int .u64 (y : Nat))).setCell ⟨w1.heap.size, 1, none⟩ (.int .u8 (k : Nat)) = w3 at *
  generalize w1.heap.size = g at *
  have hu := Tryd.underlying45
  have hin := infoCw'
  refine wp_region_held_drew (S := fun w' => w'.rangeAt g 0 [.int .u64 y, .int .u8 k]) (by kernel_rfl) hr (fun hHeld => ?_)
  refine wpAnyH_take (i := 0) (oi := _) (v := .agg #[.int .u64 y, .int .u8 k]) rfl (by kernel_rfl) (by kernel_rfl) (by kernel_rfl) (fun _ _ _ h => h) (yieldsIf_load_mid (by rfl) _ _ rfl _ _ rfl [.int .u64 y, .int .u8 k] _ (fun _ h => h) hu rfl hin) hHeld ?_
  refine wpAnyH_take (i := 2) (oi := _) (v := .pointer (some ⟨g, 1, none⟩)) rfl (by kernel_rfl) (by kernel_rfl) (by kernel_rfl) (fun _ _ _ h => h) (Or.inl ⟨by rfl, fun w hSw => by go_simp⟩) hHeld ?_
  refine wpAnyH_take (i := 3) (oi := _) (v := .pointer (some ⟨g, 1, none⟩)) rfl (by kernel_rfl) (by kernel_rfl) (by kernel_rfl) (fun _ _ _ h => h) (Or.inl ⟨by rfl, fun w hSw => by go_simp⟩) hHeld ?_
  refine wpAnyH_take (i := 4) (oi := _) (v := .int .u8 (k : Int)) rfl (by kernel_rfl) (by kernel_rfl) (by kernel_rfl) (fun _ _ _ h => h) (Or.inl ⟨by rfl, fun w hSw => by have hc := hSw 1 _ rfl; rw [Nat.zero_add] at hc; go_simp⟩) hHeld ?_
  refine wpAnyH_take (i := 5) (oi := _) (v := .int .i64 (k : Int)) rfl (by kernel_rfl) (by kernel_rfl) (by kernel_rfl) (fun _ _ _ h => h) (Or.inl ⟨by rfl, fun w hSw => by go_simp; exact IntWalk.i64_in _ (by omega)⟩) hHeld ?_
  refine wpAnyH_ready (rs := [1]) (by kernel_rfl) (by simp) ?_
  refine AllReadyH.cons (o := _) rfl (fun K hK => ?_) AllReadyH.nil
  go_simp
  go_at_call 22
  refine (HT.out _).mono ?_
  rintro e w4 ⟨rfl, hb4⟩
  refine hK.out _ _ (range_below hHeld hb4 hsz) (fun hHeld => ?_)
  clear hK K
  refine wpAnyH_take (i := 6) (oi := _) (v := .string t) rfl (by kernel_rfl) (by kernel_rfl) (by kernel_rfl) (fun _ _ _ h => h) (Or.inl ⟨by rfl, fun w hSw => by go_simp⟩) hHeld ?_
  refine wpAnyH_take (i := 7) (oi := _) (v := .int .i64 (k : Int)) rfl (by kernel_rfl) (by kernel_rfl) (by kernel_rfl) (fun _ _ _ h => h) (Or.inl ⟨by rfl, fun w hSw => by go_simp⟩) hHeld ?_
  refine wpAnyH_take (i := 8) (oi := _) (v := .int .i64 0) rfl (by kernel_rfl) (by kernel_rfl) (by kernel_rfl) (fun _ _ _ h => h) (Or.inl ⟨by rfl, fun w hSw => by go_simp⟩) hHeld ?_
  refine wpAnyH_done (by kernel_rfl) ?_ _
  go_wp2
  go_ret3
  exact ⟨rfl, hbw.drew.trans (hb4.mono hbw.size)⟩
end Go.Proofs.YteigdjocjcjkiaaDoor
