/- Error correction in the program: check bytes, syndromes and decoding: the contracts. The table of masks is a hypothesis on its cells. -/
import Derived.Test.YteigdjocjcjkiaaDoorProg
import Derived.Test.YteigdjocjcjkiaaDoorDecN
import Derived.Test.YteigdjocjcjkiaaDoorEccI
import Derived.Test.YteigdjocjcjkiaaDoorCorI
namespace Go.Proofs.YteigdjocjcjkiaaDoor
open Go.RowKit

theorem cw_of {x : Nat} (c : Nat) (hx : x < 2 ^ 64) : cw (x + 2 ^ 64 * c) = #[.int .u64 x, .int .u8 c] := by
  unfold cw; rw [lo_of _ hx, hi_of _ hx]
set_option maxRecDepth 100000 in
theorem implCheck_yes (x : Nat) (w : World) (hx : x < 2 ^ 64) (hT : MaskTab w) :
    Calls Tryd.prog 11 #[.string (wStr x)] w fun e w' => e = .returned (.int .i64 (chkN x : Nat)) ∧ Below w.heap.size w w' := by
  have hl : lowN x < 128 := synN_lt x
  have h0 : x < 2 ^ 72 := by omega
  have h1 : x + 2 ^ 64 * lowN x < 2 ^ 72 := by omega
  have hp := parN_lt (x + 2 ^ 64 * lowN x)
  have hC := fun (W : World) => codewordOf_yes x W h0
  have hS := fun (W : World) (hT : MaskTab W) => syn_cw x W h0 hT
  have hP := fun (W : World) => par_cw (x + 2 ^ 64 * lowN x) W h1
  have hcw : cw x = #[.int .u64 x, .int .u8 (0 : Nat)] := by
    have := cw_of 0 hx
    rwa [Nat.mul_zero, Nat.add_zero] at this
  rw [hcw] at hC hS
  rw [show lo x = x by unfold lo; omega, show hi x = 0 by unfold hi; omega] at hC
  rw [cw_of _ hx] at hP
  have hE := chk_or x
  have hSL : synN x = lowN x := rfl
  rw [hSL] at hS
  clear hSL hcw
  generalize parN (x + 2 ^ 64 * lowN x) = P at *
  generalize chkN x = C at *
  generalize lowN x = L at *
  generalize wStr x = s at *
  have HE : Hid (bits .or .i64 (L : Nat) ((P : Nat) * 128) = ((C : Nat) : Int)) := by
    show _ = _
    have e := i64_or_nat L (P * 128) (by omega) (by omega)
    rw [hE, Int.natCast_mul] at e
    exact e
  have HC := Lib.hid hC
  have HS := Lib.hid hS
  have HP := Lib.hid hP
  have HT := Lib.hid hT
  clear hC hS hP hE h0 h1 hT
  go_enter Tryd.func11, Tryd.ntmps11
  go_wp2_with (first
    | (go_at_call 17; refine (HC.out _).mono ?_; rintro e w1 ⟨rfl, hb1⟩)
    | (
      go_at_call 20
      refine (HS.out _ (HT.out.below (hb1.alloc hb1.size _) (Nat.le_refl _))).mono ?_
      rintro e w2 ⟨rfl, hb2⟩
      have r1 : Row w2 w1.heap.size 45 #[.int .u64 x, .int .u8 (0 : Nat)] := Row.below (heap_alloc_new w1 _) hb2 (by simp)
      have c0 := r1.cell 0
      have c1 := r1.cell 1
      have f1 := r1.free 1
      simp only [List.getElem?_toArray, List.getElem?_cons_zero, List.getElem?_cons_succ] at c0 c1
      have R1 := Lib.hid r1
      clear r1))
  have r2 : Row (w2.setCell ⟨w1.heap.size, 1, none⟩ (.int .u8 (L : Nat))) w1.heap.size 45 #[.int .u64 x, .int .u8 L] := R1.out.set_ 1 _
  have hr := r2.range
  have hz1 := hb1.size
  have hz2 := hb2.size
  simp at hz2
  have hbw : Below w.heap.size w (w2.setCell ⟨w1.heap.size, 1, none⟩ (.int .u8 (L : Nat))) := ((hb1.alloc hb1.size _).trans (hb2.mono (by simp; omega))).setCell (by simp; omega) _
  have hsz : w1.heap.size < (w2.setCell ⟨w1.heap.size, 1, none⟩ (.int .u8 (L : Nat))).heap.size := by simp; omega
  clear r2 c0 c1 f1 hb1 hb2
  generalize w2.setCell ⟨w1.heap.size, 1, none⟩ (.int .u8 (L : Nat)) = w3 at *
  generalize w1.heap.size = b at *
  have hu := Tryd.underlying45
  have hin := infoCw
  refine wp_region_held_drew (S := fun w' => w'.rangeAt b 0 [.int .u64 x, .int .u8 L]) (by kernel_rfl) hr (fun hHeld => ?_)
  refine wpAnyH_take (i := 0) (oi := _) (v := .pointer (some ⟨b, 1, none⟩)) rfl (by kernel_rfl) (by kernel_rfl) (by kernel_rfl) (fun _ _ _ h => h) (Or.inl ⟨by rfl, fun w hSw => by go_simp⟩) hHeld ?_
  refine wpAnyH_take (i := 1) (oi := _) (v := .pointer (some ⟨b, 1, none⟩)) rfl (by kernel_rfl) (by kernel_rfl) (by kernel_rfl) (fun _ _ _ h => h) (Or.inl ⟨by rfl, fun w hSw => by go_simp⟩) hHeld ?_
  refine wpAnyH_take (i := 2) (oi := _) (v := .int .u8 (L : Int)) rfl (by kernel_rfl) (by kernel_rfl) (by kernel_rfl) (fun _ _ _ h => h) (Or.inl ⟨by rfl, fun w hSw => by have hc := hSw 1 _ rfl; rw [Nat.zero_add] at hc; go_simp⟩) hHeld ?_
  refine wpAnyH_take (i := 3) (oi := _) (v := .int .i64 (L : Int)) rfl (by kernel_rfl) (by kernel_rfl) (by kernel_rfl) (fun _ _ _ h => h) (Or.inl ⟨by rfl, fun w hSw => by go_simp; exact IntWalk.i64_in _ (by omega)⟩) hHeld ?_
  refine wpAnyH_take (i := 4) (oi := _) (v := .agg #[.int .u64 x, .int .u8 L]) rfl (by kernel_rfl) (by kernel_rfl) (by kernel_rfl) (fun _ _ _ h => h) (yieldsIf_load_mid (by rfl) _ _ rfl _ _ rfl [.int .u64 x, .int .u8 L] _ (fun _ h => h) hu rfl hin) hHeld ?_
  refine wpAnyH_ready (rs := [5]) (by kernel_rfl) (by simp) ?_
  refine AllReadyH.cons (o := _) rfl (fun K hK => ?_) AllReadyH.nil
  go_simp
  go_at_call 21
  refine (HP.out _).mono ?_
  rintro e w4 ⟨rfl, hb4⟩
  refine hK.out _ _ (range_below hHeld hb4 hsz) (fun hHeld => ?_)
  clear hK K
  have hPi : (P : Int) ≤ 1 := by omega
  refine wpAnyH_take (i := 6) (oi := _) (v := .int .i64 ((P : Int) * 128)) rfl (by kernel_rfl) (by kernel_rfl) (by kernel_rfl) (fun _ _ _ h => h) (Or.inl ⟨by rfl, fun w hSw => by go_simp; exact IntWalk.i64_in _ (by omega)⟩) hHeld ?_
  refine wpAnyH_take (i := 7) (oi := _) (v := .int .i64 (C : Int)) rfl (by kernel_rfl) (by kernel_rfl) (by kernel_rfl) (fun _ _ _ h => h) (Or.inl ⟨by rfl, fun w hSw => by go_simp; rw [HE.out]⟩) hHeld ?_
  refine wpAnyH_take (i := 8) (oi := _) (v := .int .i64 (C : Int)) rfl (by kernel_rfl) (by kernel_rfl) (by kernel_rfl) (fun _ _ _ h => h) (Or.inl ⟨by rfl, fun w hSw => by go_simp⟩) hHeld ?_
  refine wpAnyH_done (by kernel_rfl) ?_ _
  go_wp2
  go_ret
  exact ⟨rfl, hbw.drew.trans (hb4.mono hbw.size)⟩
theorem implCheck_no (s : ByteArray) (w : World) (hs : s.size ≠ 8) :
    Calls Tryd.prog 11 #[.string s] w fun e w' => e = .returned (.int .i64 (-1)) ∧ Below w.heap.size w w' := by
  go_enter Tryd.func11, Tryd.ntmps11
  go_wp2_with (go_at_call 17; refine (codewordOf_no _ _ _ (.inl hs)).mono ?_; rintro e w1 ⟨rfl, hb1⟩)
  go_ret
  exact ⟨rfl, hb1.alloc hb1.size _⟩
end Go.Proofs.YteigdjocjcjkiaaDoor
