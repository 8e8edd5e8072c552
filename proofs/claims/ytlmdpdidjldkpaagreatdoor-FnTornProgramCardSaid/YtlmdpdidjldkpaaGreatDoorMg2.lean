/- The proof's own lemmas, part 3 of 8: DecI EccS FlipS DecS EncS Sl Fp DrP DrR FlM Rw Strs FlA. -/
import Derived.Test.YtlmdpdidjldkpaaGreatDoorProg
import Derived.Test.YtlmdpdidjldkpaaGreatDoorMg1
import Derived.Test.YtlmdpdidjldkpaaGreatDoorMg0
import Derived.ProofKit
import Derived.Lib.Hide
import Derived.BigQuiet
import Derived.Deep.QuietTactic
import Derived.Deep.DeepMust
import Derived.WalkKit
import Derived.Laws.MakeOwn
/- Error correction in the program: check bytes, syndromes and decoding: the contracts. The table of masks is a hypothesis on its cells. -/
namespace Go.Proofs.YtlmdpdidjldkpaaGreatDoor
open Go.RowKit

theorem cw_of {x : Nat} (c : Nat) (hx : x < 2 ^ 64) : cw (x + 2 ^ 64 * c) = #[.int .u64 x, .int .u8 c] := by
  unfold cw; rw [lo_of _ hx, hi_of _ hx]
set_option maxRecDepth 100000 in
theorem implCheck_yes (x : Nat) (w : World) (hx : x < 2 ^ 64) (hT : MaskTab w) :
    Calls Tryz.prog 54 #[.string (wStr x)] w fun e w' => e = .returned (.int .i64 (chkN x : Nat)) ∧ Below w.heap.size w w' := by
  have hl : lowN x < 128 := synN_lt x
  have h0 : x < 2 ^ 72 := by omega
  have h1 : x + 2 ^ 64 * lowN x < 2 ^ 72 := by omega
  have hp := parN_lt (x + 2 ^ 64 * lowN x)
  have hC := fun (W : World) => codewordOf_yes x W h0
  have hS := fun (W : World) (hT : MaskTab W) => syn_cw x W h0 hT
  have hP := fun (W : World) => par_cw (x + 2 ^ 64 * lowN x) W h1
  have hcw : cw x = #[.int .u64 x, .int .u8 (0 : Nat)] := by
    have := cw_of 0 hx
    rwa [Nat.mul_zero, Nat.add_zero] at this
  rw [hcw] at hC hS
  rw [show lo x = x by unfold lo; omega, show hi x = 0 by unfold hi; omega] at hC
  rw [cw_of _ hx] at hP
  have hE := chk_or x
  have hSL : synN x = lowN x := rfl
  rw [hSL] at hS
  clear hSL hcw
  generalize parN (x + 2 ^ 64 * lowN x) = P at *
  generalize chkN x = C at *
  generalize lowN x = L at *
  generalize wStr x = s at *
  have HE : Hid (bits .or .i64 (L : Nat) ((P : Nat) * 128) = ((C : Nat) : Int)) := by
    show _ = _
    have e := i64_or_nat L (P * 128) (by omega) (by omega)
    rw [hE, Int.natCast_mul] at e
    exact e
  have HC := Lib.hid hC
  have HS := Lib.hid hS
  have HP := Lib.hid hP
  have HT := Lib.hid hT
  clear hC hS hP hE h0 h1 hT
  go_enter Tryz.func54, Tryz.ntmps54
  go_wp2_with (first
    | (go_at_call 70; refine (HC.out _).mono ?_; rintro e w1 ⟨rfl, hb1⟩)
    | (
      go_at_call 71
      refine (HS.out _ (HT.out.below (hb1.alloc hb1.size _) (Nat.le_refl _))).mono ?_
      rintro e w2 ⟨rfl, hb2⟩
      have r1 : Row w2 w1.heap.size 100 #[.int .u64 x, .int .u8 (0 : Nat)] := Row.below (heap_alloc_new w1 _) hb2 (by simp)
      have c0 := r1.cell 0
      have c1 := r1.cell 1
      have f1 := r1.free 1
      simp only [List.getElem?_toArray, List.getElem?_cons_zero, List.getElem?_cons_succ] at c0 c1
      have R1 := Lib.hid r1
      clear r1))
  have r2 : Row (w2.setCell ⟨w1.heap.size, 1, none⟩ (.int .u8 (L : Nat))) w1.heap.size 100 #[.int .u64 x, .int .u8 L] := R1.out.set_ 1 _
  have hr := r2.range
  have hz1 := hb1.size
  have hz2 := hb2.size
  simp at hz2
  have hbw : Below w.heap.size w (w2.setCell ⟨w1.heap.size, 1, none⟩ (.int .u8 (L : Nat))) := ((hb1.alloc hb1.size _).trans (hb2.mono (by simp; omega))).setCell (by simp; omega) _
  have hsz : w1.heap.size < (w2.setCell ⟨w1.heap.size, 1, none⟩ (.int .u8 (L : Nat))).heap.size := by simp; omega
  clear r2 c0 c1 f1 hb1 hb2
  generalize w2.setCell ⟨w1.heap.size, 1, none⟩ (.int .u8 (L : Nat)) = w3 at *
  generalize w1.heap.size = b at *
  have hu := Tryz.underlying100
  have hin := infoCw
  refine wp_region_held_drew (S := fun w' => w'.rangeAt b 0 [.int .u64 x, .int .u8 L]) (by kernel_rfl) hr (fun hHeld => ?_)
  refine wpAnyH_take (i := 0) (oi := _) (v := .pointer (some ⟨b, 1, none⟩)) rfl (by kernel_rfl) (by kernel_rfl) (by kernel_rfl) (fun _ _ _ h => h) (Or.inl ⟨by rfl, fun w hSw => by go_simp⟩) hHeld ?_
  refine wpAnyH_take (i := 1) (oi := _) (v := .pointer (some ⟨b, 1, none⟩)) rfl (by kernel_rfl) (by kernel_rfl) (by kernel_rfl) (fun _ _ _ h => h) (Or.inl ⟨by rfl, fun w hSw => by go_simp⟩) hHeld ?_
  refine wpAnyH_take (i := 2) (oi := _) (v := .int .u8 (L : Int)) rfl (by kernel_rfl) (by kernel_rfl) (by kernel_rfl) (fun _ _ _ h => h) (Or.inl ⟨by rfl, fun w hSw => by have hc := hSw 1 _ rfl; rw [Nat.zero_add] at hc; go_simp⟩) hHeld ?_
  refine wpAnyH_take (i := 3) (oi := _) (v := .int .i64 (L : Int)) rfl (by kernel_rfl) (by kernel_rfl) (by kernel_rfl) (fun _ _ _ h => h) (Or.inl ⟨by rfl, fun w hSw => by go_simp; exact IntWalk.i64_in _ (by omega)⟩) hHeld ?_
  refine wpAnyH_take (i := 4) (oi := _) (v := .agg #[.int .u64 x, .int .u8 L]) rfl (by kernel_rfl) (by kernel_rfl) (by kernel_rfl) (fun _ _ _ h => h) (yieldsIf_load_mid (by rfl) _ _ rfl _ _ rfl [.int .u64 x, .int .u8 L] _ (fun _ h => h) hu rfl hin) hHeld ?_
  refine wpAnyH_ready (rs := [5]) (by kernel_rfl) (by simp) ?_
  refine AllReadyH.cons (o := _) rfl (fun K hK => ?_) AllReadyH.nil
  go_simp
  go_at_call 72
  refine (HP.out _).mono ?_
  rintro e w4 ⟨rfl, hb4⟩
  refine hK.out _ _ (range_below hHeld hb4 hsz) (fun hHeld => ?_)
  clear hK K
  have hPi : (P : Int) ≤ 1 := by omega
  refine wpAnyH_take (i := 6) (oi := _) (v := .int .i64 ((P : Int) * 128)) rfl (by kernel_rfl) (by kernel_rfl) (by kernel_rfl) (fun _ _ _ h => h) (Or.inl ⟨by rfl, fun w hSw => by go_simp; exact IntWalk.i64_in _ (by omega)⟩) hHeld ?_
  refine wpAnyH_take (i := 7) (oi := _) (v := .int .i64 (C : Int)) rfl (by kernel_rfl) (by kernel_rfl) (by kernel_rfl) (fun _ _ _ h => h) (Or.inl ⟨by rfl, fun w hSw => by go_simp; rw [HE.out]⟩) hHeld ?_
  refine wpAnyH_take (i := 8) (oi := _) (v := .int .i64 (C : Int)) rfl (by kernel_rfl) (by kernel_rfl) (by kernel_rfl) (fun _ _ _ h => h) (Or.inl ⟨by rfl, fun w hSw => by go_simp⟩) hHeld ?_
  refine wpAnyH_done (by kernel_rfl) ?_ _
  go_wp2
  go_ret
  exact ⟨rfl, hbw.drew.trans (hb4.mono hbw.size)⟩
theorem implCheck_no (s : ByteArray) (w : World) (hs : s.size ≠ 8) :
    Calls Tryz.prog 54 #[.string s] w fun e w' => e = .returned (.int .i64 (-1)) ∧ Below w.heap.size w w' := by
  go_enter Tryz.func54, Tryz.ntmps54
  go_wp2_with (go_at_call 70; refine (codewordOf_no _ _ _ (.inl hs)).mono ?_; rintro e w1 ⟨rfl, hb1⟩)
  go_ret
  exact ⟨rfl, hb1.alloc hb1.size _⟩
def WordPost (s : ByteArray) (n c : Int) (w : World) (e : Ending) (w' : World) : Prop := e = .returned (.tuple #[.string s, .int .i64 n, .int .i64 c]) ∧ Below w.heap.size w w'
set_option maxRecDepth 100000 in
theorem implDec_good (X : Nat) (w : World) (hX : X < 2 ^ 72) (hT : MaskTab w) (h : good X = true) :
    Calls Tryz.prog 60 #[.string (wStr (lo X)), .int .i64 (hi X : Nat)] w (WordPost (wStr (lo X)) 0 0 w) := by
  obtain ⟨h1, h2⟩ := (good_iff X).1 h
  have HC := Lib.hid (fun (W : World) => codewordOf_yes X W hX)
  have HS := Lib.hid (fun (W : World) (hT : MaskTab W) => syn_cw X W hX hT)
  have HP := Lib.hid (fun (W : World) => par_cw X W hX)
  have HT := Lib.hid hT
  clear hT
  unfold cw at HC HS HP
  rw [h1] at HS
  rw [h2] at HP
  clear h h1 h2
  generalize wStr (lo X) = s at *
  go_enter Tryz.func60, Tryz.ntmps60
  go_wp2_with (go_at_call 70; refine (HC.out _).mono ?_; rintro e w1 ⟨rfl, hb1⟩)
  have r1 : Row (w1.alloc (.cells #[.int .u64 (lo X : Nat), .int .u8 (hi X : Nat)] 100)) w1.heap.size 100 #[.int .u64 (lo X : Nat), .int .u8 (hi X : Nat)] := heap_alloc_new w1 _
  have hr := r1.range
  have hz1 := hb1.size
  have hbw : Below w.heap.size w (w1.alloc (.cells #[.int .u64 (lo X : Nat), .int .u8 (hi X : Nat)] 100)) := hb1.alloc hb1.size _
  have hsz : w1.heap.size < (w1.alloc (.cells #[.int .u64 (lo X : Nat), .int .u8 (hi X : Nat)] 100)).heap.size := by simp
  have hT2 := HT.out.below hbw (Nat.le_refl _)
  have HT2 := Lib.hid (show MaskTab (w1.alloc (.cells #[.int .u64 (lo X : Nat), .int .u8 (hi X : Nat)] 100)).drew from hT2)
  clear r1 hb1 hT2
  have hu := Tryz.underlying100
  have hin : (Tryz.prog.info? 100).map (·.size) = some [Value.int .u64 (lo X : Nat), .int .u8 (hi X : Nat)].length := infoCw
  generalize hw3 : w1.alloc (.cells #[.int .u64 (lo X : Nat), .int .u8 (hi X : Nat)] 100) = w3 at *
  clear hw3
  generalize w1.heap.size = b at *
  refine wp_region_held_drew (S := fun w' => w'.rangeAt b 0 [.int .u64 (lo X : Nat), .int .u8 (hi X : Nat)]) (by kernel_rfl) hr (fun hHeld => ?_)
  refine wpAnyH_take (i := 0) (oi := _) (v := .agg #[.int .u64 (lo X : Nat), .int .u8 (hi X : Nat)]) rfl (by kernel_rfl) (by kernel_rfl) (by kernel_rfl) (fun _ _ _ h => h) (yieldsIf_load_mid (by rfl) _ _ rfl _ _ rfl [.int .u64 (lo X : Nat), .int .u8 (hi X : Nat)] _ (fun _ h => h) hu rfl hin) hHeld ?_
  refine wpAnyH_take (i := 2) (oi := _) (v := .agg #[.int .u64 (lo X : Nat), .int .u8 (hi X : Nat)]) rfl (by kernel_rfl) (by kernel_rfl) (by kernel_rfl) (fun _ _ _ h => h) (yieldsIf_load_mid (by rfl) _ _ rfl _ _ rfl [.int .u64 (lo X : Nat), .int .u8 (hi X : Nat)] _ (fun _ h => h) hu rfl hin) hHeld ?_
  refine wpAnyH_ready (rs := [1]) (by kernel_rfl) (by simp) ?_
  refine AllReadyH.cons (o := _) rfl (fun K hK => ?_) AllReadyH.nil
  go_simp
  go_at_call 71
  refine (HS.out _ HT2.out).mono ?_
  rintro e w4 ⟨rfl, hb4⟩
  have hr4 := range_below hHeld hb4 hsz
  refine hK.out _ _ hr4 (fun hHeld => ?_)
  clear hK K
  refine wpAnyH_ready (rs := [3]) (by kernel_rfl) (by simp) ?_
  refine AllReadyH.cons (o := _) rfl (fun K hK => ?_) AllReadyH.nil
  go_simp
  go_at_call 72
  refine (HP.out _).mono ?_
  rintro e w5 ⟨rfl, hb5⟩
  refine hK.out _ _ (range_below hr4 hb5 (Nat.lt_of_lt_of_le hsz hb4.size)) (fun hHeld => ?_)
  clear hK K
  refine wpAnyH_take (i := 4) (oi := _) (v := .int .i64 (0 : Int)) rfl (by kernel_rfl) (by kernel_rfl) (by kernel_rfl) (fun _ _ _ h => h) (Or.inl ⟨by rfl, fun w hSw => by go_simp⟩) hHeld ?_
  refine wpAnyH_take (i := 5) (oi := _) (v := .int .i64 (0 : Int)) rfl (by kernel_rfl) (by kernel_rfl) (by kernel_rfl) (fun _ _ _ h => h) (Or.inl ⟨by rfl, fun w hSw => by go_simp⟩) hHeld ?_
  refine wpAnyH_done (by kernel_rfl) ?_ _
  have hB5 : Below w.heap.size w w5 := (hbw.drew.trans (hb4.mono hbw.size)).trans (hb5.mono (Nat.le_trans hbw.size hb4.size))
  clear hb4 hb5 hr4 hbw hHeld
  go_wp2
  go_ret3
  exact ⟨rfl, hB5⟩
set_option maxRecDepth 100000 in
theorem implDec_one (X : Nat) (w : World) (hX : X < 2 ^ 72) (hT : MaskTab w) (h : One X) :
    Calls Tryz.prog 60 #[.string (wStr (lo X)), .int .i64 (hi X : Nat)] w (WordPost (wStr (lo (fixN X))) 1 0 w) := by
  have hsy : (synN X : Int) ≤ 71 := by have := h.2; omega
  have HK := Lib.hid (fun (W : World) => correct_any X W hX h)
  have HX := Lib.hid (fun (Y : Nat) (W : World) => text_any Y W)
  have HC := Lib.hid (fun (W : World) => codewordOf_yes X W hX)
  have HS := Lib.hid (fun (W : World) (hT : MaskTab W) => syn_cw X W hX hT)
  have HP := Lib.hid (fun (W : World) => par_cw X W hX)
  have HT := Lib.hid hT
  clear hT
  unfold cw at HC HS HP
  rw [h.1] at HP
  clear h
  generalize synN X = S at *
  generalize lo (fixN X) = R at *
  generalize wStr (lo X) = s at *
  go_enter Tryz.func60, Tryz.ntmps60
  go_wp2_with (go_at_call 70; refine (HC.out _).mono ?_; rintro e w1 ⟨rfl, hb1⟩)
  have r1 : Row (w1.alloc (.cells #[.int .u64 (lo X : Nat), .int .u8 (hi X : Nat)] 100)) w1.heap.size 100 #[.int .u64 (lo X : Nat), .int .u8 (hi X : Nat)] := heap_alloc_new w1 _
  have hr := r1.range
  have hz1 := hb1.size
  have hbw : Below w.heap.size w (w1.alloc (.cells #[.int .u64 (lo X : Nat), .int .u8 (hi X : Nat)] 100)) := hb1.alloc hb1.size _
  have hsz : w1.heap.size < (w1.alloc (.cells #[.int .u64 (lo X : Nat), .int .u8 (hi X : Nat)] 100)).heap.size := by simp
  have hT2 := HT.out.below hbw (Nat.le_refl _)
  have HT2 := Lib.hid (show MaskTab (w1.alloc (.cells #[.int .u64 (lo X : Nat), .int .u8 (hi X : Nat)] 100)).drew from hT2)
  clear r1 hb1 hT2
  have hu := Tryz.underlying100
  have hin : (Tryz.prog.info? 100).map (·.size) = some [Value.int .u64 (lo X : Nat), .int .u8 (hi X : Nat)].length := infoCw
  generalize hw3 : w1.alloc (.cells #[.int .u64 (lo X : Nat), .int .u8 (hi X : Nat)] 100) = w3 at *
  clear hw3
  generalize w1.heap.size = b at *
  refine wp_region_held_drew (S := fun w' => w'.rangeAt b 0 [.int .u64 (lo X : Nat), .int .u8 (hi X : Nat)]) (by kernel_rfl) hr (fun hHeld => ?_)
  refine wpAnyH_take (i := 0) (oi := _) (v := .agg #[.int .u64 (lo X : Nat), .int .u8 (hi X : Nat)]) rfl (by kernel_rfl) (by kernel_rfl) (by kernel_rfl) (fun _ _ _ h => h) (yieldsIf_load_mid (by rfl) _ _ rfl _ _ rfl [.int .u64 (lo X : Nat), .int .u8 (hi X : Nat)] _ (fun _ h => h) hu rfl hin) hHeld ?_
  refine wpAnyH_take (i := 2) (oi := _) (v := .agg #[.int .u64 (lo X : Nat), .int .u8 (hi X : Nat)]) rfl (by kernel_rfl) (by kernel_rfl) (by kernel_rfl) (fun _ _ _ h => h) (yieldsIf_load_mid (by rfl) _ _ rfl _ _ rfl [.int .u64 (lo X : Nat), .int .u8 (hi X : Nat)] _ (fun _ h => h) hu rfl hin) hHeld ?_
  refine wpAnyH_ready (rs := [1]) (by kernel_rfl) (by simp) ?_
  refine AllReadyH.cons (o := _) rfl (fun K hK => ?_) AllReadyH.nil
  go_simp
  go_at_call 71
  refine (HS.out _ HT2.out).mono ?_
  rintro e w4 ⟨rfl, hb4⟩
  have hr4 := range_below hHeld hb4 hsz
  refine hK.out _ _ hr4 (fun hHeld => ?_)
  clear hK K
  refine wpAnyH_ready (rs := [3]) (by kernel_rfl) (by simp) ?_
  refine AllReadyH.cons (o := _) rfl (fun K hK => ?_) AllReadyH.nil
  go_simp
  go_at_call 72
  refine (HP.out _).mono ?_
  rintro e w5 ⟨rfl, hb5⟩
  refine hK.out _ _ (range_below hr4 hb5 (Nat.lt_of_lt_of_le hsz hb4.size)) (fun hHeld => ?_)
  clear hK K
  refine wpAnyH_take (i := 4) (oi := _) (v := .int .i64 (S : Int)) rfl (by kernel_rfl) (by kernel_rfl) (by kernel_rfl) (fun _ _ _ h => h) (Or.inl ⟨by rfl, fun w hSw => by go_simp⟩) hHeld ?_
  refine wpAnyH_take (i := 5) (oi := _) (v := .int .i64 (1 : Int)) rfl (by kernel_rfl) (by kernel_rfl) (by kernel_rfl) (fun _ _ _ h => h) (Or.inl ⟨by rfl, fun w hSw => by go_simp⟩) hHeld ?_
  refine wpAnyH_done (by kernel_rfl) ?_ _
  have hB5 : Below w.heap.size w w5 := (hbw.drew.trans (hb4.mono hbw.size)).trans (hb5.mono (Nat.le_trans hbw.size hb4.size))
  have c0 := hHeld 0 _ rfl
  have c1 := hHeld 1 _ rfl
  simp only [Nat.zero_add] at c0 c1
  clear hb4 hb5 hr4 hbw hHeld hu hin
  unfold cw at HK
  go_wp2_with fail
  refine (HK.out _).mono ?_
  rintro e w6 ⟨Y, rfl, hY, hb6⟩
  subst hY
  have hB6 := hB5.trans (hb6.mono hB5.size)
  clear hB5 hb6
  go_wp2_with fail
  refine (HX.out Y _).mono ?_
  rintro e w7 ⟨rfl, hb7⟩
  have hB7 := hB6.trans (hb7.mono hB6.size)
  clear hB6 hb7
  go_wp2
  go_ret3
  exact ⟨rfl, hB7⟩
set_option maxRecDepth 100000 in
theorem implDec_none (X : Nat) (w : World) (hX : X < 2 ^ 72) (hT : MaskTab w) (h : good X = false) (h2 : ¬ One X) :
    Calls Tryz.prog 60 #[.string (wStr (lo X)), .int .i64 (hi X : Nat)] w (WordPost ⟨#[]⟩ 0 6 w) := by
  have hpl := parN_lt X
  have hc : (parN X = 0 ∧ ((synN X : Int) == 0) = false) ∨ (parN X = 1 ∧ 71 < (synN X : Int)) := by
    by_cases hp : parN X = 1
    · exact .inr ⟨hp, by have : ¬ synN X ≤ 71 := fun h3 => h2 ⟨hp, h3⟩; omega⟩
    · refine .inl ⟨by omega, ?_⟩
      have : synN X ≠ 0 := fun e => by rw [(good_iff X).2 ⟨e, by omega⟩] at h; cases h
      simp; omega
  have HC := Lib.hid (fun (W : World) => codewordOf_yes X W hX)
  have HS := Lib.hid (fun (W : World) (hT : MaskTab W) => syn_cw X W hX hT)
  have HP := Lib.hid (fun (W : World) => par_cw X W hX)
  have HT := Lib.hid hT
  clear hT
  unfold cw at HC HS HP
  clear h h2
  generalize wStr (lo X) = s at *
  generalize synN X = S at *
  generalize parN X = P at *
  rcases hc with ⟨rfl, hc1⟩ | ⟨rfl, hc1⟩
  · go_enter Tryz.func60, Tryz.ntmps60
    go_wp2_with (go_at_call 70; refine (HC.out _).mono ?_; rintro e w1 ⟨rfl, hb1⟩)
    have r1 : Row (w1.alloc (.cells #[.int .u64 (lo X : Nat), .int .u8 (hi X : Nat)] 100)) w1.heap.size 100 #[.int .u64 (lo X : Nat), .int .u8 (hi X : Nat)] := heap_alloc_new w1 _
    have hr := r1.range
    have hz1 := hb1.size
    have hbw : Below w.heap.size w (w1.alloc (.cells #[.int .u64 (lo X : Nat), .int .u8 (hi X : Nat)] 100)) := hb1.alloc hb1.size _
    have hsz : w1.heap.size < (w1.alloc (.cells #[.int .u64 (lo X : Nat), .int .u8 (hi X : Nat)] 100)).heap.size := by simp
    have hT2 := HT.out.below hbw (Nat.le_refl _)
    have HT2 := Lib.hid (show MaskTab (w1.alloc (.cells #[.int .u64 (lo X : Nat), .int .u8 (hi X : Nat)] 100)).drew from hT2)
    clear r1 hb1 hT2
    have hu := Tryz.underlying100
    have hin : (Tryz.prog.info? 100).map (·.size) = some [Value.int .u64 (lo X : Nat), .int .u8 (hi X : Nat)].length := infoCw
    generalize hw3 : w1.alloc (.cells #[.int .u64 (lo X : Nat), .int .u8 (hi X : Nat)] 100) = w3 at *
    clear hw3
    generalize w1.heap.size = b at *
    refine wp_region_held_drew (S := fun w' => w'.rangeAt b 0 [.int .u64 (lo X : Nat), .int .u8 (hi X : Nat)]) (by kernel_rfl) hr (fun hHeld => ?_)
    refine wpAnyH_take (i := 0) (oi := _) (v := .agg #[.int .u64 (lo X : Nat), .int .u8 (hi X : Nat)]) rfl (by kernel_rfl) (by kernel_rfl) (by kernel_rfl) (fun _ _ _ h => h) (yieldsIf_load_mid (by rfl) _ _ rfl _ _ rfl [.int .u64 (lo X : Nat), .int .u8 (hi X : Nat)] _ (fun _ h => h) hu rfl hin) hHeld ?_
    refine wpAnyH_take (i := 2) (oi := _) (v := .agg #[.int .u64 (lo X : Nat), .int .u8 (hi X : Nat)]) rfl (by kernel_rfl) (by kernel_rfl) (by kernel_rfl) (fun _ _ _ h => h) (yieldsIf_load_mid (by rfl) _ _ rfl _ _ rfl [.int .u64 (lo X : Nat), .int .u8 (hi X : Nat)] _ (fun _ h => h) hu rfl hin) hHeld ?_
    refine wpAnyH_ready (rs := [1]) (by kernel_rfl) (by simp) ?_
    refine AllReadyH.cons (o := _) rfl (fun K hK => ?_) AllReadyH.nil
    go_simp
    go_at_call 71
    refine (HS.out _ HT2.out).mono ?_
    rintro e w4 ⟨rfl, hb4⟩
    have hr4 := range_below hHeld hb4 hsz
    refine hK.out _ _ hr4 (fun hHeld => ?_)
    clear hK K
    refine wpAnyH_ready (rs := [3]) (by kernel_rfl) (by simp) ?_
    refine AllReadyH.cons (o := _) rfl (fun K hK => ?_) AllReadyH.nil
    go_simp
    go_at_call 72
    refine (HP.out _).mono ?_
    rintro e w5 ⟨rfl, hb5⟩
    refine hK.out _ _ (range_below hr4 hb5 (Nat.lt_of_lt_of_le hsz hb4.size)) (fun hHeld => ?_)
    clear hK K
    refine wpAnyH_take (i := 4) (oi := _) (v := .int .i64 (S : Int)) rfl (by kernel_rfl) (by kernel_rfl) (by kernel_rfl) (fun _ _ _ h => h) (Or.inl ⟨by rfl, fun w hSw => by go_simp⟩) hHeld ?_
    refine wpAnyH_take (i := 5) (oi := _) (v := .int .i64 (0 : Int)) rfl (by kernel_rfl) (by kernel_rfl) (by kernel_rfl) (fun _ _ _ h => h) (Or.inl ⟨by rfl, fun w hSw => by go_simp⟩) hHeld ?_
    refine wpAnyH_done (by kernel_rfl) ?_ _
    have hB5 : Below w.heap.size w w5 := (hbw.drew.trans (hb4.mono hbw.size)).trans (hb5.mono (Nat.le_trans hbw.size hb4.size))
    clear hb4 hb5 hr4 hbw hHeld
    go_wp2
    go_ret3
    exact ⟨rfl, hB5⟩
  · go_enter Tryz.func60, Tryz.ntmps60
    go_wp2_with (go_at_call 70; refine (HC.out _).mono ?_; rintro e w1 ⟨rfl, hb1⟩)
    have r1 : Row (w1.alloc (.cells #[.int .u64 (lo X : Nat), .int .u8 (hi X : Nat)] 100)) w1.heap.size 100 #[.int .u64 (lo X : Nat), .int .u8 (hi X : Nat)] := heap_alloc_new w1 _
    have hr := r1.range
    have hz1 := hb1.size
    have hbw : Below w.heap.size w (w1.alloc (.cells #[.int .u64 (lo X : Nat), .int .u8 (hi X : Nat)] 100)) := hb1.alloc hb1.size _
    have hsz : w1.heap.size < (w1.alloc (.cells #[.int .u64 (lo X : Nat), .int .u8 (hi X : Nat)] 100)).heap.size := by simp
    have hT2 := HT.out.below hbw (Nat.le_refl _)
    have HT2 := Lib.hid (show MaskTab (w1.alloc (.cells #[.int .u64 (lo X : Nat), .int .u8 (hi X : Nat)] 100)).drew from hT2)
    clear r1 hb1 hT2
    have hu := Tryz.underlying100
    have hin : (Tryz.prog.info? 100).map (·.size) = some [Value.int .u64 (lo X : Nat), .int .u8 (hi X : Nat)].length := infoCw
    generalize hw3 : w1.alloc (.cells #[.int .u64 (lo X : Nat), .int .u8 (hi X : Nat)] 100) = w3 at *
    clear hw3
    generalize w1.heap.size = b at *
    refine wp_region_held_drew (S := fun w' => w'.rangeAt b 0 [.int .u64 (lo X : Nat), .int .u8 (hi X : Nat)]) (by kernel_rfl) hr (fun hHeld => ?_)
    refine wpAnyH_take (i := 0) (oi := _) (v := .agg #[.int .u64 (lo X : Nat), .int .u8 (hi X : Nat)]) rfl (by kernel_rfl) (by kernel_rfl) (by kernel_rfl) (fun _ _ _ h => h) (yieldsIf_load_mid (by rfl) _ _ rfl _ _ rfl [.int .u64 (lo X : Nat), .int .u8 (hi X : Nat)] _ (fun _ h => h) hu rfl hin) hHeld ?_
    refine wpAnyH_take (i := 2) (oi := _) (v := .agg #[.int .u64 (lo X : Nat), .int .u8 (hi X : Nat)]) rfl (by kernel_rfl) (by kernel_rfl) (by kernel_rfl) (fun _ _ _ h => h) (yieldsIf_load_mid (by rfl) _ _ rfl _ _ rfl [.int .u64 (lo X : Nat), .int .u8 (hi X : Nat)] _ (fun _ h => h) hu rfl hin) hHeld ?_
    refine wpAnyH_ready (rs := [1]) (by kernel_rfl) (by simp) ?_
    refine AllReadyH.cons (o := _) rfl (fun K hK => ?_) AllReadyH.nil
    go_simp
    go_at_call 71
    refine (HS.out _ HT2.out).mono ?_
    rintro e w4 ⟨rfl, hb4⟩
    have hr4 := range_below hHeld hb4 hsz
    refine hK.out _ _ hr4 (fun hHeld => ?_)
    clear hK K
    refine wpAnyH_ready (rs := [3]) (by kernel_rfl) (by simp) ?_
    refine AllReadyH.cons (o := _) rfl (fun K hK => ?_) AllReadyH.nil
    go_simp
    go_at_call 72
    refine (HP.out _).mono ?_
    rintro e w5 ⟨rfl, hb5⟩
    refine hK.out _ _ (range_below hr4 hb5 (Nat.lt_of_lt_of_le hsz hb4.size)) (fun hHeld => ?_)
    clear hK K
    refine wpAnyH_take (i := 4) (oi := _) (v := .int .i64 (S : Int)) rfl (by kernel_rfl) (by kernel_rfl) (by kernel_rfl) (fun _ _ _ h => h) (Or.inl ⟨by rfl, fun w hSw => by go_simp⟩) hHeld ?_
    refine wpAnyH_take (i := 5) (oi := _) (v := .int .i64 (1 : Int)) rfl (by kernel_rfl) (by kernel_rfl) (by kernel_rfl) (fun _ _ _ h => h) (Or.inl ⟨by rfl, fun w hSw => by go_simp⟩) hHeld ?_
    refine wpAnyH_done (by kernel_rfl) ?_ _
    have hB5 : Below w.heap.size w w5 := (hbw.drew.trans (hb4.mono hbw.size)).trans (hb5.mono (Nat.le_trans hbw.size hb4.size))
    clear hb4 hb5 hr4 hbw hHeld
    go_wp2
    go_ret3
    exact ⟨rfl, hB5⟩
theorem implDec_any (X : Nat) (R : ByteArray) (n c : Int) (w : World) (hX : X < 2 ^ 72) (hT : MaskTab w) (h : Dec X R n c) :
    Calls Tryz.prog 60 #[.string (wStr (lo X)), .int .i64 (hi X : Nat)] w (WordPost R n c w) := by
  rcases h with ⟨h1, rfl, rfl, rfl⟩ | ⟨h1, h2, rfl, rfl, rfl⟩ | ⟨h1, h2, rfl, rfl, rfl⟩
  · exact implDec_good X w hX hT h1
  · exact implDec_one X w hX hT h2
  · exact implDec_none X w hX hT h1 h2
theorem implDec_no (s : ByteArray) (c : Int) (w : World) (h : s.size ≠ 8 ∨ c < 0 ∨ 255 < c) :
    Calls Tryz.prog 60 #[.string s, .int .i64 c] w (WordPost ⟨#[]⟩ 0 1 w) := by
  go_enter Tryz.func60, Tryz.ntmps60
  go_wp2_with (go_at_call 70; refine (codewordOf_no _ _ _ h).mono ?_; rintro e w1 ⟨rfl, hb1⟩)
  go_ret3
  exact ⟨rfl, hb1.alloc hb1.size _⟩
end Go.Proofs.YtlmdpdidjldkpaaGreatDoor
/- Error correction in the model: the contracts of its parts. -/
namespace Go.Proofs.YtlmdpdidjldkpaaGreatDoor
open Go.RowKit

theorem shr_and (x r : Nat) (h : x < 2 ^ 63) : bits .and .i64 ((x : Int) / 2 ^ r) 1 = ((x / 2 ^ r % 2 : Nat) : Int) := by
  have h1 := and1_i64 (x / 2 ^ r) (Nat.lt_of_le_of_lt (Nat.div_le_self _ _) h)
  rw [Int.natCast_ediv, Int.natCast_pow] at h1
  exact h1
theorem l03Bit_low (s : ByteArray) (c : Int) (b : Nat) (w : World) (hs : s.size = 8) (hb : b < 64) :
    Calls Tryz.prog 114 #[.string s, .int .i64 c, .int .i64 b] w fun e w' => e = .returned (.int .i64 ((wordN s / 2 ^ b % 2 : Nat) : Int)) ∧ w = w' := by
  have hlt : b / 8 < s.size := by omega
  have hI : (b : Int) < 64 := by omega
  have hI2 : (b : Int) / 8 < (s.size : Int) := by omega
  have hl := byteAt_le s (b / 8)
  have HW : Hid (bits .and .i64 (wrap64 ((s[b / 8].toNat : Int) / 2 ^ (b % 8))) 1 = ((wordN s / 2 ^ b % 2 : Nat) : Int)) := by
    show _ = _
    have hd : byteAt s (b / 8) / 2 ^ (b % 8) ≤ byteAt s (b / 8) := Nat.div_le_self _ _
    have e : ((byteAt s (b / 8) : Nat) : Int) / 2 ^ (b % 8) = ((byteAt s (b / 8) / 2 ^ (b % 8) : Nat) : Int) := by rw [Int.natCast_ediv, Int.natCast_pow]; rfl
    rw [wordN_bit s hb, byteAt_eq hlt, e]
    generalize byteAt s (b / 8) / 2 ^ (b % 8) = q at *
    rw [IntWalk.wrap64_in _ (by omega), and1_i64 _ (by omega)]
  clear hs
  go_enter Tryz.func114, Tryz.ntmps114
  go_wp2
  go_ret
  exact ⟨ret_int HW.out, rfl⟩
theorem l03Bit_high (s : ByteArray) (c b : Nat) (w : World) (hc : c < 256) (hb : 64 ≤ b) (hb2 : b < 72) :
    Calls Tryz.prog 114 #[.string s, .int .i64 c, .int .i64 b] w fun e w' => e = .returned (.int .i64 ((c / 2 ^ (b - 64) % 2 : Nat) : Int)) ∧ w = w' := by
  have hI : (64 : Int) ≤ (b : Int) := by omega
  have hI2 : (b : Int) < 72 := by omega
  have hI3 : (c : Int) < 256 := by omega
  have HE := Lib.hid (shr_and c (b - 64) (by omega))
  go_enter Tryz.func114, Tryz.ntmps114
  go_wp2
  go_ret
  exact ⟨ret_int HE.out, rfl⟩
theorem l03Bit_any (X b : Nat) (w : World) (hX : X < 2 ^ 72) (hb : b < 72) :
    Calls Tryz.prog 114 #[.string (wStr (lo X)), .int .i64 (hi X : Nat), .int .i64 b] w fun e w' => e = .returned (.int .i64 ((X / 2 ^ b % 2 : Nat) : Int)) ∧ w = w' := by
  by_cases h : b < 64
  · refine (l03Bit_low _ _ b w (wStr_size _) h).mono ?_
    rintro e w' ⟨rfl, rfl⟩
    exact ⟨ret_int (by rw [wStr_word (lo_lt X), bit_lo X h]), rfl⟩
  · refine (l03Bit_high _ _ b w (hi_lt hX) (by omega) hb).mono ?_
    rintro e w' ⟨rfl, rfl⟩
    exact ⟨ret_int (by rw [bit_hi X (by omega)]), rfl⟩

theorem l03Position_high (b : Nat) (w : World) (hb : 64 ≤ b) (hb2 : b < 71) :
    Calls Tryz.prog 115 #[.int .i64 b] w fun e w' => e = .returned (.int .i64 (posN b : Nat)) ∧ w = w' := by
  have hI : (64 : Int) ≤ (b : Int) := by omega
  have hI2 : (b : Int) < 71 := by omega
  have HP : Hid (wrap64 (2 ^ (b - 64)) = ((posN b : Nat) : Int)) := by
    show _ = _
    have := posN_le b
    have e : ((2 : Int) ^ (b - 64)) = ((posN b : Nat) : Int) := by rw [pos_high hb hb2, Int.natCast_pow]; rfl
    rw [e, IntWalk.wrap64_in _ (by omega)]
  go_enter Tryz.func115, Tryz.ntmps115
  go_wp2
  go_ret
  exact ⟨ret_int HP.out, rfl⟩
theorem l03Position_low (b : Nat) (w : World) (hb : b < 64) :
    Calls Tryz.prog 115 #[.int .i64 b] w fun e w' => e = .returned (.int .i64 (posN b : Nat)) ∧ w = w' := by
  have hI : (b : Int) < 64 := by omega
  go_enter Tryz.func115, Tryz.ntmps115
  go_wp2
  go_loop [3, 4] (fun t i => ∃ a n : Nat, 2 ≤ a ∧ a ≤ 71 ∧ t = .int .i64 a ∧ i = .int .i64 ((n : Int) - 1) ∧ npN a = n ∧ n ≤ b + 1 ∧ (n = b + 1 → a = posN b)) (fun t _ => 71 - (intOf t).toNat)
  case atStart => exact ⟨2, 0, by omega, by omega, rfl, rfl, np_two, by omega, fun h => by omega⟩
  case round =>
    obtain ⟨a, n, ha, ha2, rfl, rfl, hn, hnb, he⟩ := hrel
    by_cases hlt : n < b + 1
    · have ha3 := np_end ha2 (by omega)
      have hand := i64_and_nat (a + 1) a (by omega) (by omega)
      have hsub : ((a : Int) + 1) - 1 = (a : Int) := by omega
      by_cases hz : (a + 1) &&& a = 0
      · have HF := Lib.hid (np_flat ha ha3 hz)
        have hb1 : (bits .and .i64 ((a : Int) + 1) (a : Int) != 0) = false := by
          rw [hz] at hand; rw [show ((a + 1 : Nat) : Int) = (a : Int) + 1 from rfl] at hand; rw [hand]; rfl
        have HN := Lib.hid hn
        clear hand hz hn he
        go_wp2
        go_round
        case rel => exact ⟨a + 1, n, by omega, by omega, by go_num, rfl, by rw [HF.out, HN.out], hnb, fun h => by omega⟩
        case measure => simp [intOf]; omega
      · have HF := Lib.hid (np_step ha ha3 hz)
        have hb1 : (bits .and .i64 ((a : Int) + 1) (a : Int) != 0) = true := by
          rw [show ((a + 1 : Nat) : Int) = (a : Int) + 1 from rfl] at hand; rw [hand]; simp; omega
        have HN := Lib.hid hn
        clear hand hz hn he
        go_wp2
        go_round
        case rel => exact ⟨a + 1, n + 1, by omega, by omega, by go_num, by go_num, by rw [HF.out.1, HN.out], by omega, fun h => by have := HF.out.2; rw [HN.out] at this; rw [← this]; congr 1; omega⟩
        case measure => simp [intOf]; omega
    · have hE := he (by omega)
      obtain rfl : n = b + 1 := by omega
      have HE := Lib.hid hE
      clear hE hn he
      go_wp2
      go_ret
      exact ⟨ret_int (by rw [HE.out]), rfl⟩
theorem l03Position_any (b : Nat) (w : World) (hb : b < 71) :
    Calls Tryz.prog 115 #[.int .i64 b] w fun e w' => e = .returned (.int .i64 (posN b : Nat)) ∧ w = w' := by
  by_cases h : b < 64
  · exact l03Position_low b w h
  · exact l03Position_high b w (by omega) hb
theorem pos_last : posN 71 = 0 := by decide

def SynPost (X : Nat) (w : World) (e : Ending) (w' : World) : Prop := e = .returned (.tuple #[.int .i64 (synN X : Nat), .int .i64 (parN X : Nat)]) ∧ w = w'
theorem l03Syndrome_any (X : Nat) (w : World) (hX : X < 2 ^ 72) :
    Calls Tryz.prog 106 #[.string (wStr (lo X)), .int .i64 (hi X : Nat)] w (SynPost X w) := by
  have HB := Lib.hid (fun (k : Nat) (W : World) (hk : k < 72) => l03Bit_any X k W hX hk)
  obtain ⟨s, hs⟩ : ∃ s, s = wStr (lo X) := ⟨_, rfl⟩
  obtain ⟨c, hc⟩ : ∃ c, c = hi X := ⟨_, rfl⟩
  rw [← hs, ← hc] at HB ⊢
  clear hs hc
  go_enter Tryz.func106, Tryz.ntmps106
  go_wp2
  go_loop [6, 7, 8] (fun u v i => ∃ k : Nat, k ≤ 72 ∧ i = .int .i64 k ∧ u = .int .i64 (accN posN X k : Nat) ∧ v = .int .i64 (accN (fun _ => 1) X k : Nat)) (fun _ _ i => 72 - (intOf i).toNat)
  case atStart => exact ⟨0, by omega, rfl, rfl, rfl⟩
  case round =>
    obtain ⟨k, hk, rfl, rfl, rfl⟩ := hrel
    by_cases hlt : k < 72
    · have hu : accN posN X k < 2 ^ 7 := accN_lt (n := 7) (fun b => by have := posN_le b; omega) X k
      have hv : accN (fun _ => 1) X k < 2 ^ 1 := accN_lt (n := 1) (fun b => by omega) X k
      by_cases hbit : X / 2 ^ k % 2 = 1
      · have hB := fun (W : World) => HB.out k W hlt
        rw [hbit] at hB
        have HB1 := Lib.hid hB
        have HA := Lib.hid (accN_yes (p := posN) hbit)
        have HV := Lib.hid (accN_yes (p := fun _ => 1) hbit)
        clear hB hbit
        have HXV := Lib.hid (i64_xor_nat (accN (fun _ => 1) X k) 1 (by omega) (by omega))
        by_cases h71 : k < 71
        · have hp := posN_le k
          have HXU := Lib.hid (i64_xor_nat (accN posN X k) (posN k) (by omega) (by omega))
          clear hp hu hv
          go_wp2_with (first
            | (go_at_call 114; refine (HB1.out _).mono ?_; rintro e w' ⟨rfl, rfl⟩)
            | (go_at_call 115; refine (l03Position_any k _ h71).mono ?_; rintro e w' ⟨rfl, rfl⟩))
          go_round
          case rel => exact ⟨k + 1, by omega, by go_num, by rw [HA.out, ← HXU.out], by rw [HV.out, ← HXV.out]; rfl⟩
          case measure => simp [intOf]; omega
        · obtain rfl : k = 71 := by omega
          clear hu hv
          go_wp2_with (go_at_call 114; refine (HB1.out _).mono ?_; rintro e w' ⟨rfl, rfl⟩)
          go_round
          case rel => exact ⟨72, by omega, by go_num, by rw [HA.out, pos_last, Nat.xor_zero], by rw [HV.out, ← HXV.out]; rfl⟩
          case measure => simp [intOf]
      · have hB := fun (W : World) => HB.out k W hlt
        rw [show X / 2 ^ k % 2 = 0 by omega] at hB
        have HB1 := Lib.hid hB
        have HA := Lib.hid (accN_no (p := posN) hbit)
        have HV := Lib.hid (accN_no (p := fun _ => 1) hbit)
        clear hB hbit hu hv
        go_wp2_with (go_at_call 114; refine (HB1.out _).mono ?_; rintro e w' ⟨rfl, rfl⟩)
        go_round
        case rel => exact ⟨k + 1, by omega, by go_num, by rw [HA.out], by rw [HV.out]⟩
        case measure => simp [intOf]; omega
    · obtain rfl : k = 72 := by omega
      go_wp2
      go_ret2
      exact ⟨rfl, rfl⟩
end Go.Proofs.YtlmdpdidjldkpaaGreatDoor
/- A bit of a codeword inverted, in the model; valid words: the contracts. -/
namespace Go.Proofs.YtlmdpdidjldkpaaGreatDoor
open Go.RowKit

theorem nums_wStr (x : Nat) : ((wStr x).data.toList.map fun b => (b.toNat : Int)) = wL x := by
  apply List.ext_getElem
  · have := wStr_size x
    simp only [List.length_map, wL_length]
    simpa using this
  · intro k h1 h2
    have h2' : k < 8 := by rw [wL_length] at h2; exact h2
    have e1 := wStr_at x h2'
    have e2 := wL_at x h2'
    rw [List.getD_eq_getElem?_getD, List.getElem?_eq_getElem h2] at e2
    simp only [Option.getD_some] at e2
    rw [e2, ← e1]
    unfold byteAt
    rw [List.getD_eq_getElem?_getD, List.getElem?_eq_getElem (by simpa using h1)]
    simp
def FlipPost (X b : Nat) (w : World) (e : Ending) (w' : World) : Prop := e = .returned (.tuple #[.string (wStr (lo (X ^^^ 2 ^ b))), .int .i64 (hi (X ^^^ 2 ^ b) : Nat)]) ∧ Below w.heap.size w w'
end Go.Proofs.YtlmdpdidjldkpaaGreatDoor
/- Decoding a codeword, in the model: the contracts. -/
namespace Go.Proofs.YtlmdpdidjldkpaaGreatDoor
open Go.RowKit

theorem syn_ret (X S P : Nat) (w : World) (hX : X < 2 ^ 72) (hS : synN X = S) (hP : parN X = P) :
    Calls Tryz.prog 106 #[.string (wStr (lo X)), .int .i64 (hi X : Nat)] w fun e w' => e = .returned (.tuple #[.int .i64 S, .int .i64 P]) ∧ w = w' := by
  subst hS; subst hP; exact l03Syndrome_any X w hX
theorem l03Check_any (x : Nat) (w : World) (hx : x < 2 ^ 64) :
    Calls Tryz.prog 88 #[.string (wStr x)] w fun e w' => e = .returned (.int .i64 (chkN x : Nat)) ∧ w = w' := by
  have hl : lowN x < 128 := synN_lt x
  have h0 : x < 2 ^ 72 := by omega
  have h1 : x + 2 ^ 64 * lowN x < 2 ^ 72 := by omega
  have hp := parN_lt (x + 2 ^ 64 * lowN x)
  have A := fun (W : World) => syn_ret x (lowN x) (parN x) W h0 rfl rfl
  have B := fun (W : World) => syn_ret (x + 2 ^ 64 * lowN x) _ (parN (x + 2 ^ 64 * lowN x)) W h1 rfl rfl
  rw [show lo x = x by unfold lo; omega, show hi x = 0 by unfold hi; omega] at A
  rw [lo_of _ hx, hi_of _ hx] at B
  have hE := chk_or x
  generalize parN (x + 2 ^ 64 * lowN x) = P at *
  generalize synN (x + 2 ^ 64 * lowN x) = S at *
  generalize parN x = Q at *
  generalize chkN x = C at *
  generalize lowN x = L at *
  have HE : Hid (bits .or .i64 (L : Nat) ((P : Nat) * 128) = ((C : Nat) : Int)) := by
    show _ = _
    have e := i64_or_nat L (P * 128) (by omega) (by omega)
    rw [hE, Int.natCast_mul] at e
    exact e
  have HA := Lib.hid A
  have HB := Lib.hid B
  clear A B h0 h1 hE
  generalize wStr x = s at *
  clear hx
  go_enter Tryz.func88, Tryz.ntmps88
  go_wp2_with fail
  refine (HA.out _).mono ?_
  rintro e w' ⟨rfl, rfl⟩
  go_wp2_with fail
  refine (HB.out _).mono ?_
  rintro e w' ⟨rfl, rfl⟩
  go_wp2
  go_ret
  exact ⟨ret_int HE.out, rfl⟩
end Go.Proofs.YtlmdpdidjldkpaaGreatDoor
/- The check bytes of several words, in the model and in the program: the contracts. -/
namespace Go.Proofs.YtlmdpdidjldkpaaGreatDoor
open Go.RowKit

theorem BytesOwn.later {w w' : World} {B B' : Nat} {v : Value} {l : List Int} (h : BytesOwn w B v l) (hb : Below B' w w') (hv : ∀ g, v.ownBlock = some g → g < B') : BytesOwn w' B v l := by
  refine ⟨h.1, ?_⟩
  rcases h.2 with h2 | ⟨g, cap, cur, h1, h2, h3, h4⟩
  · exact .inl h2
  · exact .inr ⟨g, cap, cur, h1, h2, (hb.block g (hv g (by rw [h1]; rfl))).trans h3, h4⟩
theorem slice_wd (s : ByteArray) (k : Nat) (h : 8 * k + 8 ≤ s.size) (w : World) :
    (Instr.slice 9 (.string s) (some (.int .i64 ((k : Int) * 8))) (some (.int .i64 (((k : Int) + 1) * 8))) none).run Tryz.prog w = .ok (.string (wd s k)) w := by
  rw [run_slice_string w 9 s .i64 .i64 _ _ Tryz.underlying9 (by omega) (by omega) (by omega)]
  rw [show (((k : Int) + 1) * 8).toNat = 8 * k + 8 by omega, show ((k : Int) * 8).toNat = 8 * k by omega]; rfl
theorem slice_at (s : ByteArray) (i : Nat) (h : i + 8 ≤ s.size) (w : World) :
    (Instr.slice 9 (.string s) (some (.int .i64 (i : Int))) (some (.int .i64 ((i : Int) + 8))) none).run Tryz.prog w = .ok (.string (s.extract i (i + 8))) w := by
  rw [run_slice_string w 9 s .i64 .i64 _ _ Tryz.underlying9 (by omega) (by omega) (by omega)]
  rw [show ((i : Int) + 8).toNat = i + 8 by omega]; rfl
theorem wordOf_any (s : ByteArray) (k : Nat) (w : World) (h : 8 * k + 8 ≤ s.size) (hs : s.size ≤ 1048576) :
    Calls Tryz.prog 55 #[.string s, .int .i64 k] w fun e w' => e = .returned (.string (wd s k)) ∧ w = w' := by
  have hsl := slice_wd s k h
  have hk : (k : Int) ≤ 1048576 := by omega
  go_enter Tryz.func55, Tryz.ntmps55
  go_wp2
  go_ret
  exact ⟨rfl, rfl⟩
/-- Is a text made of at most 32 words? -/
def Whole (s : ByteArray) : Prop := s.size % 8 = 0 ∧ s.size ≤ 256
theorem wholeWords_yes (s : ByteArray) (w : World) (h : Whole s) :
    Calls Tryz.prog 53 #[.string s] w fun e w' => e = .returned (.bool true) ∧ w = w' := by
  obtain ⟨h1, h2⟩ := h
  have hb : (((s.size : Int) % 8) == 0) = true := by simp; omega
  have h3 : (s.size : Int) ≤ 256 := by omega
  clear h1
  go_enter Tryz.func53, Tryz.ntmps53
  go_wp2
  go_ret
  exact ⟨rfl, rfl⟩
theorem wholeWords_no (s : ByteArray) (w : World) (h : ¬ Whole s) :
    Calls Tryz.prog 53 #[.string s] w fun e w' => e = .returned (.bool false) ∧ w = w' := by
  by_cases h1 : s.size % 8 = 0
  · have h2 : 256 < (s.size : Int) := by unfold Whole at h; omega
    have hb : (((s.size : Int) % 8) == 0) = true := by simp; omega
    have hd : decide ((s.size : Int) ≤ 256) = false := by simp; omega
    clear h1 h
    go_enter Tryz.func53, Tryz.ntmps53
    go_wp2
    go_ret
    exact ⟨rfl, rfl⟩
  · have hb : (((s.size : Int) % 8) == 0) = false := by simp; omega
    clear h1 h
    go_enter Tryz.func53, Tryz.ntmps53
    go_wp2
    go_ret
    exact ⟨rfl, rfl⟩
theorem l03Words_yes (s : ByteArray) (w : World) (h : Whole s) :
    Calls Tryz.prog 87 #[.string s] w fun e w' => e = .returned (.bool true) ∧ w = w' := by
  obtain ⟨h1, h2⟩ := h
  have hb : (((s.size : Int) % 8) == 0) = true := by simp; omega
  have h3 : (s.size : Int) ≤ 256 := by omega
  clear h1
  go_enter Tryz.func87, Tryz.ntmps87
  go_wp2
  go_ret
  exact ⟨rfl, rfl⟩
theorem l03Words_no (s : ByteArray) (w : World) (h : ¬ Whole s) :
    Calls Tryz.prog 87 #[.string s] w fun e w' => e = .returned (.bool false) ∧ w = w' := by
  by_cases h1 : s.size % 8 = 0
  · have h2 : 256 < (s.size : Int) := by unfold Whole at h; omega
    have hb : (((s.size : Int) % 8) == 0) = true := by simp; omega
    have hd : decide ((s.size : Int) ≤ 256) = false := by simp; omega
    clear h1 h
    go_enter Tryz.func87, Tryz.ntmps87
    go_wp2
    go_ret
    exact ⟨rfl, rfl⟩
  · have hb : (((s.size : Int) % 8) == 0) = false := by simp; omega
    clear h1 h
    go_enter Tryz.func87, Tryz.ntmps87
    go_wp2
    go_ret
    exact ⟨rfl, rfl⟩
def EncPost (r : ByteArray) (c : Int) (w : World) (e : Ending) (w' : World) : Prop := e = .returned (.tuple #[.string r, .int .i64 c]) ∧ Below w.heap.size w w'
set_option maxRecDepth 100000 in
theorem specEnc_yes (s : ByteArray) (n : Nat) (w : World) (hn : s.size = 8 * n) (hn2 : n ≤ 32) :
    Calls Tryz.prog 66 #[.string s] w (EncPost (strOfNums (chkL s n)) 0 w) := by
  have HV := Lib.hid (fun (W : World) => l03Words_yes s W ⟨by omega, by omega⟩)
  have HS := Lib.hid (fun (i : Nat) (h : i + 8 ≤ s.size) (W : World) => slice_at s i h W)
  have hsz : (s.size : Int) ≤ 256 := by omega
  have HN := Lib.hid hn
  clear hn
  go_enter Tryz.func66, Tryz.ntmps66
  go_wp2_with (go_at_call 87; refine (HV.out _).mono ?_; rintro e w' ⟨rfl, rfl⟩)
  go_loopw [4, 5] (fun v j wr => ∃ (k i : Nat), k ≤ n ∧ i = 8 * k ∧ j = .int .i64 i ∧ BytesOwn wr w.heap.size v (chkL s k) ∧ Below w.heap.size w wr) (fun _ j _ => s.size - (intOf j).toNat)
  case atStart => exact ⟨0, 0, by omega, rfl, rfl, BytesOwn.made _ (Nat.le_refl _), (Below.refl _ _).alloc (Nat.le_refl _) _⟩
  case round =>
    obtain ⟨k, i, hk, hi, rfl, hown, hb⟩ := hrel
    have hz := hb.size
    have hlen := chkL_length s k
    have HNo := HN.out
    by_cases hlt : k < n
    · have hi8 : i + 8 ≤ s.size := by omega
      have hsl := fun (W : World) => HS.out i hi8 W
      have hwd : s.extract i (i + 8) = wStr (wdN s k) := by rw [← wd_wStr (by omega), hi]; rfl
      rw [hwd] at hsl
      have hil : (i : Int) < (s.size : Int) := by omega
      have hc := chkN_lt (wdN s k)
      have HK := Lib.hid (fun (W : World) => l03Check_any (wdN s k) W (wdN_lt s k))
      have HL : Hid (chkL s (k + 1) = chkL s k ++ [((chkN (wdN s k) : Nat) : Int)]) := by show _ = _; rfl
      have HI := Lib.hid hi
      clear hwd hi HNo
      generalize chkN (wdN s k) = c at *
      generalize wStr (wdN s k) = t at *
      go_wp2_with (first
        | (go_at_call 88; refine (HK.out _).mono ?_; rintro e w' ⟨rfl, rfl⟩)
        | (at_builtin; refine wpList_append_byte rfl _ _ rfl _ _ rfl hown hb hz _ _ rfl (by omega) ?_; intro v' w1 hown' hb'; clear hown hb))
      go_roundw
      case rel => exact ⟨k + 1, i + 8, by omega, by have := HI.out; omega, by go_num, by rw [HL.out]; exact hown', hb'⟩
      case measure => simp [intOf]; omega
    · obtain rfl : k = n := by omega
      have hil : (s.size : Int) ≤ (i : Int) := by omega
      have hcv := bytes_str hown
      clear hi HNo
      go_wp2
      go_ret2
      exact ⟨rfl, hb⟩
theorem specEnc_no (s : ByteArray) (w : World) (h : ¬ Whole s) :
    Calls Tryz.prog 66 #[.string s] w (EncPost ⟨#[]⟩ 1 w) := by
  have HV := Lib.hid (fun (W : World) => l03Words_no s W h)
  clear h
  go_enter Tryz.func66, Tryz.ntmps66
  go_wp2_with (go_at_call 87; refine (HV.out _).mono ?_; rintro e w' ⟨rfl, rfl⟩)
  go_ret2
  exact ⟨rfl, Below.refl _ _⟩
theorem implEnc_no (s : ByteArray) (w : World) (h : ¬ Whole s) :
    Calls Tryz.prog 28 #[.string s] w (EncPost ⟨#[]⟩ 1 w) := by
  have HV := Lib.hid (fun (W : World) => wholeWords_no s W h)
  clear h
  go_enter Tryz.func28, Tryz.ntmps28
  go_wp2_with (go_at_call 53; refine (HV.out _).mono ?_; rintro e w' ⟨rfl, rfl⟩)
  go_ret2
  exact ⟨rfl, Below.refl _ _⟩
theorem set_at_end' (l : List Int) (n k : Nat) (b : Int) (h : l.length = k) (hk : k < n) : (l ++ List.replicate (n - k) 0).set k b = (l ++ [b]) ++ List.replicate (n - (k + 1)) 0 := by
  rw [List.set_append_right _ _ (by omega), h, Nat.sub_self, show n - k = (n - (k + 1)) + 1 by omega, List.replicate_succ, List.set_cons_zero, List.append_assoc]; rfl
theorem implEnc_yes (s : ByteArray) (n : Nat) (w : World) (hn : s.size = 8 * n) (hn2 : n ≤ 32) (hT : MaskTab w) :
    Calls Tryz.prog 28 #[.string s] w (EncPost (strOfNums (chkL s n)) 0 w) := by
  have HT := Lib.hid hT
  have HV := Lib.hid (fun (W : World) => wholeWords_yes s W ⟨by omega, by omega⟩)
  have HW := Lib.hid (fun (k : Nat) (W : World) (h : 8 * k + 8 ≤ s.size) => wordOf_any s k W h (by omega))
  have hsz : (s.size : Int) ≤ 256 := by omega
  have hdv : (s.size : Int) / 8 = (n : Int) := by omega
  have HN := Lib.hid hn
  clear hn hT
  go_enter Tryz.func28, Tryz.ntmps28
  go_wp2_with (first
    | (go_at_call 53; refine (HV.out _).mono ?_; rintro e w' ⟨rfl, rfl⟩)
    | (refine wpList_make_bytes rfl _ _ rfl _ _ _ _ n rfl rfl (by first | exact hdv | rfl) (by first | exact hdv | rfl) (by omega) (Below.refl _ _) (Nat.le_refl _) ?_; intro w1 hown hb))
  clear hdv
  go_loopw [15] (fun j wr => ∃ k : Nat, k ≤ n ∧ j = .int .i64 k ∧ BytesOwn wr w.heap.size (.slice (some ⟨w.heap.size, 0, none⟩) n n) (chkL s k ++ List.replicate (n - k) 0) ∧ Below w.heap.size w wr ∧ w.heap.size < wr.heap.size) (fun j _ => n - (intOf j).toNat)
  case atStart => exact ⟨0, by omega, rfl, by simpa [chkL] using hown, hb, (World.ownsRow.lt hown _ rfl).2⟩
  case round =>
    clear hown hb
    obtain ⟨k, hk, rfl, hown, hb, hzb⟩ := hrel
    have hz := hb.size
    have hclen := chkL_length s k
    have HNo := HN.out
    have hlen : (chkL s k ++ List.replicate (n - k) 0).length = n := by simp [hclen]; omega
    by_cases hlt : k < n
    · have h8 : 8 * k + 8 ≤ s.size := by omega
      have hwd := wd_wStr h8
      have HW1 := Lib.hid (fun (W : World) => HW.out k W h8)
      rw [hwd] at HW1
      have hc := chkN_lt (wdN s k)
      have HK := Lib.hid (fun (W : World) (hT : MaskTab W) => implCheck_yes (wdN s k) W (wdN_lt s k) hT)
      have HL : Hid (chkL s (k + 1) = chkL s k ++ [((chkN (wdN s k) : Nat) : Int)]) := by show _ = _; rfl
      have hse := set_at_end' (chkL s k) n k ((chkN (wdN s k) : Nat) : Int) hclen hlt
      have HSE := Lib.hid hse
      clear hwd hse HNo
      have hTr := HT.out.below hb (Nat.le_refl _)
      generalize chkN (wdN s k) = c at *
      generalize wStr (wdN s k) = t at *
      have hki : (k : Int) < (n : Int) := by omega
      have hci : (c : Int) ≤ 255 := by omega
      have hni : (n : Int) ≤ 32 := by omega
      go_wp2_with fail
      refine (HW1.out _).mono ?_
      rintro e w' ⟨rfl, rfl⟩
      go_wp2_with fail
      refine (HK.out _ hTr).mono ?_
      rintro e w2 ⟨rfl, hb2⟩
      have hb3 := hb.trans (hb2.mono hz)
      have hown3 : BytesOwn w2 w.heap.size (.slice (some ⟨w.heap.size, 0, none⟩) n n) (chkL s k ++ List.replicate (n - k) 0) := hown.later hb2 (fun g hg => by have e : w.heap.size = g := Option.some.inj hg; omega)
      have hcell := hown3.cell (j := k) hlen hlt
      have hfree := hown3.free hlen k
      have hnext := hown3.stored hlen k (c : Int)
      rw [HSE.out] at hnext
      have hbn := hb3.setCell (p := ⟨w.heap.size, k, none⟩) (Nat.le_refl _) (.int .u8 (c : Int))
      have hzn := hb2.size
      clear hown hb hown3 hb3 hb2
      go_wp2
      go_roundw
      case rel => exact ⟨k + 1, by omega, by go_num, by rw [HL.out]; exact hnext, hbn, by simp; omega⟩
      case measure => simp [intOf]; omega
    · obtain rfl : k = n := by omega
      have hcv := bytes_str hown
      rw [Nat.sub_self, List.replicate_zero, List.append_nil] at hcv
      clear HNo
      go_wp2
      go_ret2
      exact ⟨rfl, hb⟩
end Go.Proofs.YtlmdpdidjldkpaaGreatDoor
/- Sealing a page, in the model and in the program: the contracts. -/
namespace Go.Proofs.YtlmdpdidjldkpaaGreatDoor
open Go.RowKit
set_option linter.unusedVariables false

/-- The text x scrambled at address p. -/
def scrB (x : ByteArray) (p : Nat) : ByteArray := strOfNums (xorL x (strOfNums (streamL (p + 1) x.size)) x.size)
theorem scrB_size (x : ByteArray) (p : Nat) : (scrB x p).size = x.size := by unfold scrB; rw [strOfNums_size, xorL_length]
def markS : ByteArray := strOfNums [90]
theorem markS_size : markS.size = 1 := by unfold markS; rw [strOfNums_size]; rfl
def chkB (x : ByteArray) : ByteArray := strOfNums (chkL x 10)
theorem chkB_size (x : ByteArray) : (chkB x).size = 10 := by unfold chkB; rw [strOfNums_size, chkL_length]
def sealB (d s : ByteArray) (p : Nat) : ByteArray := scrB (d ++ s) p ++ chkB (scrB (d ++ s) p) ++ markS
theorem sealB_size {d s : ByteArray} {p : Nat} (hd : d.size = 64) (hs : s.size = 16) : (sealB d s p).size = 91 := by
  unfold sealB; rw [ByteArray.size_append, ByteArray.size_append, scrB_size, ByteArray.size_append, chkB_size, markS_size]; omega
theorem wpList_one_byte' {Q : Exit → Act → World → Prop} {ops : Array Oper} {rest : List Oper} {o : Oper} {a : Act} {w : World} (hgd : o.guard = none) (x : Operand)
    (ho : o.op = .convert 22 9 x) (n : Nat) (b : Int) (s : ByteArray) (hx : a.eval x = .slice (some ⟨w.heap.size, 0, none⟩) 1 n) (hs : s = strOfNums [b])
    (h : wpList Tryz.prog ops Q rest (a.put o.dst (.string s)) (w.alloc (.cells #[.int .u8 b] 5))) : wpList Tryz.prog ops Q (o :: rest) a (w.alloc (.cells #[.int .u8 b] 5)) := by
  refine wpList_plain hgd fun K hK' => ?_
  have hrun := arr_str (Arr.new w 5 .u8 [b]) 1 n (by simp)
  unfold Oper.wp
  simp only [List.map_cons, List.map_nil, List.take_succ_cons, List.take_zero] at hrun
  simp only [execOp, ho, hx, hrun, Sem.run_bind, Sem.run_pure, Result.andThen]
  rw [← hs]
  exact hK' _ _ h
/-- What SealPage answers. -/
inductive SealEnds (d s : ByteArray) (p : Int) : ByteArray → Int → Prop
  | invalid (h : ¬ (d.size = 64 ∧ s.size = 16)) : SealEnds d s p ⟨#[]⟩ 1
  | range (h : d.size = 64 ∧ s.size = 16) (h1 : ¬ (0 ≤ p ∧ p ≤ 65534)) : SealEnds d s p ⟨#[]⟩ 2
  | done (h : d.size = 64 ∧ s.size = 16) (n : Nat) (hn : p = n) (h1 : n ≤ 65534) : SealEnds d s p (sealB d s n) 0
theorem sealEnds (d s : ByteArray) (p : Int) : ∃ r c, SealEnds d s p r c := by
  by_cases h : d.size = 64 ∧ s.size = 16
  case neg => exact ⟨_, _, .invalid h⟩
  by_cases h1 : 0 ≤ p ∧ p ≤ 65534
  case neg => exact ⟨_, _, .range h h1⟩
  exact ⟨_, _, .done h p.toNat (by omega) (by omega)⟩
set_option maxRecDepth 100000 in
theorem l05Seal_any (d s : ByteArray) (p : Nat) (w : World) (hd : d.size = 64) (hs : s.size = 16) (hp : p ≤ 65534) :
    Calls Tryz.prog 44 #[.string d, .string s, .int .i64 p] w fun e w' => e = .returned (.string (sealB d s p)) ∧ Below w.heap.size w w' := by
  have hds : (d ++ s).size = 80 := by rw [ByteArray.size_append]; omega
  have HS := Lib.hid (fun (W : World) => (show Calls Tryz.prog 65 #[.int .i64 p, .string (d ++ s)] W _ from specScr_yes (p : Int) (d ++ s) W (by omega) (by omega) (by omega)))
  rw [Int.toNat_natCast] at HS
  change Hid (∀ W, Calls Tryz.prog 65 #[.int .i64 p, .string (d ++ s)] W fun e w' => e = .returned (.tuple #[.string (scrB (d ++ s) p), .int .i64 0]) ∧ Below W.heap.size W w') at HS
  have hb := scrB_size (d ++ s) p
  rw [hds] at hb
  unfold sealB
  generalize scrB (d ++ s) p = x at *
  have HE := Lib.hid (fun (W : World) => (show Calls Tryz.prog 66 #[.string x] W (EncPost (chkB x) 0 W) from specEnc_yes x 10 W (by omega) (by omega)))
  have hc := chkB_size x
  generalize chkB x = y at *
  have hm := markS_size
  have HM := Lib.hid (show markS = strOfNums [90] from rfl)
  generalize markS = z at *
  have hl1 : ¬ 9223372036854775807 < d.size + s.size := by omega
  have hl2 : ¬ 9223372036854775807 < x.size + y.size := by omega
  have hl3 : ¬ 9223372036854775807 < (x ++ y).size + z.size := by rw [ByteArray.size_append]; omega
  go_enter Tryz.func44, Tryz.ntmps44
  go_wp2_with fail
  refine (HS.out _).mono ?_
  rintro e w1 ⟨rfl, b1⟩
  go_wp2_with fail
  refine (HE.out _).mono ?_
  rintro e w2 ⟨rfl, b2⟩
  have B2 := b1.trans (b2.mono b1.size)
  clear b1 b2
  go_wp2_with (with_reducible show wpList _ _ _ (⟨some 28, _, _, _, _, _⟩ :: _) _ _; go_must (refine wpList_one_byte' rfl _ rfl 1 90 z rfl HM.out ?_))
  go_ret
  exact ⟨rfl, B2.alloc B2.size _⟩
theorem validAddr_any (k : Int) (b : Bool) (w : World) (hb : b = true ↔ (0 ≤ k ∧ k ≤ 65534)) : Calls Tryz.prog 26 #[.int .i64 k] w fun e w' => e = .returned (.bool b) ∧ w = w' := by
  by_cases h1 : 0 ≤ k
  · have d1 : decide (0 ≤ k) = true := by simp; omega
    have d2 : decide (k ≥ 0) = true := by simp; omega
    go_enter Tryz.func26, Tryz.ntmps26
    go_wp2
    go_ret
    exact ⟨ret_bool (by rw [Bool.eq_iff_iff, hb]; simp [h1]), rfl⟩
  · have d1 : decide (0 ≤ k) = false := by simp; omega
    have d2 : decide (k ≥ 0) = false := by simp; omega
    go_enter Tryz.func26, Tryz.ntmps26
    go_wp2
    go_ret
    exact ⟨ret_bool (by rw [Bool.eq_iff_iff, hb]; simp; omega), rfl⟩
set_option maxRecDepth 100000 in
theorem implSeal_any (d s : ByteArray) (p : Int) (r : ByteArray) (c : Int) (w : World) (h : SealEnds d s p r c) (hd : d.size ≤ 9223372036854775807) (hs : s.size ≤ 9223372036854775807) (hT : MaskTab w) :
    Calls Tryz.prog 8 #[.string d, .string s, .int .i64 p] w (PairPost r c w) := by
  rcases h with h | ⟨h, h1⟩ | ⟨h, n, rfl, h1⟩
  · by_cases e : d.size = 64
    · have e1 : ((d.size : Int) != 64) = false := by rw [e]; rfl
      have e2 : ((s.size : Int) != 16) = true := by simp; exact fun k => h ⟨e, by omega⟩
      clear h e
      go_enter Tryz.func8, Tryz.ntmps8
      go_wp2
      go_ret2
      exact ⟨rfl, Below.refl _ _⟩
    · have e1 : ((d.size : Int) != 64) = true := by simp; omega
      clear h e
      go_enter Tryz.func8, Tryz.ntmps8
      go_wp2
      go_ret2
      exact ⟨rfl, Below.refl _ _⟩
  · have e1 : ((d.size : Int) != 64) = false := by rw [h.1]; rfl
    have e2 : ((s.size : Int) != 16) = false := by rw [h.2]; rfl
    have HV := Lib.hid (validAddr_any p false w (by simp; omega))
    clear h h1
    go_enter Tryz.func8, Tryz.ntmps8
    go_wp2_with fail
    refine HV.out.mono ?_
    rintro e w' ⟨rfl, rfl⟩
    go_wp2
    go_ret2
    exact ⟨rfl, Below.refl _ _⟩
  · have e1 : ((d.size : Int) != 64) = false := by rw [h.1]; rfl
    have e2 : ((s.size : Int) != 16) = false := by rw [h.2]; rfl
    have HV := Lib.hid (validAddr_any (n : Int) true w (by simp; omega))
    have hds : (d ++ s).size = 80 := by rw [ByteArray.size_append]; omega
    have HS := Lib.hid (fun (W : World) => (show Calls Tryz.prog 27 #[.int .i64 n, .string (d ++ s)] W _ from implScr_yes (n : Int) (d ++ s) W (by omega) (by omega) (by omega)))
    rw [Int.toNat_natCast] at HS
    change Hid (∀ W, Calls Tryz.prog 27 #[.int .i64 n, .string (d ++ s)] W fun e w' => e = .returned (.tuple #[.string (scrB (d ++ s) n), .int .i64 0]) ∧ Below W.heap.size W w') at HS
    have hb := scrB_size (d ++ s) n
    rw [hds] at hb
    have hl1 : ¬ 9223372036854775807 < d.size + s.size := by omega
    unfold sealB
    generalize scrB (d ++ s) n = x at *
    have HE := Lib.hid (fun (W : World) (hT : MaskTab W) => (show Calls Tryz.prog 28 #[.string x] W (EncPost (chkB x) 0 W) from implEnc_yes x 10 W (by omega) (by omega) hT))
    have hc := chkB_size x
    generalize chkB x = y at *
    have hm := markS_size
    have HM := Lib.hid (show markS = strOfNums [90] from rfl)
    generalize markS = z at *
    have hl2 : ¬ 9223372036854775807 < x.size + y.size := by omega
    have hl3 : ¬ 9223372036854775807 < (x ++ y).size + z.size := by rw [ByteArray.size_append]; omega
    have HT := Lib.hid hT
    clear h h1 hT
    go_enter Tryz.func8, Tryz.ntmps8
    go_wp2_with fail
    refine HV.out.mono ?_
    rintro e w' ⟨rfl, rfl⟩
    go_wp2_with fail
    refine (HS.out _).mono ?_
    rintro e w1 ⟨rfl, b1⟩
    have HT1 := Lib.hid (HT.out.below b1 (Nat.le_refl _))
    go_wp2_with fail
    refine (HE.out _ HT1.out).mono ?_
    rintro e w2 ⟨rfl, b2⟩
    have B2 := b1.trans (b2.mono b1.size)
    clear b1 b2
    go_wp2_with (with_reducible show wpList _ _ _ (⟨some 40, _, _, _, _, _⟩ :: _) _ _; go_must (refine wpList_one_byte' rfl _ rfl 1 90 z rfl HM.out ?_))
    go_ret2
    exact ⟨rfl, B2.alloc B2.size _⟩
end Go.Proofs.YtlmdpdidjldkpaaGreatDoor
/- A bit of a raw page inverted, in the model and in the program: the contracts. -/
namespace Go.Proofs.YtlmdpdidjldkpaaGreatDoor
open Go.RowKit
set_option linter.unusedVariables false

def byteNums (s : ByteArray) : List Int := s.data.toList.map fun b => (b.toNat : Int)
theorem byteNums_length (s : ByteArray) : (byteNums s).length = s.size := by simp [byteNums]
theorem byteNums_get (s : ByteArray) (k : Nat) (h : k < s.size) : (byteNums s).getD k 0 = (byteAt s k : Int) := by
  have h' : k < s.data.toList.length := by simpa using h
  unfold byteNums byteAt
  rw [List.getD_eq_getElem?_getD, List.getElem?_map, List.getD_eq_getElem?_getD, List.getElem?_eq_getElem h']; rfl
/-- Bit k of a raw page inverted. -/
def flipL (raw : ByteArray) (k : Nat) : List Int := (byteNums raw).set (k / 8) ((byteAt raw (k / 8) ^^^ 2 ^ (k % 8) : Nat) : Int)
def flipP (raw : ByteArray) (k : Nat) : ByteArray := strOfNums (flipL raw k)
theorem flipP_size (raw : ByteArray) (k : Nat) : (flipP raw k).size = raw.size := by
  unfold flipP flipL; rw [strOfNums_size, List.length_set, byteNums_length]
/-- What FlipPageBit answers. -/
inductive FlipEnds (raw : ByteArray) (k : Int) : ByteArray → Int → Prop
  | invalid (h : raw.size ≠ 91) : FlipEnds raw k ⟨#[]⟩ 1
  | range (h : raw.size = 91) (h1 : ¬ (0 ≤ k ∧ k ≤ 727)) : FlipEnds raw k ⟨#[]⟩ 2
  | done (h : raw.size = 91) (n : Nat) (hn : k = n) (h1 : n ≤ 727) : FlipEnds raw k (flipP raw n) 0
theorem flipEnds (raw : ByteArray) (k : Int) : ∃ s c, FlipEnds raw k s c := by
  by_cases h : raw.size = 91
  case neg => exact ⟨_, _, .invalid h⟩
  by_cases h1 : 0 ≤ k ∧ k ≤ 727
  case neg => exact ⟨_, _, .range h h1⟩
  exact ⟨_, _, .done h k.toNat (by omega) (by omega)⟩
theorem FlipEnds.size {raw : ByteArray} {k : Int} {s : ByteArray} {c : Int} (h : FlipEnds raw k s c) : s.size ≤ 91 := by
  rcases h with h | h | ⟨h, n, rfl, h1⟩
  · exact Nat.zero_le _
  · exact Nat.zero_le _
  · rw [flipP_size]; omega
theorem flip_byte (y k : Nat) (hy : y < 256) : bits .xor .u8 (y : Int) (2 ^ (k % 8) % 256) = ((y ^^^ 2 ^ (k % 8) : Nat) : Int) := by
  have e : ((2 : Int) ^ (k % 8)) = (((2 : Nat) ^ (k % 8) : Nat) : Int) := by rw [Int.natCast_pow]; rfl
  have hp : (2 : Nat) ^ (k % 8) < 2 ^ 8 := Nat.pow_lt_pow_right (by decide) (by omega)
  rw [e]
  generalize (2 : Nat) ^ (k % 8) = q at *
  rw [show (q : Int) % 256 = (q : Int) by omega, u8_xor_nat _ _ (by omega) (by omega)]
set_option maxRecDepth 100000 in
theorem specFlipP_any (raw : ByteArray) (k : Int) (s : ByteArray) (c : Int) (w : World) (h : FlipEnds raw k s c) (hs : raw.size ≤ 9223372036854775807) :
    Calls Tryz.prog 45 #[.string raw, .int .i64 k] w (PairPost s c w) := by
  rcases h with h | ⟨h, h1⟩ | ⟨h, n, rfl, h1⟩
  · have hd : ((raw.size : Int) != 91) = true := by simp; omega
    go_enter Tryz.func45, Tryz.ntmps45
    go_wp2
    go_ret2
    exact ⟨rfl, Below.refl _ _⟩
  · have hd : ((raw.size : Int) != 91) = false := by rw [h]; rfl
    go_enter Tryz.func45, Tryz.ntmps45
    go_wp2_with fail
    refine (inr_no k 0 727 w h1).mono ?_
    rintro e w' ⟨rfl, rfl⟩
    go_wp2
    go_ret2
    exact ⟨rfl, Below.refl _ _⟩
  · have hd : ((raw.size : Int) != 91) = false := by rw [h]; rfl
    have HI := Lib.hid (fun (W : World) => inr_yes (n : Int) 0 727 W (by omega) (by omega))
    have HSZ := Lib.hid h
    have hI2 : (n : Int) / 8 < (raw.size : Int) := by omega
    have hI3 : (n : Int) ≤ 727 := by omega
    have hyl := byteAt_le raw (n / 8)
    have HX := Lib.hid (flip_byte (byteAt raw (n / 8)) n (by omega))
    have HG := Lib.hid (byteNums_get raw (n / 8) (by omega))
    clear h h1
    unfold flipP flipL
    generalize hy : byteAt raw (n / 8) = y at *
    clear hy
    go_enter Tryz.func45, Tryz.ntmps45
    go_wp2_with fail
    refine (HI.out _).mono ?_
    rintro e w' ⟨rfl, rfl⟩
    go_wp2_with (refine wpList_str_bytes rfl _ rfl raw rfl (Below.refl w.heap.size w) (Nat.le_refl _) ?_; intro cap w1 hat hz1 hb1; go_must (
      have hlen := byteNums_length raw
      change BytesAt w1 w.heap.size (byteNums raw) at hat
      have hcell := (hat (n / 8) (by have := HSZ.out; omega)).1
      have hfree := (hat (n / 8) (by have := HSZ.out; omega)).2
      rw [HG.out] at hcell
      have hset := hat.set_ (k := n / 8) (by have := HSZ.out; omega) ((y ^^^ 2 ^ (n % 8) : Nat) : Int)
      have hcv := hset.str (cap := cap)
      rw [List.length_set, hlen] at hcv
      have hcv2 := hcv
      rw [← HX.out] at hcv2
      have HE := Lib.hid hcv
      have hbe := hb1.setCell (p := ⟨w.heap.size, n / 8, none⟩) (Nat.le_refl _) (.int .u8 (bits .xor .u8 (y : Int) (2 ^ (n % 8) % 256)))
      clear hat hset hcv hlen))
    go_ret2
    exact ⟨by rw [HX.out]; rfl, hbe⟩
end Go.Proofs.YtlmdpdidjldkpaaGreatDoor
/- Chapter 5's generators: bytes, an address, a raw page. Only that each returns, within its bounds, is said. -/
namespace Go.Proofs.YtlmdpdidjldkpaaGreatDoor
open Go.RowKit
set_option linter.unusedVariables false
def TxE (m : Nat) (v : Value) : Prop := ∃ s : ByteArray, v = .string s ∧ s.size = m
set_option maxRecDepth 100000 in
theorem l05Bytes_any (B g n m : Nat) (w : World) (h : Src w B g n) (hn : n ≤ 800000000000) (hm : m ≤ 100) :
    Calls Tryz.prog 43 #[.pointer (some ⟨g, 0, none⟩), .int .i64 m] w (Chose (TxE m) B g (n + 200) w) := by
  have hlt := h.lt
  have hmi : (m : Int) ≤ 100 := by omega
  go_enter Tryz.func43, Tryz.ntmps43
  go_wp2_with fail
  refine (one_any B g n 3 _ h (by omega) (by omega) (by omega)).mono ?_
  rintro e w1 ⟨v1, rfl, ⟨b, rfl⟩, hS1, hg1⟩
  clear h
  have hz1 := hg1.size
  cases b
  · have h0 := hS1.keep ((Below.refl w1.heap.size w1).alloc (Nat.le_refl _) (.cells #[] 5))
    have hg0 : w1.grownBy (w1.alloc (.cells #[] 5)) (some g) := World.grownBy_alloc w1 _ _
    have hown0 := BytesOwn.made w1 hz1
    have hgr0 := grown_trans hg1 hg0
    clear hS1 hg1 hg0
    go_wp2
    go_loopw [5, 6] (fun v i wr => ∃ (k : Nat) (l : List Int), k ≤ m ∧ i = .int .i64 k ∧ l.length = k ∧ BytesOwn wr w.heap.size v l ∧ Src wr B g (n + 2 + k) ∧ w.grownBy wr (some g)) (fun _ i _ => m - (intOf i).toNat)
    case atStart => exact ⟨0, [], by omega, rfl, rfl, hown0, h0, hgr0⟩
    case round =>
      clear hown0 h0 hgr0
      obtain ⟨k, l, hk, rfl, hl, hown, hS, hgr⟩ := hrel
      have hz := hgr.size
      by_cases hk0 : k < m
      · have hki : (k : Int) < (m : Int) := by omega
        go_wp2_with (first
          | (
             go_at_call 39; refine (next_any B g (n + 2 + k) _ hS (by omega)).mono ?_; rintro e w2 ⟨v2, rfl, ⟨y, rfl, hy0, hy1⟩, hS2, hg2⟩
             have hown2 := hown.grown hg2 hlt
             have hgr2 := grown_trans hgr hg2
             have hz2 := hgr2.size
             clear hown hS hgr hg2)
          | (
             at_builtin; refine wpList_append_byte rfl _ _ rfl _ l rfl hown2 (Below.refl _ _) hz2 _ _ rfl (by omega) ?_
             intro v' w3 hown3 hb3
             have hS3 := hS2.keepB hb3 hlt
             have hgr3 := grown_below hgr2 hb3
             clear hown2 hS2 hgr2 hb3))
        go_roundw
        case rel => exact ⟨k + 1, _, by omega, by go_num, by simp [hl], hown3, hS3, hgr3⟩
        case measure => simp [intOf]; omega
      · obtain rfl : k = m := by omega
        have hcv := bytes_str hown
        have hls : (strOfNums l).size = l.length := strOfNums_size l
        have HL := Lib.hid hls
        have HLL := Lib.hid hl
        clear hls hl
        go_wp2
        go_ret
        exact ⟨_, rfl, ⟨_, rfl, by rw [HL.out, HLL.out]⟩, hS.more (by omega), hgr⟩
  · go_wp2_with fail
    refine (next_any B g (n + 2) _ hS1 (by omega)).mono ?_
    rintro e w2 ⟨v2, rfl, ⟨y, rfl, hy0, hy1⟩, hS2, hg2⟩
    obtain ⟨c, rfl⟩ := Int.eq_ofNat_of_zero_le hy0
    have HF := Lib.hid (fun (W : World) => fill_any c m W (by omega) (by omega))
    have hgr2 := grown_trans hg1 hg2
    clear hy0 hS1 hg1 hg2
    have hf := fillB_size c m
    go_wp2_with fail
    refine (HF.out _).mono ?_
    rintro e w3 ⟨rfl, hb3⟩
    have hS3 := hS2.keep hb3
    have hgr3 := grown_below hgr2 (hb3.mono hgr2.size)
    clear hS2 hgr2 hb3
    go_wp2
    go_ret
    exact ⟨_, rfl, ⟨_, rfl, hf⟩, hS3.more (by omega), hgr3⟩
theorem l05Page_any (B g n : Nat) (w : World) (h : Src w B g n) (hn : n ≤ 800000000000) :
    Calls Tryz.prog 42 #[.pointer (some ⟨g, 0, none⟩)] w (Chose (IntIn (-1) 65535) B g (n + 4) w) := by
  have hlt := h.lt
  have HP : Hid (pickMax 600 = 599) := by show _ = _; decide
  go_enter Tryz.func42, Tryz.ntmps42
  go_wp2_with fail
  refine (pick_any B g n 600 _ h (by omega) (by omega) (by omega)).mono ?_
  rintro e w1 ⟨v1, rfl, ⟨x, rfl, hx0, hx1⟩, hS1, hg1⟩
  rw [HP.out] at hx1
  clear h
  have hz1 := hg1.size
  have hne : w1.heap.size ≠ g := by omega
  go_wp2_with fail
  refine (among_any (fun x => -1 ≤ x ∧ x ≤ 65535) B g (n + 2) w1.heap.size 10 10 _ ?_ (by omega) (by omega) (by omega) hne ?_).mono ?_
  · exact hS1.keep ((Below.refl _ _).alloc (Nat.le_refl _) _)
  · refine newCells _ _ _ 10 rfl ?_
    intro v hv
    simp only [List.mem_cons, List.not_mem_nil, or_false] at hv
    rcases hv with rfl | rfl | rfl | rfl | rfl | rfl | rfl | rfl | rfl | rfl <;> exact ⟨_, rfl, by constructor <;> omega⟩
  rintro e w2 ⟨v2, rfl, ⟨y, rfl, hy0, hy1⟩, hS2, hg2⟩
  go_wp2
  go_ret
  exact ⟨_, rfl, ⟨y, rfl, hy0, hy1⟩, hS2, grown_trans hg1 (grown_trans (World.grownBy_alloc w1 _ _) hg2)⟩
theorem minr_any (a b : Int) (w : World) : Calls Tryz.prog 41 #[.int .i64 a, .int .i64 b] w fun e w' => e = .returned (.int .i64 (min a b)) ∧ w = w' := by
  by_cases h : a < b
  · have hm : min a b = a := by omega
    rw [hm]
    go_enter Tryz.func41, Tryz.ntmps41
    go_wp2
    go_ret
    exact ⟨rfl, rfl⟩
  · have hm : min a b = b := by omega
    rw [hm]
    have h' : b ≤ a := by omega
    go_enter Tryz.func41, Tryz.ntmps41
    go_wp2
    go_ret
    exact ⟨rfl, rfl⟩
theorem maxr_any (a b : Int) (w : World) : Calls Tryz.prog 40 #[.int .i64 a, .int .i64 b] w fun e w' => e = .returned (.int .i64 (max a b)) ∧ w = w' := by
  by_cases h : b < a
  · have hm : max a b = a := by omega
    rw [hm]
    go_enter Tryz.func40, Tryz.ntmps40
    go_wp2
    go_ret
    exact ⟨rfl, rfl⟩
  · have hm : max a b = b := by omega
    rw [hm]
    have h' : a ≤ b := by omega
    go_enter Tryz.func40, Tryz.ntmps40
    go_wp2
    go_ret
    exact ⟨rfl, rfl⟩
end Go.Proofs.YtlmdpdidjldkpaaGreatDoor
/- Chapter 5's generator of a raw page. Only that it returns, within its bounds, is said. -/
namespace Go.Proofs.YtlmdpdidjldkpaaGreatDoor
open Go.RowKit
set_option linter.unusedVariables false
def RawAny (v : Value) : Prop := ∃ (s : ByteArray) (p : Int), v = .tuple #[.string s, .int .i64 p] ∧ s.size ≤ 400 ∧ 0 ≤ p ∧ p ≤ 65534
set_option maxHeartbeats 1000000 in
set_option maxRecDepth 100000 in
theorem l05Raw_any (B g n : Nat) (w : World) (h : Src w B g n) (hn : n ≤ 600000000000) :
    Calls Tryz.prog 21 #[.pointer (some ⟨g, 0, none⟩)] w (Chose RawAny B g (n + 4000) w) := by
  have hlt := h.lt
  have HP : Hid (pickMax 728 = 727) := by show _ = _; decide
  have HP2 : Hid (pickMax 12 = 11) := by show _ = _; decide
  have HP3 : Hid (pickMax 92 = 91) := by show _ = _; decide
  go_enter Tryz.func21, Tryz.ntmps21
  go_wp2_with fail
  refine (l05Page_any B g n _ h (by omega)).mono ?_
  rintro e w1 ⟨v1, rfl, ⟨x, rfl, hx0, hx1⟩, hS1, hg1⟩
  clear h
  go_wp2_with fail
  refine (minr_any _ _ _).mono ?_
  rintro e w' ⟨rfl, rfl⟩
  go_wp2_with fail
  refine (maxr_any _ _ _).mono ?_
  rintro e w' ⟨rfl, rfl⟩
  obtain ⟨pn, hpn, hpl⟩ : ∃ pn : Nat, max 0 (min x 65534) = (pn : Int) ∧ pn ≤ 65534 := ⟨(max 0 (min x 65534)).toNat, by omega, by omega⟩
  rw [hpn]
  clear hpn hx0 hx1
  go_wp2_with fail
  refine (l05Bytes_any B g (n + 4) 64 _ hS1 (by omega) (by omega)).mono ?_
  rintro e w2 ⟨v2, rfl, ⟨D, rfl, hD⟩, hS2, hg2⟩
  have G2 := grown_trans hg1 hg2
  clear hS1 hg1 hg2
  go_wp2_with fail
  refine (l05Bytes_any B g (n + 4 + 200) 16 _ hS2 (by omega) (by omega)).mono ?_
  rintro e w3 ⟨v3, rfl, ⟨S, rfl, hS⟩, hS3, hg3⟩
  have G3 := grown_trans G2 hg3
  clear hS2 G2 hg3
  have HSL := Lib.hid (fun (W : World) => l05Seal_any D S pn W hD hS hpl)
  have hRs := sealB_size (p := pn) hD hS
  generalize sealB D S pn = R at *
  go_wp2_with fail
  refine (HSL.out _).mono ?_
  rintro e w4 ⟨rfl, b4⟩
  have hS4 := hS3.keep b4
  have G4 := grown_below G3 (b4.mono G3.size)
  clear hS3 G3 b4 HSL hD hS
  have hz4 := G4.size
  have hne : w4.heap.size ≠ g := by omega
  go_wp2_with fail
  refine (among_any (fun x => 0 ≤ x ∧ x ≤ 3) B g (n + 4 + 200 + 200) w4.heap.size 5 5 _ ?_ (by omega) (by omega) (by omega) hne ?_).mono ?_
  · exact hS4.keep ((Below.refl _ _).alloc (Nat.le_refl _) _)
  · refine newCells _ _ _ 5 rfl ?_
    intro v hv
    simp only [List.mem_cons, List.not_mem_nil, or_false] at hv
    rcases hv with rfl | rfl | rfl | rfl | rfl <;> exact ⟨_, rfl, by constructor <;> omega⟩
  rintro e w5 ⟨v5, rfl, ⟨y, rfl, hy0, hy1⟩, hS5, hg5⟩
  have G5 := grown_trans G4 (grown_trans (World.grownBy_alloc w4 _ _) hg5)
  obtain ⟨K, rfl⟩ := Int.eq_ofNat_of_zero_le hy0
  have HK := Lib.hid hy1
  clear hS4 G4 hg5 hne hz4 hy0 hy1
  go_wp2
  go_loopw [6, 7] (fun t i wr => ∃ (k : Nat) (T : ByteArray), k ≤ K ∧ i = .int .i64 k ∧ t = .string T ∧ T.size = 91 ∧ Src wr B g (n + 450 + 2 * (K - k)) ∧ w.grownBy wr (some g)) (fun _ i _ => (intOf i).toNat)
  case atStart => exact ⟨K, R, by omega, rfl, rfl, hRs, hS5.more (by omega), G5⟩
  case round =>
    clear hS5 G5 hRs
    obtain ⟨k, T, hk, rfl, rfl, hT, hS5, G5⟩ := hrel
    have hk3 : (k : Int) ≤ 3 := by have := HK.out; omega
    have HTS := Lib.hid hT
    clear hT
    by_cases hk0 : 0 < k
    · have hki : (0 : Int) < (k : Int) := by omega
      go_wp2_with fail
      refine (pick_any B g _ 728 _ hS5 (by have := HK.out; omega) (by omega) (by omega)).mono ?_
      rintro e w6 ⟨v6, rfl, ⟨z, rfl, hz0, hz1⟩, hS6, hg6⟩
      rw [HP.out] at hz1
      obtain ⟨b, rfl⟩ := Int.eq_ofNat_of_zero_le hz0
      have G6 := grown_trans G5 hg6
      have HF := Lib.hid (specFlipP_any T b (flipP T b) 0 w6 (.done HTS.out b rfl (by omega)) (by have := HTS.out; omega))
      have HFS := Lib.hid (show (flipP T b).size = 91 from by rw [flipP_size]; exact HTS.out)
      generalize flipP T b = T2 at *
      clear hS5 G5 hg6 hz0 hz1
      go_wp2_with fail
      refine HF.out.mono ?_
      rintro e w7 ⟨rfl, b7⟩
      have hS7 := hS6.keep b7
      have G7 := grown_below G6 (b7.mono G6.size)
      clear hS6 G6 b7 HF
      go_wp2
      go_roundw
      case rel => exact ⟨k - 1, T2, by omega, by go_num, rfl, HFS.out, hS7.more (by omega), G7⟩
      case measure => simp [intOf]; omega
    · obtain rfl : k = 0 := by omega
      have hS5 := hS5.more (n' := n + 500) (by have := HK.out; omega)
      go_wp2_with fail
      refine (pick_any B g _ 12 _ hS5 (by omega) (by omega) (by omega)).mono ?_
      rintro e w6 ⟨v6, rfl, ⟨z, rfl, hz0, hz1⟩, hS6, hg6⟩
      have G6 := grown_trans G5 hg6
      clear hS5 G5 hg6 hz1
      by_cases h0 : z = 0
      · subst h0
        go_wp2_with fail
        refine (pick_any B g _ 92 _ hS6 (by omega) (by omega) (by omega)).mono ?_
        rintro e w7 ⟨v7, rfl, ⟨q, rfl, hq0, hq1⟩, hS7, hg7⟩
        rw [HP3.out] at hq1
        obtain ⟨b, rfl⟩ := Int.eq_ofNat_of_zero_le hq0
        have G7 := grown_trans G6 hg7
        have HF := Lib.hid (torn_any T b w7 HTS.out (by omega))
        have HFS := Lib.hid (tornB_size HTS.out (show b ≤ 91 by omega))
        generalize tornB T b = T2 at *
        clear hS6 G6 hg7 hq0 hq1
        go_wp2_with fail
        refine HF.out.mono ?_
        rintro e w8 ⟨rfl, b8⟩
        have hS8 := hS7.keep b8
        have G8 := grown_below G7 (b8.mono G7.size)
        go_wp2
        go_ret2
        exact ⟨_, rfl, ⟨_, _, rfl, by have := HFS.out; omega, by omega, by omega⟩, hS8.more (by omega), G8⟩
      · have hb0 : (z == 0) = false := by simpa using h0
        by_cases h1 : z = 1
        · subst h1
          go_wp2_with fail
          refine (damage_any B g _ T _ hS6 (by omega) (by have := HTS.out; omega)).mono ?_
          rintro e w7 ⟨v7, rfl, ⟨T2, rfl, hT2⟩, hS7, hg7⟩
          have G7 := grown_trans G6 hg7
          clear hS6 G6 hg7
          go_wp2
          go_ret2
          exact ⟨_, rfl, ⟨_, _, rfl, hT2, by omega, by omega⟩, hS7.more (by omega), G7⟩
        · have hb1 : (z == 1) = false := by simpa using h1
          by_cases h2 : z = 2
          · subst h2
            have hf := fillB_size 255 91
            go_wp2_with fail
            refine (specErased_any _).mono ?_
            rintro e w7 ⟨rfl, b7⟩
            have hS7 := hS6.keep b7
            have G7 := grown_below G6 (b7.mono G6.size)
            clear hS6 G6 b7
            go_wp2
            go_ret2
            exact ⟨_, rfl, ⟨_, _, rfl, by omega, by omega, by omega⟩, hS7.more (by omega), G7⟩
          · have hb2 : (z == 2) = false := by simpa using h2
            go_wp2
            go_ret2
            exact ⟨_, rfl, ⟨_, _, rfl, by have := HTS.out; omega, by omega, by omega⟩, hS6.more (by omega), G6⟩
end Go.Proofs.YtlmdpdidjldkpaaGreatDoor
/- Arrays in memory: what is read, what the call itself owns; the laws of frames and stores. -/
namespace Go.Proofs.YtlmdpdidjldkpaaGreatDoor
open Go.RowKit
set_option linter.unusedVariables false

/-- In both worlds the blocks from lo up to hi are alike. -/
def Same (lo hi : Nat) (w w' : World) : Prop := ∀ j, lo ≤ j → j < hi → w'.heap[j]? = w.heap[j]?
section
variable {w w' : World} {lo hi B : Nat}
theorem Same.cell (h : Same lo hi w w') {p : Addr} (h1 : lo ≤ p.block) (h2 : p.block < hi) : w'.cell? p = w.cell? p := World.cell?_of_block (w := w) (h p.block h1 h2)
theorem Same.frozen (h : Same lo hi w w') {p : Addr} (h1 : lo ≤ p.block) (h2 : p.block < hi) : w'.frozen? p = w.frozen? p := World.frozen?_of_block (w := w) (h p.block h1 h2)
theorem sm (h : Below B w w') (lo : Nat) {hi : Nat} (hB : hi ≤ B) : Same lo hi w w' := fun j _ h2 => h.block j (by omega)
theorem Same.setCell (h : Same lo hi w w') {p : Addr} (hp : p.block < lo ∨ hi ≤ p.block) (u : Value) : Same lo hi w (w'.setCell p u) := fun j h1 h2 => (Below.heap_setCell w' p u j (by omega)).trans (h j h1 h2)
theorem sset (h : Same lo hi w w') {g k : Nat} (hp : g < lo ∨ hi ≤ g) (u : Value) : Same lo hi w (w'.setCell ⟨g, k, none⟩ u) := h.setCell (p := ⟨g, k, none⟩) hp u
theorem Same.refl (lo hi : Nat) (w : World) : Same lo hi w w := fun _ _ _ => rfl
theorem Same.trans {w'' : World} (h : Same lo hi w w') (k : Same lo hi w' w'') : Same lo hi w w'' := fun j h1 h2 => (k j h1 h2).trans (h j h1 h2)
theorem Same.mono {lo' hi' : Nat} (h : Same lo hi w w') (h1 : lo ≤ lo') (h2 : hi' ≤ hi) : Same lo' hi' w w' := fun j a b => h j (by omega) (by omega)
end

/-- The value v is a slice, in the blocks from lo up to hi, that reads as the texts L. -/
def PgIn (w : World) (lo hi : Nat) (v : Value) (L : List ByteArray) : Prop :=
  ∃ A len cap, v = .slice A len cap ∧ len ≤ cap ∧ cap ≤ 9223372036854775807 ∧ L.length = len ∧ (∀ i, i < len → (L.getD i ByteArray.empty).size ≤ 9223372036854775807) ∧
    (0 < len → ∃ b off, A = some ⟨b, off, none⟩ ∧ lo ≤ b ∧ b < hi ∧ ∀ i, i < len → w.cell? ⟨b, off + i, none⟩ = some (.string (L.getD i ByteArray.empty)))
/-- The four cells of a block. -/
def BkAt (w : World) (g o : Nat) (x : Blk) (pv : Value) : Prop :=
  w.cell? ⟨g, o, none⟩ = some (.int .i64 x.er) ∧ w.cell? ⟨g, o + 1, none⟩ = some (.int .i64 x.nx) ∧ w.cell? ⟨g, o + 2, none⟩ = some (.bool x.bad) ∧ w.cell? ⟨g, o + 3, none⟩ = some pv
/-- The value v is a slice that reads as the blocks L. -/
def BksIn (w : World) (lo hi : Nat) (v : Value) (L : List Blk) : Prop :=
  ∃ A len cap, v = .slice A len cap ∧ len ≤ cap ∧ cap ≤ 9223372036854775807 ∧ L.length = len ∧
    (0 < len → ∃ g off, A = some ⟨g, off, none⟩ ∧ lo ≤ g ∧ g < hi ∧ ∀ i, i < len → ∃ pv, BkAt w g (off + i * 4) (L.getD i Blk.zero) pv ∧ PgIn w lo hi pv (L.getD i Blk.zero).pg)
/-- The cells of an array whose blocks are the slice v. -/
def flc (F : Fl) (v : Value) : Array Value := #[.int .i64 F.d, .int .i64 F.b, .int .i64 F.p, v, .int .i64 F.fu, .int .i64 F.ke, .bool F.off, .int .i64 F.op]
def FlIn (w : World) (lo hi : Nat) (v : Value) (F : Fl) : Prop := ∃ u, v = .agg (flc F u) ∧ BksIn w lo hi u F.bs
section
variable {w w' : World} {lo hi lo' hi' : Nat} {v : Value}
theorem PgIn.same {L : List ByteArray} (h : PgIn w lo hi v L) (hs : Same lo hi w w') : PgIn w' lo hi v L := by
  obtain ⟨A, len, cap, e, h1, h2, h3, h4, hc⟩ := h
  refine ⟨A, len, cap, e, h1, h2, h3, h4, fun h0 => ?_⟩
  obtain ⟨b, off, e, h1, h2, hx⟩ := hc h0
  exact ⟨b, off, e, h1, h2, fun i hi => (hs.cell (p := ⟨b, off + i, none⟩) h1 h2).trans (hx i hi)⟩
theorem PgIn.wide {L : List ByteArray} (h : PgIn w lo hi v L) (hl : lo' ≤ lo) (hh : hi ≤ hi') : PgIn w lo' hi' v L := by
  obtain ⟨A, len, cap, e, h1, h2, h3, h4, hc⟩ := h
  refine ⟨A, len, cap, e, h1, h2, h3, h4, fun h0 => ?_⟩
  obtain ⟨b, off, e, h1, h2, hx⟩ := hc h0
  exact ⟨b, off, e, by omega, by omega, hx⟩
theorem BkAt.same {g o : Nat} {x : Blk} {pv : Value} (h : BkAt w g o x pv) (hs : Same lo hi w w') (h1 : lo ≤ g) (h2 : g < hi) : BkAt w' g o x pv :=
  ⟨(hs.cell (p := ⟨g, o, none⟩) h1 h2).trans h.1, (hs.cell (p := ⟨g, o + 1, none⟩) h1 h2).trans h.2.1, (hs.cell (p := ⟨g, o + 2, none⟩) h1 h2).trans h.2.2.1, (hs.cell (p := ⟨g, o + 3, none⟩) h1 h2).trans h.2.2.2⟩
theorem BksIn.same {L : List Blk} (h : BksIn w lo hi v L) (hs : Same lo hi w w') : BksIn w' lo hi v L := by
  obtain ⟨A, len, cap, e, h1, h2, h3, hc⟩ := h
  refine ⟨A, len, cap, e, h1, h2, h3, fun h0 => ?_⟩
  obtain ⟨g, off, e, h1, h2, hx⟩ := hc h0
  refine ⟨g, off, e, h1, h2, fun i hi => ?_⟩
  obtain ⟨pv, a, b⟩ := hx i hi
  exact ⟨pv, a.same hs h1 h2, b.same hs⟩
theorem BksIn.wide {L : List Blk} (h : BksIn w lo hi v L) (hl : lo' ≤ lo) (hh : hi ≤ hi') : BksIn w lo' hi' v L := by
  obtain ⟨A, len, cap, e, h1, h2, h3, hc⟩ := h
  refine ⟨A, len, cap, e, h1, h2, h3, fun h0 => ?_⟩
  obtain ⟨g, off, e, h1, h2, hx⟩ := hc h0
  refine ⟨g, off, e, by omega, by omega, fun i hi => ?_⟩
  obtain ⟨pv, a, b⟩ := hx i hi
  exact ⟨pv, a, b.wide hl hh⟩
theorem FlIn.same {F : Fl} (h : FlIn w lo hi v F) (hs : Same lo hi w w') : FlIn w' lo hi v F := by
  obtain ⟨u, e, h⟩ := h; exact ⟨u, e, h.same hs⟩
theorem FlIn.wide {F : Fl} (h : FlIn w lo hi v F) (hl : lo' ≤ lo) (hh : hi ≤ hi') : FlIn w lo' hi' v F := by
  obtain ⟨u, e, h⟩ := h; exact ⟨u, e, h.wide hl hh⟩
end

/-- A slice of texts in memory of the call's own: beside block g, nothing frozen. -/
def PgOwn (w : World) (lo hi g : Nat) (v : Value) (L : List ByteArray) : Prop :=
  ∃ A len cap, v = .slice A len cap ∧ len ≤ cap ∧ cap ≤ 9223372036854775807 ∧ L.length = len ∧ (∀ i, i < len → (L.getD i ByteArray.empty).size ≤ 9223372036854775807) ∧
    (0 < len → ∃ b off, A = some ⟨b, off, none⟩ ∧ lo ≤ b ∧ b < hi ∧ b ≠ g ∧ (∀ k, w.frozen? ⟨b, k, none⟩ = false) ∧ ∀ i, i < len → w.cell? ⟨b, off + i, none⟩ = some (.string (L.getD i ByteArray.empty)))
/-- Two slices share no cell. -/
def Apart (v u : Value) : Prop := ∀ a n c a' n' c', v = .slice (some a) n c → u = .slice (some a') n' c' → 0 < n → 0 < n' → a.block ≠ a'.block ∨ a.off + n ≤ a'.off ∨ a'.off + n' ≤ a.off
theorem Apart.symm {v u : Value} (h : Apart v u) : Apart u v := fun a n c a' n' c' e1 e2 h1 h2 => by
  rcases h a' n' c' a n c e2 e1 h2 h1 with h | h | h
  · exact .inl fun e => h e.symm
  · exact .inr (.inr h)
  · exact .inr (.inl h)
/-- Block g holds the blocks L, whose pages' slices are pv 0, pv 1, ..: all of it the call's own. -/
structure BO (w : World) (lo hi g : Nat) (pv : Nat → Value) (L : List Blk) : Prop where
  low : lo ≤ g
  high : g < hi
  free : ∀ k, w.frozen? ⟨g, k, none⟩ = false
  row : ∀ i, i < L.length → BkAt w g (i * 4) (L.getD i Blk.zero) (pv i)
  pgs : ∀ i, i < L.length → PgOwn w lo hi g (pv i) (L.getD i Blk.zero).pg
  apart : ∀ i j, i < L.length → j < L.length → i ≠ j → Apart (pv i) (pv j)
/-- The value v is a slice of blocks of the call's own. -/
def BksOwn (w : World) (lo hi : Nat) (v : Value) (L : List Blk) : Prop :=
  ∃ A len cap, v = .slice A len cap ∧ len ≤ cap ∧ cap ≤ 9223372036854775807 ∧ L.length = len ∧ (0 < len → ∃ g pv, A = some ⟨g, 0, none⟩ ∧ BO w lo hi g pv L)
def FlOwn (w : World) (lo hi : Nat) (v : Value) (F : Fl) : Prop := ∃ u, v = .agg (flc F u) ∧ BksOwn w lo hi u F.bs
section
variable {w w' : World} {lo hi lo' hi' g : Nat} {v : Value}
theorem PgOwn.same {L : List ByteArray} (h : PgOwn w lo hi g v L) (hs : Same lo hi w w') : PgOwn w' lo hi g v L := by
  obtain ⟨A, len, cap, e, h1, h2, h3, h4, hc⟩ := h
  refine ⟨A, len, cap, e, h1, h2, h3, h4, fun h0 => ?_⟩
  obtain ⟨b, off, e, h1, h2, h3, hf, hx⟩ := hc h0
  exact ⟨b, off, e, h1, h2, h3, fun k => (hs.frozen (p := ⟨b, k, none⟩) h1 h2).trans (hf k), fun i hi => (hs.cell (p := ⟨b, off + i, none⟩) h1 h2).trans (hx i hi)⟩
theorem PgOwn.wide {L : List ByteArray} (h : PgOwn w lo hi g v L) (hl : lo' ≤ lo) (hh : hi ≤ hi') : PgOwn w lo' hi' g v L := by
  obtain ⟨A, len, cap, e, h1, h2, h3, h4, hc⟩ := h
  refine ⟨A, len, cap, e, h1, h2, h3, h4, fun h0 => ?_⟩
  obtain ⟨b, off, e, h1, h2, hx⟩ := hc h0
  exact ⟨b, off, e, by omega, by omega, hx⟩
theorem PgOwn.reads {L : List ByteArray} (h : PgOwn w lo hi g v L) : PgIn w lo hi v L := by
  obtain ⟨A, len, cap, e, h1, h2, h3, h4, hc⟩ := h
  refine ⟨A, len, cap, e, h1, h2, h3, h4, fun h0 => ?_⟩
  obtain ⟨b, off, e, h1, h2, h3, hf, hx⟩ := hc h0
  exact ⟨b, off, e, h1, h2, hx⟩
theorem BO.same {pv : Nat → Value} {L : List Blk} (h : BO w lo hi g pv L) (hs : Same lo hi w w') : BO w' lo hi g pv L :=
  ⟨h.low, h.high, fun k => (hs.frozen (p := ⟨g, k, none⟩) h.low h.high).trans (h.free k), fun i hi => (h.row i hi).same hs h.low h.high, fun i hi => (h.pgs i hi).same hs, h.apart⟩
theorem BO.wide {pv : Nat → Value} {L : List Blk} (h : BO w lo hi g pv L) (hl : lo' ≤ lo) (hh : hi ≤ hi') : BO w lo' hi' g pv L :=
  ⟨Nat.le_trans hl h.low, Nat.lt_of_lt_of_le h.high hh, h.free, h.row, fun i hi => (h.pgs i hi).wide hl hh, h.apart⟩
theorem BksOwn.same {L : List Blk} (h : BksOwn w lo hi v L) (hs : Same lo hi w w') : BksOwn w' lo hi v L := by
  obtain ⟨A, len, cap, e, h1, h2, h3, hc⟩ := h
  refine ⟨A, len, cap, e, h1, h2, h3, fun h0 => ?_⟩
  obtain ⟨g, pv, e, hb⟩ := hc h0
  exact ⟨g, pv, e, hb.same hs⟩
theorem BksOwn.wide {L : List Blk} (h : BksOwn w lo hi v L) (hl : lo' ≤ lo) (hh : hi ≤ hi') : BksOwn w lo' hi' v L := by
  obtain ⟨A, len, cap, e, h1, h2, h3, hc⟩ := h
  refine ⟨A, len, cap, e, h1, h2, h3, fun h0 => ?_⟩
  obtain ⟨g, pv, e, hb⟩ := hc h0
  exact ⟨g, pv, e, hb.wide hl hh⟩
theorem BksOwn.reads {L : List Blk} (h : BksOwn w lo hi v L) : BksIn w lo hi v L := by
  obtain ⟨A, len, cap, e, h1, h2, h3, hc⟩ := h
  refine ⟨A, len, cap, e, h1, h2, h3, fun h0 => ?_⟩
  obtain ⟨g, pv, e, hb⟩ := hc h0
  refine ⟨g, 0, e, hb.low, hb.high, fun i hi => ⟨pv i, ?_, (hb.pgs i (by omega)).reads⟩⟩
  rw [Nat.zero_add]; exact hb.row i (by omega)
theorem FlOwn.same {F : Fl} (h : FlOwn w lo hi v F) (hs : Same lo hi w w') : FlOwn w' lo hi v F := by
  obtain ⟨u, e, h⟩ := h; exact ⟨u, e, h.same hs⟩
theorem FlOwn.wide {F : Fl} (h : FlOwn w lo hi v F) (hl : lo' ≤ lo) (hh : hi ≤ hi') : FlOwn w lo' hi' v F := by
  obtain ⟨u, e, h⟩ := h; exact ⟨u, e, h.wide hl hh⟩
theorem FlOwn.reads {F : Fl} (h : FlOwn w lo hi v F) : FlIn w lo hi v F := by
  obtain ⟨u, e, h⟩ := h; exact ⟨u, e, h.reads⟩
theorem FlOwn.zero (w : World) (lo hi : Nat) : FlOwn w lo hi (.agg (flc Fl.zero (.slice none 0 0))) Fl.zero := ⟨_, rfl, none, 0, 0, rfl, Nat.le_refl _, by omega, rfl, fun h => by omega⟩
/-- A store into a field of block k. -/
theorem getD_set_eq {α : Type} (L : List α) (k : Nat) (x d : α) (h : k < L.length) : (L.set k x).getD k d = x := by simp [List.getD_eq_getElem?_getD, h]
theorem getD_set_ne {α : Type} (L : List α) (k i : Nat) (x d : α) (h : k ≠ i) : (L.set k x).getD i d = L.getD i d := by simp [List.getD_eq_getElem?_getD, List.getElem?_set_ne h]
theorem addr_ne {g g' o o' : Nat} (h : g = g' → o ≠ o') : (⟨g, o, none⟩ : Addr) ≠ ⟨g', o', none⟩ := fun e => by injection e with h1 h2; exact h h1 h2
theorem PgOwn.far {L : List ByteArray} (h : PgOwn w lo hi g v L) (k : Nat) (u : Value) : PgOwn (w.setCell ⟨g, k, none⟩ u) lo hi g v L := by
  obtain ⟨A, len, cap, e, h1, h2, h3, h4, hc⟩ := h
  refine ⟨A, len, cap, e, h1, h2, h3, h4, fun h0 => ?_⟩
  obtain ⟨b, off, e, h1, h2, h3, hf, hx⟩ := hc h0
  exact ⟨b, off, e, h1, h2, h3, fun k => by rw [World.frozen?_setCell]; exact hf k, fun i hi => by rw [World.cell?_setCell_other w _ _ _ (addr_ne fun e => absurd e.symm h3)]; exact hx i hi⟩
/-- What a store of the value u into cell c (0 .. 3) of a block makes of it. -/
def Blk.put (x : Blk) : Nat → Value → Blk
  | 0, .int .i64 n => { x with er := n }
  | 1, .int .i64 n => { x with nx := n }
  | 2, .bool b => { x with bad := b }
  | _, _ => x
theorem BO.store {pv : Nat → Value} {L : List Blk} (h : BO w lo hi g pv L) {k c : Nat} (hk : k < L.length) (u : Value) (hc : (c = 0 ∧ ∃ n, u = .int .i64 n) ∨ (c = 1 ∧ ∃ n, u = .int .i64 n) ∨ (c = 2 ∧ ∃ b, u = .bool b)) :
    BO (w.setCell ⟨g, k * 4 + c, none⟩ u) lo hi g pv (L.set k ((L.getD k Blk.zero).put c u)) := by
  have hc3 : c < 3 := by omega
  have hpg : ∀ i, i < L.length → ((L.set k ((L.getD k Blk.zero).put c u)).getD i Blk.zero).pg = (L.getD i Blk.zero).pg := by
    intro i hi
    by_cases e : k = i
    · subst e
      rw [getD_set_eq _ _ _ _ hk]
      rcases hc with ⟨rfl, n, rfl⟩ | ⟨rfl, n, rfl⟩ | ⟨rfl, n, rfl⟩ <;> rfl
    · rw [getD_set_ne _ _ _ _ _ e]
  refine ⟨h.low, h.high, fun j => by rw [World.frozen?_setCell]; exact h.free j, fun i hi => ?_, fun i hi => ?_, fun i j hi hj hne => h.apart i j (by simpa using hi) (by simpa using hj) hne⟩
  · rw [List.length_set] at hi
    have hr := h.row i hi
    by_cases e : k = i
    · subst e
      rw [getD_set_eq _ _ _ _ hk]
      obtain ⟨r0, r1, r2, r3⟩ := hr
      have o : ∀ j t, j ≠ c → w.cell? ⟨g, k * 4 + j, none⟩ = some t → (w.setCell ⟨g, k * 4 + c, none⟩ u).cell? ⟨g, k * 4 + j, none⟩ = some t := fun j t hj ht => by rw [World.cell?_setCell_other w _ _ _ (addr_ne fun _ => by omega)]; exact ht
      rcases hc with ⟨rfl, n, rfl⟩ | ⟨rfl, n, rfl⟩ | ⟨rfl, n, rfl⟩
      · exact ⟨World.cell?_setCell_same w _ _ r0, o 1 _ (by omega) r1, o 2 _ (by omega) r2, o 3 _ (by omega) r3⟩
      · exact ⟨o 0 _ (by omega) r0, World.cell?_setCell_same w _ _ r1, o 2 _ (by omega) r2, o 3 _ (by omega) r3⟩
      · exact ⟨o 0 _ (by omega) r0, o 1 _ (by omega) r1, World.cell?_setCell_same w _ _ r2, o 3 _ (by omega) r3⟩
    · rw [getD_set_ne _ _ _ _ _ e]
      have o : ∀ j t, j < 4 → w.cell? ⟨g, i * 4 + j, none⟩ = some t → (w.setCell ⟨g, k * 4 + c, none⟩ u).cell? ⟨g, i * 4 + j, none⟩ = some t := fun j t hj ht => by rw [World.cell?_setCell_other w _ _ _ (addr_ne fun _ => by omega)]; exact ht
      exact ⟨o 0 _ (by omega) hr.1, o 1 _ (by omega) hr.2.1, o 2 _ (by omega) hr.2.2.1, o 3 _ (by omega) hr.2.2.2⟩
  · rw [List.length_set] at hi
    rw [hpg i hi]
    exact (h.pgs i hi).far _ _
/-- A store into page n of block k. -/
theorem BO.storePg {pv : Nat → Value} {L : List Blk} (h : BO w lo hi g pv L) {k n b off len cap : Nat} (hk : k < L.length) (hn : n < len) (hv : pv k = .slice (some ⟨b, off, none⟩) len cap) (s : ByteArray) (hs : s.size ≤ 9223372036854775807) :
    BO (w.setCell ⟨b, off + n, none⟩ (.string s)) lo hi g pv (L.set k { L.getD k Blk.zero with pg := (L.getD k Blk.zero).pg.set n s }) := by
  have hbg : b ≠ g := by
    obtain ⟨A, l', c', e, _, _, _, _, hx⟩ := h.pgs k hk
    rw [hv] at e
    injection e with e1 e2 e3
    subst e2
    obtain ⟨b', o', e4, _, _, h6, _⟩ := hx (by omega)
    rw [e4] at e1
    injection e1 with e1
    injection e1 with e1
    omega
  refine ⟨h.low, h.high, fun j => by rw [World.frozen?_setCell]; exact h.free j, fun i hi => ?_, fun i hi => ?_, fun i j hi hj hne => h.apart i j (by simpa using hi) (by simpa using hj) hne⟩
  · rw [List.length_set] at hi
    have hr := h.row i hi
    have o : ∀ j t, w.cell? ⟨g, j, none⟩ = some t → (w.setCell ⟨b, off + n, none⟩ (.string s)).cell? ⟨g, j, none⟩ = some t := fun j t ht => by rw [World.cell?_setCell_other w _ _ _ (addr_ne fun e => absurd e hbg)]; exact ht
    have hr2 : BkAt (w.setCell ⟨b, off + n, none⟩ (.string s)) g (i * 4) (L.getD i Blk.zero) (pv i) := ⟨o _ _ hr.1, o _ _ hr.2.1, o _ _ hr.2.2.1, o _ _ hr.2.2.2⟩
    by_cases e : k = i
    · subst e
      rw [getD_set_eq _ _ _ _ hk]
      exact hr2
    · rw [getD_set_ne _ _ _ _ _ e]
      exact hr2
  · rw [List.length_set] at hi
    by_cases e : k = i
    · subst e
      rw [getD_set_eq _ _ _ _ hk]
      obtain ⟨A, l', c', e, h1, h2, h3, h4, hx⟩ := h.pgs k hk
      rw [hv] at e
      injection e with e1 e2 e3
      subst e1 e2 e3
      refine ⟨_, _, _, hv, h1, h2, by simpa using h3, fun i hi => ?_, fun h0 => ?_⟩
      · show ((List.set _ n s).getD i ByteArray.empty).size ≤ _
        by_cases e : n = i
        · subst e; rw [getD_set_eq _ _ _ _ (by omega)]; exact hs
        · rw [getD_set_ne _ _ _ _ _ e]; exact h4 i hi
      · obtain ⟨b', o', e4, h5, h6, h7, hf, hc⟩ := hx h0
        injection e4 with e4
        injection e4 with e4 e5
        subst e4 e5
        refine ⟨_, _, rfl, h5, h6, h7, fun j => by rw [World.frozen?_setCell]; exact hf j, fun i hi => ?_⟩
        show _ = some (Value.string ((List.set _ n s).getD i ByteArray.empty))
        by_cases e : n = i
        · subst e; rw [getD_set_eq _ _ _ _ (by omega)]; exact World.cell?_setCell_same w _ _ (hc n hi)
        · rw [getD_set_ne _ _ _ _ _ e, World.cell?_setCell_other w _ _ _ (addr_ne fun _ => by omega)]; exact hc i hi
    · rw [getD_set_ne _ _ _ _ _ e]
      obtain ⟨A, l', c', e', h1, h2, h3, h4, hx⟩ := h.pgs i hi
      refine ⟨A, l', c', e', h1, h2, h3, h4, fun h0 => ?_⟩
      obtain ⟨b', o', rfl, h5, h6, h7, hf, hc⟩ := hx h0
      have ha := h.apart k i hk hi e _ _ _ _ _ _ hv e' (by omega) h0
      refine ⟨b', o', rfl, h5, h6, h7, fun j => by rw [World.frozen?_setCell]; exact hf j, fun j hj => ?_⟩
      rw [World.cell?_setCell_other w _ _ _ (addr_ne fun e2 => ?_)]
      · exact hc j hj
      · simp only at ha; omega
/-- Slices in other blocks share nothing. -/
theorem PgOwn.apart {lo mid hi g g' : Nat} {v u : Value} {L M : List ByteArray} (h : PgOwn w lo mid g v L) (k : PgOwn w mid hi g' u M) : Apart v u := by
  intro a n c a' n' c' e1 e2 h1 h2
  obtain ⟨A, l, c1, e, _, _, _, _, hx⟩ := h
  obtain ⟨A', l', c1', e', _, _, _, _, hx'⟩ := k
  rw [e1] at e
  rw [e2] at e'
  injection e with p1 p2 p3
  injection e' with q1 q2 q3
  subst p2 q2
  obtain ⟨b, o, rfl, _, h5, _⟩ := hx h1
  obtain ⟨b', o', rfl, h6, _, _⟩ := hx' h2
  injection p1 with p1
  injection q1 with q1
  subst p1 q1
  left
  simp only
  omega
/-- Block k of the row gets a new content. -/
theorem BO.fill {pv : Nat → Value} {L : List Blk} {mid : Nat} (h : BO w lo mid g pv L) {k : Nat} (hk : k < L.length) (x : Blk) (u : Value) (hu : PgOwn w mid hi g u x.pg) (hm : mid ≤ hi) :
    BO ((((w.setCell ⟨g, k * 4, none⟩ (.int .i64 x.er)).setCell ⟨g, k * 4 + 1, none⟩ (.int .i64 x.nx)).setCell ⟨g, k * 4 + 2, none⟩ (.bool x.bad)).setCell ⟨g, k * 4 + 3, none⟩ u) lo hi g (fun i => if i = k then u else pv i) (L.set k x) := by
  have h1 := h.low
  have h2 := h.high
  refine ⟨h.low, by omega, fun j => by simp only [World.frozen?_setCell]; exact h.free j, fun i hi' => ?_, fun i hi' => ?_, fun i j hi' hj hne => ?_⟩
  · rw [List.length_set] at hi'
    by_cases e : i = k
    · subst e
      rw [getD_set_eq _ _ _ _ hk, if_pos rfl]
      obtain ⟨r0, r1, r2, r3⟩ := h.row i hi'
      refine ⟨?_, ?_, ?_, ?_⟩
      · rw [World.cell?_setCell_other _ _ _ _ (addr_ne fun _ => by omega), World.cell?_setCell_other _ _ _ _ (addr_ne fun _ => by omega), World.cell?_setCell_other _ _ _ _ (addr_ne fun _ => by omega)]
        exact World.cell?_setCell_same w _ _ r0
      · rw [World.cell?_setCell_other _ _ _ _ (addr_ne fun _ => by omega), World.cell?_setCell_other _ _ _ _ (addr_ne fun _ => by omega)]
        exact World.cell?_setCell_same _ _ _ ((World.cell?_setCell_other w _ _ _ (addr_ne fun _ => by omega)).trans r1)
      · rw [World.cell?_setCell_other _ _ _ _ (addr_ne fun _ => by omega)]
        exact World.cell?_setCell_same _ _ _ ((World.cell?_setCell_other _ _ _ _ (addr_ne fun _ => by omega)).trans ((World.cell?_setCell_other w _ _ _ (addr_ne fun _ => by omega)).trans r2))
      · exact World.cell?_setCell_same _ _ _ ((World.cell?_setCell_other _ _ _ _ (addr_ne fun _ => by omega)).trans ((World.cell?_setCell_other _ _ _ _ (addr_ne fun _ => by omega)).trans ((World.cell?_setCell_other w _ _ _ (addr_ne fun _ => by omega)).trans r3)))
    · rw [getD_set_ne _ _ _ _ _ (fun e' => e e'.symm), if_neg e]
      obtain ⟨r0, r1, r2, r3⟩ := h.row i hi'
      have o : ∀ j t, j < 4 → w.cell? ⟨g, i * 4 + j, none⟩ = some t → ((((w.setCell ⟨g, k * 4, none⟩ (.int .i64 x.er)).setCell ⟨g, k * 4 + 1, none⟩ (.int .i64 x.nx)).setCell ⟨g, k * 4 + 2, none⟩ (.bool x.bad)).setCell ⟨g, k * 4 + 3, none⟩ u).cell? ⟨g, i * 4 + j, none⟩ = some t := fun j t hj ht => by
        rw [World.cell?_setCell_other _ _ _ _ (addr_ne fun _ => by omega), World.cell?_setCell_other _ _ _ _ (addr_ne fun _ => by omega), World.cell?_setCell_other _ _ _ _ (addr_ne fun _ => by omega), World.cell?_setCell_other _ _ _ _ (addr_ne fun _ => by omega)]; exact ht
      exact ⟨o 0 _ (by omega) r0, o 1 _ (by omega) r1, o 2 _ (by omega) r2, o 3 _ (by omega) r3⟩
  · rw [List.length_set] at hi'
    by_cases e : i = k
    · subst e
      rw [getD_set_eq _ _ _ _ hk, if_pos rfl]
      exact ((((hu.far _ _).far _ _).far _ _).far _ _).wide (by omega) (Nat.le_refl _)
    · rw [getD_set_ne _ _ _ _ _ (fun e' => e e'.symm), if_neg e]
      exact (((((h.pgs i hi').wide (Nat.le_refl _) hm).far _ _).far _ _).far _ _).far _ _
  · rw [List.length_set] at hi' hj
    by_cases e : i = k
    · by_cases e2 : j = k
      · omega
      · rw [if_pos e, if_neg e2]
        exact ((h.pgs j hj).apart hu).symm
    · by_cases e2 : j = k
      · rw [if_neg e, if_pos e2]
        exact (h.pgs i hi').apart hu
      · rw [if_neg e, if_neg e2]
        exact h.apart i j hi' hj hne
/-- A row that was just made: blocks without pages. -/
theorem BO.made {B n : Nat} {E : TypeId} (h : w.ownsRow B E 4 (.slice (some ⟨g, 0, none⟩) n n) n (madeCells #[.int .i64 0, .int .i64 0, .bool false, .slice none 0 0] (n * 4)).toList) (hg : g < w.heap.size) (hB : B ≤ g) :
    BO w B w.heap.size g (fun _ => .slice none 0 0) (List.replicate n Blk.zero) := by
  have hx : ∀ i, (List.replicate n Blk.zero).getD i Blk.zero = Blk.zero := fun i => by
    rw [List.getD_eq_getElem?_getD, List.getElem?_replicate]; split <;> rfl
  have hc : ∀ i c, i < n → c < 4 → w.cell? ⟨g, i * 4 + c, none⟩ = some ((#[Value.int .i64 0, .int .i64 0, .bool false, .slice none 0 0] : Array Value)[c]!) := fun i c hi hc => by
    rw [World.ownsRow.cellAt h _ (by omega)]
    have e : (i * 4 + c) % 4 = c := by omega
    simp [madeCells, show i * 4 + c < n * 4 by omega, e]
  refine ⟨hB, hg, World.ownsRow.frozenAt h, fun i hi => ?_, fun i hi => ?_, fun i j hi hj _ => ?_⟩
  · rw [hx]
    rw [List.length_replicate] at hi
    exact ⟨hc i 0 hi (by omega), hc i 1 hi (by omega), hc i 2 hi (by omega), hc i 3 hi (by omega)⟩
  · rw [hx]
    exact ⟨none, 0, 0, rfl, Nat.le_refl _, by omega, rfl, fun i hi => by omega, fun h => by omega⟩
  · intro a n c a' n' c' e; cases e
theorem set_fill (L : List Blk) (n k : Nat) (hn : L.length = n) (h : k < n) : (L.take k ++ List.replicate (n - k) Blk.zero).set k (L.getD k Blk.zero) = L.take (k + 1) ++ List.replicate (n - (k + 1)) Blk.zero := by
  subst hn
  rw [List.set_append_right _ _ (by simp; omega), List.length_take, Nat.min_eq_left (by omega), Nat.sub_self, show L.length - k = (L.length - (k + 1)) + 1 by omega, List.replicate_succ, List.set_cons_zero, List.take_succ_eq_append_getElem h, List.append_assoc, List.getD_eq_getElem?_getD, List.getElem?_eq_getElem h]; rfl
/-- A page's cell. -/
theorem BO.page {pv : Nat → Value} {L : List Blk} (h : BO w lo hi g pv L) {k t b off n cap : Nat} (hk : k < L.length) (hv : pv k = .slice (some ⟨b, off, none⟩) n cap) (ht : t < n) :
    w.cell? ⟨b, off + t, none⟩ = some (.string ((L.getD k Blk.zero).pg.getD t ByteArray.empty)) ∧ w.frozen? ⟨b, off + t, none⟩ = false ∧ lo ≤ b ∧ b < hi ∧ ((L.getD k Blk.zero).pg.getD t ByteArray.empty).size ≤ 9223372036854775807 := by
  obtain ⟨A, l', c', e, h1, h2, h3, h4, hx⟩ := h.pgs k hk
  rw [hv] at e
  injection e with e1 e2 e3
  subst e1 e2 e3
  obtain ⟨b', o', e4, h5, h6, h7, hf, hc⟩ := hx (by omega)
  injection e4 with e4
  injection e4 with e4 e5
  subst e4 e5
  exact ⟨hc t ht, hf _, h5, h6, h4 t ht⟩
theorem BO.pageLen {pv : Nat → Value} {L : List Blk} (h : BO w lo hi g pv L) {k : Nat} (hk : k < L.length) {A : Option Addr} {n cap : Nat} (hv : pv k = .slice A n cap) : (L.getD k Blk.zero).pg.length = n := by
  obtain ⟨A, l', c', e, h1, h2, h3, h4, hx⟩ := h.pgs k hk
  rw [hv] at e
  injection e with e1 e2 e3
  omega
end
end Go.Proofs.YtlmdpdidjldkpaaGreatDoor
/- A block of memory whose cells are all known (a variable of a struct's type, say). -/
namespace Go.Proofs.YtlmdpdidjldkpaaGreatDoor
open Go.RowKit
/-- Block g is a row of the cells cs, none frozen. -/
def Rw (w : World) (g : Nat) (t : TypeId) (cs : Array Value) : Prop := w.heap[g]? = some (.cells cs t (0, 0))
section
variable {w w' : World} {g B : Nat} {t : TypeId} {cs : Array Value}
theorem Rw.lt (h : Rw w g t cs) : g < w.heap.size := by
  rcases Nat.lt_or_ge g w.heap.size with hlt | hge
  · exact hlt
  · unfold Rw at h; rw [Array.getElem?_eq_none hge] at h; cases h
theorem Rw.cell (h : Rw w g t cs) (j : Nat) : w.cell? ⟨g, j, none⟩ = cs[j]? := cell_of_row w g j _ t (0, 0) h
theorem Rw.free (h : Rw w g t cs) (j : Nat) : w.frozen? ⟨g, j, none⟩ = false := frozen_of_row w g j _ t h
theorem Rw.below (h : Rw w g t cs) (hb : Below B w w') (hg : g < B) : Rw w' g t cs := (hb.block g hg).trans h
theorem Rw.set_ (h : Rw w g t cs) (j : Nat) (u : Value) : Rw (w.setCell ⟨g, j, none⟩ u) g t (cs.setIfInBounds j u) := by
  unfold Rw at h ⊢; exact heap_setCell_same w g j _ t _ h
theorem Rw.far (h : Rw w g t cs) {p : Addr} (hp : g ≠ p.block) (u : Value) : Rw (w.setCell p u) g t cs := (Below.heap_setCell w p u g hp).trans h
theorem Rw.alloc (h : Rw w g t cs) (o : Obj) : Rw (w.alloc o) g t cs := (Below.heap_alloc w o g h.lt).trans h
theorem Rw.new (w : World) (t : TypeId) (cs : Array Value) : Rw (w.alloc (.cells cs t)) w.heap.size t cs := heap_alloc_new w _
theorem Rw.four {a b c d : Value} (h : Rw w g t #[a, b, c, d]) : w.cell? ⟨g, 0, none⟩ = some a ∧ w.cell? ⟨g, 1, none⟩ = some b ∧ w.cell? ⟨g, 2, none⟩ = some c ∧ w.cell? ⟨g, 3, none⟩ = some d :=
  ⟨h.cell 0, h.cell 1, h.cell 2, h.cell 3⟩
theorem Rw.three {a b c : Value} (h : Rw w g t #[a, b, c]) : w.cell? ⟨g, 0, none⟩ = some a ∧ w.cell? ⟨g, 1, none⟩ = some b ∧ w.cell? ⟨g, 2, none⟩ = some c :=
  ⟨h.cell 0, h.cell 1, h.cell 2⟩
theorem Rw.eight {a b c d e f i j : Value} (h : Rw w g t #[a, b, c, d, e, f, i, j]) : w.cell? ⟨g, 0, none⟩ = some a ∧ w.cell? ⟨g, 1, none⟩ = some b ∧ w.cell? ⟨g, 2, none⟩ = some c ∧ w.cell? ⟨g, 3, none⟩ = some d ∧
    w.cell? ⟨g, 4, none⟩ = some e ∧ w.cell? ⟨g, 5, none⟩ = some f ∧ w.cell? ⟨g, 6, none⟩ = some i ∧ w.cell? ⟨g, 7, none⟩ = some j :=
  ⟨h.cell 0, h.cell 1, h.cell 2, h.cell 3, h.cell 4, h.cell 5, h.cell 6, h.cell 7⟩
theorem Rw.frees (h : Rw w g t cs) : w.frozen? ⟨g, 0, none⟩ = false ∧ w.frozen? ⟨g, 1, none⟩ = false ∧ w.frozen? ⟨g, 2, none⟩ = false ∧ w.frozen? ⟨g, 3, none⟩ = false ∧
    w.frozen? ⟨g, 4, none⟩ = false ∧ w.frozen? ⟨g, 5, none⟩ = false ∧ w.frozen? ⟨g, 6, none⟩ = false ∧ w.frozen? ⟨g, 7, none⟩ = false :=
  ⟨h.free 0, h.free 1, h.free 2, h.free 3, h.free 4, h.free 5, h.free 6, h.free 7⟩
theorem Rw.two_new (w : World) (t1 t2 : TypeId) (c1 c2 : Array Value) : Rw ((w.alloc (.cells c1 t1)).alloc (.cells c2 t2)) w.heap.size t1 c1 ∧
    Rw ((w.alloc (.cells c1 t1)).alloc (.cells c2 t2)) (w.heap.size + 1) t2 c2 ∧ Below w.heap.size w ((w.alloc (.cells c1 t1)).alloc (.cells c2 t2)) := by
  refine ⟨(Rw.new w t1 c1).alloc _, ?_, ((Below.refl w.heap.size w).alloc (Nat.le_refl _) _).alloc (by simp) _⟩
  have := Rw.new (w.alloc (.cells c1 t1)) t2 c2
  simpa using this
theorem Rw.three_new (w : World) (t1 t2 t3 : TypeId) (c1 c2 c3 : Array Value) : Rw (((w.alloc (.cells c1 t1)).alloc (.cells c2 t2)).alloc (.cells c3 t3)) w.heap.size t1 c1 ∧
    Rw (((w.alloc (.cells c1 t1)).alloc (.cells c2 t2)).alloc (.cells c3 t3)) (w.heap.size + 1) t2 c2 ∧ Rw (((w.alloc (.cells c1 t1)).alloc (.cells c2 t2)).alloc (.cells c3 t3)) (w.heap.size + 1 + 1) t3 c3 ∧
    Below w.heap.size w (((w.alloc (.cells c1 t1)).alloc (.cells c2 t2)).alloc (.cells c3 t3)) := by
  obtain ⟨h1, h2, h3⟩ := Rw.two_new w t1 t2 c1 c2
  refine ⟨h1.alloc _, h2.alloc _, ?_, h3.alloc (by simp; omega) _⟩
  have := Rw.new ((w.alloc (.cells c1 t1)).alloc (.cells c2 t2)) t3 c3
  simpa using this
theorem Rw.farA (h : Rw w g t cs) {g' k : Nat} (hp : g ≠ g') (u : Value) : Rw (w.setCell ⟨g', k, none⟩ u) g t cs := h.far (p := ⟨g', k, none⟩) hp u
theorem bset {a : World} (h : Below B a w) {g k : Nat} (hg : B ≤ g) (u : Value) : Below B a (w.setCell ⟨g, k, none⟩ u) := h.setCell (p := ⟨g, k, none⟩) hg u
end
end Go.Proofs.YtlmdpdidjldkpaaGreatDoor
/- Slices of texts: those that come in and are read, those that the call itself makes; the laws' helpers szStringS, toStringS, eqStringS. -/
namespace Go.Proofs.YtlmdpdidjldkpaaGreatDoor
open Go.RowKit

/-- What is known of a slice of texts that came in. -/
def IsStrs (w : World) (a : Option Addr) (len cap : Nat) (zs : List ByteArray) : Prop :=
  (a = none ∧ len = 0 ∧ cap = 0 ∧ zs = []) ∨
  ∃ x, a = some x ∧ len ≤ cap ∧ cap ≤ maxLen ∧ zs.length = cap ∧ (∀ i, i < zs.length → w.cell? (x.add i) = some (.string (zs.getD i ByteArray.empty))) ∧ ∀ s ∈ zs, s.size ≤ maxLen
/-- The value v is a slice that reads as the texts L. -/
def StrsIn (w : World) (v : Value) (L : List ByteArray) : Prop := ∃ A len cap, v = .slice A len cap ∧ len ≤ cap ∧ cap ≤ 9223372036854775807 ∧ L.length = len ∧ (0 < len → ∃ b off, A = some ⟨b, off, none⟩ ∧ b < w.heap.size ∧ ∀ i, i < len → w.cell? ⟨b, off + i, none⟩ = some (.string (L.getD i ByteArray.empty)))
theorem StrsIn.below {w w' : World} {B : Nat} {v : Value} {L : List ByteArray} (h : StrsIn w v L) (hb : Below B w w') (hB : w.heap.size ≤ B) : StrsIn w' v L := by
  obtain ⟨A, len, cap, rfl, hlc, hcm, hl, hc⟩ := h
  refine ⟨A, len, cap, rfl, hlc, hcm, hl, fun h0 => ?_⟩
  obtain ⟨b, off, rfl, hbl, hx⟩ := hc h0
  exact ⟨b, off, rfl, by have := hb.size; omega, fun i hi => (hb.cell (p := ⟨b, off + i, none⟩) (Nat.lt_of_lt_of_le hbl hB)).trans (hx i hi)⟩
theorem IsStrs.reads {w : World} {a : Option Addr} {len cap : Nat} {zs : List ByteArray} (h : IsStrs w a len cap zs) : StrsIn w (.slice a len cap) (zs.take len) ∧ ∀ s ∈ zs.take len, s.size ≤ maxLen := by
  rcases h with ⟨rfl, rfl, rfl, rfl⟩ | ⟨x, rfl, h1, h2, h3, hc, hw⟩
  · exact ⟨⟨none, 0, 0, rfl, Nat.le_refl _, by omega, rfl, fun h => by omega⟩, fun s hs => by cases hs⟩
  · refine ⟨⟨_, len, cap, rfl, h1, by unfold maxLen at h2; omega, by simp; omega, fun h0 => ?_⟩, fun s hs => hw s (List.mem_of_mem_take hs)⟩
    obtain ⟨b, off, spot⟩ := x
    have h00 := hc 0 (by omega)
    have hspot : spot = none := by simpa [Addr.add] using World.cell?_spot h00
    subst hspot
    refine ⟨b, off, rfl, World.block_lt_of_cell? w ⟨b, off, none⟩ (by simpa [Addr.add] using h00), fun i hi => ?_⟩
    have := hc i (by omega)
    have e : (⟨b, off, none⟩ : Addr).add i = ⟨b, off + i, none⟩ := by unfold Addr.add; split <;> simp_all
    rw [e] at this
    rw [this, List.getD_eq_getElem?_getD, List.getD_eq_getElem?_getD, List.getElem?_take, if_pos hi]
/-- The value v is a slice of the call's own (in a block from B on) that holds the texts L. -/
def StrsOwn (w : World) (B : Nat) (v : Value) (L : List ByteArray) : Prop := w.ownsRow B 9 1 v L.length (L.map Value.string)
theorem infoStr : (Tryz.prog.info? 9).map (fun i => (i.zero, i.size, i.bytes)) = some (some (.string ByteArray.empty), 1, 16) := by kernel_rfl
section
variable {w w' : World} {B : Nat} {v : Value} {L : List ByteArray}
theorem StrsOwn.shape (h : StrsOwn w B v L) : (v = .slice none 0 0 ∧ L = []) ∨ ∃ g cap, v = .slice (some ⟨g, 0, none⟩) L.length cap ∧ L.length ≤ cap ∧ cap ≤ 9223372036854775807 ∧ B ≤ g ∧ g < w.heap.size := by
  rcases h.2 with ⟨h1, h2⟩ | ⟨g, cap, cur, h1, h2, h3, h4, h5, _⟩
  · exact .inl ⟨h1, List.eq_nil_of_length_eq_zero h2⟩
  · refine .inr ⟨g, cap, h1, h4, by unfold maxLen at h5; omega, h2, ?_⟩
    rcases Nat.lt_or_ge g w.heap.size with hlt | hge
    · exact hlt
    · rw [Array.getElem?_eq_none hge] at h3; cases h3
theorem StrsOwn.cell {g n cap : Nat} (h : StrsOwn w B (.slice (some ⟨g, 0, none⟩) n cap) L) {j : Nat} (hn : L.length = n) (hj : j < n) : w.cell? ⟨g, j, none⟩ = some (.string (L.getD j ByteArray.empty)) := by
  unfold StrsOwn at h
  rw [hn] at h
  rw [World.ownsRow.cellAt h j (by omega)]
  simp [show j < L.length by omega]
theorem StrsOwn.free {g n cap : Nat} (h : StrsOwn w B (.slice (some ⟨g, 0, none⟩) n cap) L) (hn : L.length = n) (j : Nat) : w.frozen? ⟨g, j, none⟩ = false := by
  unfold StrsOwn at h
  rw [hn] at h
  exact World.ownsRow.frozenAt h j
theorem StrsOwn.stored {g n cap : Nat} (h : StrsOwn w B (.slice (some ⟨g, 0, none⟩) n cap) L) (hn : L.length = n) (j : Nat) (b : ByteArray) :
    StrsOwn (w.setCell ⟨g, j, none⟩ (.string b)) B (.slice (some ⟨g, 0, none⟩) n cap) (L.set j b) := by
  unfold StrsOwn at h ⊢
  rw [hn] at h
  have := (World.ownsRow.stored h j (.string b)).1
  rw [List.length_set, hn, List.map_set]
  exact this
theorem StrsOwn.reads (h : StrsOwn w B v L) : StrsIn w v L := by
  rcases h.shape with ⟨rfl, rfl⟩ | ⟨g, cap, rfl, h1, h2, h3, h4⟩
  · exact ⟨none, 0, 0, rfl, Nat.le_refl _, by omega, rfl, fun h => by omega⟩
  · exact ⟨_, _, _, rfl, h1, h2, rfl, fun _ => ⟨g, 0, rfl, h4, fun i hi => by rw [Nat.zero_add]; exact h.cell rfl hi⟩⟩
theorem StrsOwn.later {B' : Nat} (h : StrsOwn w B v L) (hb : Below B' w w') (hB : w.heap.size ≤ B') : StrsOwn w' B v L := by
  refine ⟨h.1, ?_⟩
  rcases h.2 with h2 | ⟨g, cap, cur, h1, h2, h3, h4⟩
  · exact .inl h2
  · have hg : g < w.heap.size := by
      rcases Nat.lt_or_ge g w.heap.size with hlt | hge
      · exact hlt
      · rw [Array.getElem?_eq_none hge] at h3; cases h3
    exact .inr ⟨g, cap, cur, h1, h2, (hb.block g (by omega)).trans h3, h4⟩
end
theorem wpList_make_strs {Q : Exit → Act → World → Prop} {ops : Array Oper} {rest : List Oper} {o : Oper} {a : Act} {w0 w : World} {B : Nat} (hgd : o.guard = none) (l c : Operand)
    (ho : o.op = Op.makeSlice 49 l c) (n : Nat) (hl : a.eval l = .int .i64 (n : Int)) (hc : a.eval c = .int .i64 (n : Int)) (hn : n ≤ 1048576)
    (hb : Below B w0 w) (hB : B ≤ w.heap.size)
    (h : ∀ w', StrsOwn w' B (.slice (some ⟨w.heap.size, 0, none⟩) n n) (List.replicate n ByteArray.empty) → Below B w0 w' → wpList Tryz.prog ops Q rest (a.put o.dst (.slice (some ⟨w.heap.size, 0, none⟩) n n)) w') :
    wpList Tryz.prog ops Q (o :: rest) a w := by
  obtain ⟨i0, hi, hz0, hz1, hz2⟩ := info_parts infoStr
  refine wpList_make_full w hgd l c _ ho B 9 i0 (.string ByteArray.empty) 1 Tryz.underlying49 hi hz0 hz1 .i64 .i64 (n : Int) (n : Int) n hl hc rfl rfl (by rw [hz2]; omega) (by unfold maxLen; omega) hB ?_
  intro w' h1 h2
  refine h w' ?_ (hb.grown h2 hB fun k hk => by simp at hk)
  have e : (madeCells (Value.string ByteArray.empty).cells (n * 1)).toList = (List.replicate n ByteArray.empty).map Value.string := by
    show (madeCells #[Value.string ByteArray.empty] (n * 1)).toList = _
    rw [toList_madeCells_one]; simp
  rw [e] at h1
  unfold StrsOwn; simpa using h1
end Go.Proofs.YtlmdpdidjldkpaaGreatDoor
/- The laws' helpers over arrays: szFlash, toFlash, eqFlash: their contracts. -/
namespace Go.Proofs.YtlmdpdidjldkpaaGreatDoor
open Go.RowKit
set_option linter.unusedVariables false

theorem PgIn.strs {w : World} {lo hi : Nat} {v : Value} {L : List ByteArray} (h : PgIn w lo hi v L) (hh : hi ≤ w.heap.size) : StrsIn w v L := by
  obtain ⟨A, len, cap, e, h1, h2, h3, h4, hc⟩ := h
  refine ⟨A, len, cap, e, h1, h2, h3, fun h0 => ?_⟩
  obtain ⟨b, off, e, h5, h6, hx⟩ := hc h0
  exact ⟨b, off, e, by omega, hx⟩
theorem PgIn.small {w : World} {lo hi : Nat} {v : Value} {L : List ByteArray} (h : PgIn w lo hi v L) : ∀ i, i < L.length → (L.getD i ByteArray.empty).size ≤ 9223372036854775807 := by
  obtain ⟨A, len, cap, e, h1, h2, h3, h4, hc⟩ := h
  exact fun i hi => h4 i (by omega)
theorem StrsOwn.pages {w : World} {B g : Nat} {v : Value} {L : List ByteArray} (h : StrsOwn w B v L) (hg : g < B) (hL : ∀ i, i < L.length → (L.getD i ByteArray.empty).size ≤ 9223372036854775807) : PgOwn w B w.heap.size g v L := by
  rcases h.shape with ⟨rfl, rfl⟩ | ⟨k, cap, rfl, h1, h2, h3, h4⟩
  · exact ⟨none, 0, 0, rfl, Nat.le_refl _, by omega, rfl, fun i hi => by omega, fun h => by omega⟩
  · exact ⟨_, _, _, rfl, h1, h2, rfl, hL, fun _ => ⟨k, 0, rfl, h3, h4, by omega, h.free rfl, fun i hi => by rw [Nat.zero_add]; exact h.cell rfl hi⟩⟩

/-! Sizes. -/
def szS : List ByteArray → Nat
  | [] => 0
  | s :: L => s.size + szS L
theorem szS_append : ∀ L M : List ByteArray, szS (L ++ M) = szS L + szS M
  | [], M => by simp [szS]
  | s :: L, M => by simp only [List.cons_append, szS, szS_append L M]; omega
theorem szS_take {L : List ByteArray} {i : Nat} (h : i < L.length) : szS (L.take (i + 1)) = szS (L.take i) + (L.getD i ByteArray.empty).size := by
  rw [List.take_succ_eq_append_getElem h, szS_append, List.getD_eq_getElem?_getD, List.getElem?_eq_getElem h]
  simp [szS]
theorem szS_one {L : List ByteArray} {i : Nat} (h : i < L.length) : (L.getD i ByteArray.empty).size ≤ szS L := by
  have e := szS_append (L.take (i + 1)) (L.drop (i + 1))
  rw [List.take_append_drop, szS_take h] at e
  omega
theorem szS_le {L : List ByteArray} (i : Nat) : szS (L.take i) ≤ szS L := by
  have e := szS_append (L.take i) (L.drop i)
  rw [List.take_append_drop] at e
  omega
def szP (L : List ByteArray) : Nat := L.length + szS L
def szB : List Blk → Nat
  | [] => 0
  | x :: L => szP x.pg + szB L
theorem szB_append : ∀ L M : List Blk, szB (L ++ M) = szB L + szB M
  | [], M => by simp [szB]
  | s :: L, M => by simp only [List.cons_append, szB, szB_append L M]; omega
theorem szB_take {L : List Blk} {i : Nat} (h : i < L.length) : szB (L.take (i + 1)) = szB (L.take i) + szP (L.getD i Blk.zero).pg := by
  rw [List.take_succ_eq_append_getElem h, szB_append, List.getD_eq_getElem?_getD, List.getElem?_eq_getElem h]
  simp [szB]
theorem szB_one {L : List Blk} {i : Nat} (h : i < L.length) : szP (L.getD i Blk.zero).pg ≤ szB L := by
  have e := szB_append (L.take (i + 1)) (L.drop (i + 1))
  rw [List.take_append_drop, szB_take h] at e
  omega
theorem szB_le {L : List Blk} (i : Nat) : szB (L.take i) ≤ szB L := by
  have e := szB_append (L.take i) (L.drop i)
  rw [List.take_append_drop] at e
  omega
theorem markN_sz : ∀ L : List Blk, markN L ≤ 3 * L.length + szB L
  | [] => by simp [markN]
  | x :: L => by have := markN_sz L; simp only [markN, szB, szP, List.length_cons]; omega
/-- The array fits: blocks, pages and bytes together are few. -/
def FlSz (F : Fl) : Prop := F.bs.length + szB F.bs ≤ 1048576
theorem FlSz.pages {F : Fl} (h : FlSz F) {i : Nat} (hi : i < F.bs.length) : (F.blk i).pg.length ≤ 1048576 ∧ ∀ j, j < (F.blk i).pg.length → ((F.blk i).at j).size ≤ 1048576 := by
  unfold FlSz at h
  have h1 := szB_one hi
  unfold szP at h1
  refine ⟨by show (F.bs.getD i Blk.zero).pg.length ≤ _; omega, fun j hj => ?_⟩
  have := szS_one (L := (F.bs.getD i Blk.zero).pg) hj
  show ((F.bs.getD i Blk.zero).pg.getD j ByteArray.empty).size ≤ _
  omega
/-- What is left of n behind t: the rest, or -1. -/
def Left (n : Int) (t : Nat) (x : Int) : Prop := ((t : Int) ≤ n ∧ x = n - (t : Int)) ∨ (n < (t : Int) ∧ x = -1)
def LeftPost (n : Int) (t : Nat) (w : World) (e : Ending) (w' : World) : Prop := ∃ x : Int, e = .returned (.int .i64 x) ∧ Left n t x ∧ Below w.heap.size w w'
theorem Left.small {F : Fl} {x : Int} (h : Left 1048576 (F.bs.length + szB F.bs) x) (h0 : ¬ x < 0) : FlSz F := by
  unfold FlSz
  rcases h with h | h <;> omega

/-! Copies. -/
theorem infoBk : (Tryz.prog.info? 51).map (·.size) = some 4 := by kernel_rfl
def ToBk (x : Blk) (w : World) (e : Ending) (w' : World) : Prop := ∃ A c, e = .returned (.agg #[.int .i64 x.er, .int .i64 x.nx, .bool x.bad, .slice A x.pg.length c]) ∧ (∀ g, g < w.heap.size → PgOwn w' w.heap.size w'.heap.size g (.slice A x.pg.length c) x.pg) ∧ Below w.heap.size w w'
theorem infoBkZ : (Tryz.prog.info? 51).map (fun i => (i.zero, i.size, i.bytes)) = some (some (.agg #[.int .i64 0, .int .i64 0, .bool false, .slice none 0 0]), 4, 48) := by kernel_rfl
theorem wpList_make_blocks {Q : Exit → Act → World → Prop} {ops : Array Oper} {rest : List Oper} {o : Oper} {a : Act} {w0 w : World} {B : Nat} (hgd : o.guard = none) (l c : Operand)
    (ho : o.op = Op.makeSlice 26 l c) (n : Nat) (hl : a.eval l = .int .i64 (n : Int)) (hc : a.eval c = .int .i64 (n : Int)) (hn : n ≤ 1048576)
    (hb : Below B w0 w) (hB : B ≤ w.heap.size)
    (h : ∀ w', BO w' B w'.heap.size w.heap.size (fun _ => .slice none 0 0) (List.replicate n Blk.zero) → Below B w0 w' → wpList Tryz.prog ops Q rest (a.put o.dst (.slice (some ⟨w.heap.size, 0, none⟩) n n)) w') :
    wpList Tryz.prog ops Q (o :: rest) a w := by
  obtain ⟨i0, hi, hz0, hz1, hz2⟩ := info_parts infoBkZ
  refine wpList_make_full w hgd l c _ ho B 51 i0 (.agg #[.int .i64 0, .int .i64 0, .bool false, .slice none 0 0]) 4 Tryz.underlying26 hi hz0 hz1 .i64 .i64 (n : Int) (n : Int) n hl hc rfl rfl (by rw [hz2]; omega) (by unfold maxLen; omega) hB ?_
  intro w' h1 h2
  refine h w' ?_ (hb.grown h2 hB fun k hk => by simp at hk)
  have h3 := World.ownsRow.lt h1 w.heap.size rfl
  exact BO.made h1 h3.2 h3.1
theorem infoGeo : (Tryz.prog.info? 25).map (·.size) = some 3 := by kernel_rfl
theorem infoFl : (Tryz.prog.info? 28).map (·.size) = some 8 := by kernel_rfl
end Go.Proofs.YtlmdpdidjldkpaaGreatDoor
