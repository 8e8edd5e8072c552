/- The proof's own lemmas, part 10: DecI. -/
import Derived.Test.YthenilomgbnpeaaGreatDoorProg
import Derived.Test.YthenilomgbnpeaaGreatDoorMg6
import Derived.Test.YthenilomgbnpeaaGreatDoorMg8
/- Error correction in the program: check bytes, syndromes and decoding: the contracts. The table of masks is a hypothesis on its cells. -/
namespace Go.Proofs.YthenilomgbnpeaaGreatDoor
open Go.RowKit

theorem cw_of {x : Nat} (c : Nat) (hx : x < 2 ^ 64) : cw (x + 2 ^ 64 * c) = #[.int .u64 x, .int .u8 c] := by
  unfold cw; rw [lo_of _ hx, hi_of _ hx]
set_option maxRecDepth 100000 in
theorem implCheck_yes (x : Nat) (w : World) (hx : x < 2 ^ 64) (hT : MaskTab w) :
    Calls Tryz.prog 55 #[.string (wStr x)] w fun e w' => e = .returned (.int .i64 (chkN x : Nat)) ∧ Below w.heap.size w w' := by
  have hl : lowN x < 128 := synN_lt x
  have h0 : x < 2 ^ 72 := by omega
  have h1 : x + 2 ^ 64 * lowN x < 2 ^ 72 := by omega
  have hp := parN_lt (x + 2 ^ 64 * lowN x)
  have hC := fun (W : World) => codewordOf_yes x W h0
  have hS := fun (W : World) (hT : MaskTab W) => syn_cw x W h0 hT
  have hP := fun (W : World) => par_cw (x + 2 ^ 64 * lowN x) W h1
  have hcw : cw x = #[.int .u64 x, .int .u8 (0 : Nat)] := by
    have := cw_of 0 hx
    rwa [Nat.mul_zero, Nat.add_zero] at this
  rw [hcw] at hC hS
  rw [show lo x = x by unfold lo; omega, show hi x = 0 by unfold hi; omega] at hC
  rw [cw_of _ hx] at hP
  have hE := chk_or x
  have hSL : synN x = lowN x := rfl
  rw [hSL] at hS
  clear hSL hcw
  generalize parN (x + 2 ^ 64 * lowN x) = P at *
  generalize chkN x = C at *
  generalize lowN x = L at *
  generalize wStr x = s at *
  have HE : Hid (bits .or .i64 (L : Nat) ((P : Nat) * 128) = ((C : Nat) : Int)) := by
    show _ = _
    have e := i64_or_nat L (P * 128) (by omega) (by omega)
    rw [hE, Int.natCast_mul] at e
    exact e
  have HC := Lib.hid hC
  have HS := Lib.hid hS
  have HP := Lib.hid hP
  have HT := Lib.hid hT
  clear hC hS hP hE h0 h1 hT
  go_enter Tryz.func55, Tryz.ntmps55
  go_wp2_with (first
    | (go_at_call 71; refine (HC.out _).mono ?_; rintro e w1 ⟨rfl, hb1⟩)
    | (
      go_at_call 72
      refine (HS.out _ (HT.out.below (hb1.alloc hb1.size _) (Nat.le_refl _))).mono ?_
      rintro e w2 ⟨rfl, hb2⟩
      have r1 : Row w2 w1.heap.size 100 #[.int .u64 x, .int .u8 (0 : Nat)] := Row.below (heap_alloc_new w1 _) hb2 (by simp)
      have c0 := r1.cell 0
      have c1 := r1.cell 1
      have f1 := r1.free 1
      simp only [List.getElem?_toArray, List.getElem?_cons_zero, List.getElem?_cons_succ] at c0 c1
      have R1 := Lib.hid r1
      clear r1))
  have r2 : Row (w2.setCell ⟨w1.heap.size, 1, none⟩ (.int .u8 (L : Nat))) w1.heap.size 100 #[.int .u64 x, .int .u8 L] := R1.out.set_ 1 _
  have hr := r2.range
  have hz1 := hb1.size
  have hz2 := hb2.size
  simp at hz2
  have hbw : Below w.heap.size w (w2.setCell ⟨w1.heap.size, 1, none⟩ (.int .u8 (L : Nat))) := ((hb1.alloc hb1.size _).trans (hb2.mono (by simp; omega))).setCell (by simp; omega) _
  have hsz : w1.heap.size < (w2.setCell ⟨w1.heap.size, 1, none⟩ (.int .u8 (L : Nat))).heap.size := by simp; omega
  clear r2 c0 c1 f1 hb1 hb2
  generalize w2.setCell ⟨w1.heap.size, 1, none⟩ (.int .u8 (L : Nat)) = w3 at *
  generalize w1.heap.size = b at *
  have hu := Tryz.underlying100
  have hin := infoCw
  refine wp_region_held_drew (S := fun w' => w'.rangeAt b 0 [.int .u64 x, .int .u8 L]) (by kernel_rfl) hr (fun hHeld => ?_)
  refine wpAnyH_take (i := 0) (oi := _) (v := .pointer (some ⟨b, 1, none⟩)) rfl (by kernel_rfl) (by kernel_rfl) (by kernel_rfl) (fun _ _ _ h => h) (Or.inl ⟨by rfl, fun w hSw => by go_simp⟩) hHeld ?_
  refine wpAnyH_take (i := 1) (oi := _) (v := .pointer (some ⟨b, 1, none⟩)) rfl (by kernel_rfl) (by kernel_rfl) (by kernel_rfl) (fun _ _ _ h => h) (Or.inl ⟨by rfl, fun w hSw => by go_simp⟩) hHeld ?_
  refine wpAnyH_take (i := 2) (oi := _) (v := .int .u8 (L : Int)) rfl (by kernel_rfl) (by kernel_rfl) (by kernel_rfl) (fun _ _ _ h => h) (Or.inl ⟨by rfl, fun w hSw => by have hc := hSw 1 _ rfl; rw [Nat.zero_add] at hc; go_simp⟩) hHeld ?_
  refine wpAnyH_take (i := 3) (oi := _) (v := .int .i64 (L : Int)) rfl (by kernel_rfl) (by kernel_rfl) (by kernel_rfl) (fun _ _ _ h => h) (Or.inl ⟨by rfl, fun w hSw => by go_simp; exact IntWalk.i64_in _ (by omega)⟩) hHeld ?_
  refine wpAnyH_take (i := 4) (oi := _) (v := .agg #[.int .u64 x, .int .u8 L]) rfl (by kernel_rfl) (by kernel_rfl) (by kernel_rfl) (fun _ _ _ h => h) (yieldsIf_load_mid (by rfl) _ _ rfl _ _ rfl [.int .u64 x, .int .u8 L] _ (fun _ h => h) hu rfl hin) hHeld ?_
  refine wpAnyH_ready (rs := [5]) (by kernel_rfl) (by simp) ?_
  refine AllReadyH.cons (o := _) rfl (fun K hK => ?_) AllReadyH.nil
  go_simp
  go_at_call 73
  refine (HP.out _).mono ?_
  rintro e w4 ⟨rfl, hb4⟩
  refine hK.out _ _ (range_below hHeld hb4 hsz) (fun hHeld => ?_)
  clear hK K
  have hPi : (P : Int) ≤ 1 := by omega
  refine wpAnyH_take (i := 6) (oi := _) (v := .int .i64 ((P : Int) * 128)) rfl (by kernel_rfl) (by kernel_rfl) (by kernel_rfl) (fun _ _ _ h => h) (Or.inl ⟨by rfl, fun w hSw => by go_simp; exact IntWalk.i64_in _ (by omega)⟩) hHeld ?_
  refine wpAnyH_take (i := 7) (oi := _) (v := .int .i64 (C : Int)) rfl (by kernel_rfl) (by kernel_rfl) (by kernel_rfl) (fun _ _ _ h => h) (Or.inl ⟨by rfl, fun w hSw => by go_simp; rw [HE.out]⟩) hHeld ?_
  refine wpAnyH_take (i := 8) (oi := _) (v := .int .i64 (C : Int)) rfl (by kernel_rfl) (by kernel_rfl) (by kernel_rfl) (fun _ _ _ h => h) (Or.inl ⟨by rfl, fun w hSw => by go_simp⟩) hHeld ?_
  refine wpAnyH_done (by kernel_rfl) ?_ _
  go_wp2
  go_ret
  exact ⟨rfl, hbw.drew.trans (hb4.mono hbw.size)⟩
theorem implCheck_no (s : ByteArray) (w : World) (hs : s.size ≠ 8) :
    Calls Tryz.prog 55 #[.string s] w fun e w' => e = .returned (.int .i64 (-1)) ∧ Below w.heap.size w w' := by
  go_enter Tryz.func55, Tryz.ntmps55
  go_wp2_with (go_at_call 71; refine (codewordOf_no _ _ _ (.inl hs)).mono ?_; rintro e w1 ⟨rfl, hb1⟩)
  go_ret
  exact ⟨rfl, hb1.alloc hb1.size _⟩
def WordPost (s : ByteArray) (n c : Int) (w : World) (e : Ending) (w' : World) : Prop := e = .returned (.tuple #[.string s, .int .i64 n, .int .i64 c]) ∧ Below w.heap.size w w'
set_option maxRecDepth 100000 in
theorem implDec_good (X : Nat) (w : World) (hX : X < 2 ^ 72) (hT : MaskTab w) (h : good X = true) :
    Calls Tryz.prog 61 #[.string (wStr (lo X)), .int .i64 (hi X : Nat)] w (WordPost (wStr (lo X)) 0 0 w) := by
  obtain ⟨h1, h2⟩ := (good_iff X).1 h
  have HC := Lib.hid (fun (W : World) => codewordOf_yes X W hX)
  have HS := Lib.hid (fun (W : World) (hT : MaskTab W) => syn_cw X W hX hT)
  have HP := Lib.hid (fun (W : World) => par_cw X W hX)
  have HT := Lib.hid hT
  clear hT
  unfold cw at HC HS HP
  rw [h1] at HS
  rw [h2] at HP
  clear h h1 h2
  generalize wStr (lo X) = s at *
  go_enter Tryz.func61, Tryz.ntmps61
  go_wp2_with (go_at_call 71; refine (HC.out _).mono ?_; rintro e w1 ⟨rfl, hb1⟩)
  have r1 : Row (w1.alloc (.cells #[.int .u64 (lo X : Nat), .int .u8 (hi X : Nat)] 100)) w1.heap.size 100 #[.int .u64 (lo X : Nat), .int .u8 (hi X : Nat)] := heap_alloc_new w1 _
  have hr := r1.range
  have hz1 := hb1.size
  have hbw : Below w.heap.size w (w1.alloc (.cells #[.int .u64 (lo X : Nat), .int .u8 (hi X : Nat)] 100)) := hb1.alloc hb1.size _
  have hsz : w1.heap.size < (w1.alloc (.cells #[.int .u64 (lo X : Nat), .int .u8 (hi X : Nat)] 100)).heap.size := by simp
  have hT2 := HT.out.below hbw (Nat.le_refl _)
  have HT2 := Lib.hid (show MaskTab (w1.alloc (.cells #[.int .u64 (lo X : Nat), .int .u8 (hi X : Nat)] 100)).drew from hT2)
  clear r1 hb1 hT2
  have hu := Tryz.underlying100
  have hin : (Tryz.prog.info? 100).map (·.size) = some [Value.int .u64 (lo X : Nat), .int .u8 (hi X : Nat)].length := infoCw
  generalize hw3 : w1.alloc (.cells #[.int .u64 (lo X : Nat), .int .u8 (hi X : Nat)] 100) = w3 at *
  clear hw3
  generalize w1.heap.size = b at *
  refine wp_region_held_drew (S := fun w' => w'.rangeAt b 0 [.int .u64 (lo X : Nat), .int .u8 (hi X : Nat)]) (by kernel_rfl) hr (fun hHeld => ?_)
  refine wpAnyH_take (i := 0) (oi := _) (v := .agg #[.int .u64 (lo X : Nat), .int .u8 (hi X : Nat)]) rfl (by kernel_rfl) (by kernel_rfl) (by kernel_rfl) (fun _ _ _ h => h) (yieldsIf_load_mid (by rfl) _ _ rfl _ _ rfl [.int .u64 (lo X : Nat), .int .u8 (hi X : Nat)] _ (fun _ h => h) hu rfl hin) hHeld ?_
  refine wpAnyH_take (i := 2) (oi := _) (v := .agg #[.int .u64 (lo X : Nat), .int .u8 (hi X : Nat)]) rfl (by kernel_rfl) (by kernel_rfl) (by kernel_rfl) (fun _ _ _ h => h) (yieldsIf_load_mid (by rfl) _ _ rfl _ _ rfl [.int .u64 (lo X : Nat), .int .u8 (hi X : Nat)] _ (fun _ h => h) hu rfl hin) hHeld ?_
  refine wpAnyH_ready (rs := [1]) (by kernel_rfl) (by simp) ?_
  refine AllReadyH.cons (o := _) rfl (fun K hK => ?_) AllReadyH.nil
  go_simp
  go_at_call 72
  refine (HS.out _ HT2.out).mono ?_
  rintro e w4 ⟨rfl, hb4⟩
  have hr4 := range_below hHeld hb4 hsz
  refine hK.out _ _ hr4 (fun hHeld => ?_)
  clear hK K
  refine wpAnyH_ready (rs := [3]) (by kernel_rfl) (by simp) ?_
  refine AllReadyH.cons (o := _) rfl (fun K hK => ?_) AllReadyH.nil
  go_simp
  go_at_call 73
  refine (HP.out _).mono ?_
  rintro e w5 ⟨rfl, hb5⟩
  refine hK.out _ _ (range_below hr4 hb5 (Nat.lt_of_lt_of_le hsz hb4.size)) (fun hHeld => ?_)
  clear hK K
  refine wpAnyH_take (i := 4) (oi := _) (v := .int .i64 (0 : Int)) rfl (by kernel_rfl) (by kernel_rfl) (by kernel_rfl) (fun _ _ _ h => h) (Or.inl ⟨by rfl, fun w hSw => by go_simp⟩) hHeld ?_
  refine wpAnyH_take (i := 5) (oi := _) (v := .int .i64 (0 : Int)) rfl (by kernel_rfl) (by kernel_rfl) (by kernel_rfl) (fun _ _ _ h => h) (Or.inl ⟨by rfl, fun w hSw => by go_simp⟩) hHeld ?_
  refine wpAnyH_done (by kernel_rfl) ?_ _
  have hB5 : Below w.heap.size w w5 := (hbw.drew.trans (hb4.mono hbw.size)).trans (hb5.mono (Nat.le_trans hbw.size hb4.size))
  clear hb4 hb5 hr4 hbw hHeld
  go_wp2
  go_ret3
  exact ⟨rfl, hB5⟩
set_option maxRecDepth 100000 in
theorem implDec_one (X : Nat) (w : World) (hX : X < 2 ^ 72) (hT : MaskTab w) (h : One X) :
    Calls Tryz.prog 61 #[.string (wStr (lo X)), .int .i64 (hi X : Nat)] w (WordPost (wStr (lo (fixN X))) 1 0 w) := by
  have hsy : (synN X : Int) ≤ 71 := by have := h.2; omega
  have HK := Lib.hid (fun (W : World) => correct_any X W hX h)
  have HX := Lib.hid (fun (Y : Nat) (W : World) => text_any Y W)
  have HC := Lib.hid (fun (W : World) => codewordOf_yes X W hX)
  have HS := Lib.hid (fun (W : World) (hT : MaskTab W) => syn_cw X W hX hT)
  have HP := Lib.hid (fun (W : World) => par_cw X W hX)
  have HT := Lib.hid hT
  clear hT
  unfold cw at HC HS HP
  rw [h.1] at HP
  clear h
  generalize synN X = S at *
  generalize lo (fixN X) = R at *
  generalize wStr (lo X) = s at *
  go_enter Tryz.func61, Tryz.ntmps61
  go_wp2_with (go_at_call 71; refine (HC.out _).mono ?_; rintro e w1 ⟨rfl, hb1⟩)
  have r1 : Row (w1.alloc (.cells #[.int .u64 (lo X : Nat), .int .u8 (hi X : Nat)] 100)) w1.heap.size 100 #[.int .u64 (lo X : Nat), .int .u8 (hi X : Nat)] := heap_alloc_new w1 _
  have hr := r1.range
  have hz1 := hb1.size
  have hbw : Below w.heap.size w (w1.alloc (.cells #[.int .u64 (lo X : Nat), .int .u8 (hi X : Nat)] 100)) := hb1.alloc hb1.size _
  have hsz : w1.heap.size < (w1.alloc (.cells #[.int .u64 (lo X : Nat), .int .u8 (hi X : Nat)] 100)).heap.size := by simp
  have hT2 := HT.out.below hbw (Nat.le_refl _)
  have HT2 := Lib.hid (show MaskTab (w1.alloc (.cells #[.int .u64 (lo X : Nat), .int .u8 (hi X : Nat)] 100)).drew from hT2)
  clear r1 hb1 hT2
  have hu := Tryz.underlying100
  have hin : (Tryz.prog.info? 100).map (·.size) = some [Value.int .u64 (lo X : Nat), .int .u8 (hi X : Nat)].length := infoCw
  generalize hw3 : w1.alloc (.cells #[.int .u64 (lo X : Nat), .int .u8 (hi X : Nat)] 100) = w3 at *
  clear hw3
  generalize w1.heap.size = b at *
  refine wp_region_held_drew (S := fun w' => w'.rangeAt b 0 [.int .u64 (lo X : Nat), .int .u8 (hi X : Nat)]) (by kernel_rfl) hr (fun hHeld => ?_)
  refine wpAnyH_take (i := 0) (oi := _) (v := .agg #[.int .u64 (lo X : Nat), .int .u8 (hi X : Nat)]) rfl (by kernel_rfl) (by kernel_rfl) (by kernel_rfl) (fun _ _ _ h => h) (yieldsIf_load_mid (by rfl) _ _ rfl _ _ rfl [.int .u64 (lo X : Nat), .int .u8 (hi X : Nat)] _ (fun _ h => h) hu rfl hin) hHeld ?_
  refine wpAnyH_take (i := 2) (oi := _) (v := .agg #[.int .u64 (lo X : Nat), .int .u8 (hi X : Nat)]) rfl (by kernel_rfl) (by kernel_rfl) (by kernel_rfl) (fun _ _ _ h => h) (yieldsIf_load_mid (by rfl) _ _ rfl _ _ rfl [.int .u64 (lo X : Nat), .int .u8 (hi X : Nat)] _ (fun _ h => h) hu rfl hin) hHeld ?_
  refine wpAnyH_ready (rs := [1]) (by kernel_rfl) (by simp) ?_
  refine AllReadyH.cons (o := _) rfl (fun K hK => ?_) AllReadyH.nil
  go_simp
  go_at_call 72
  refine (HS.out _ HT2.out).mono ?_
  rintro e w4 ⟨rfl, hb4⟩
  have hr4 := range_below hHeld hb4 hsz
  refine hK.out _ _ hr4 (fun hHeld => ?_)
  clear hK K
  refine wpAnyH_ready (rs := [3]) (by kernel_rfl) (by simp) ?_
  refine AllReadyH.cons (o := _) rfl (fun K hK => ?_) AllReadyH.nil
  go_simp
  go_at_call 73
  refine (HP.out _).mono ?_
  rintro e w5 ⟨rfl, hb5⟩
  refine hK.out _ _ (range_below hr4 hb5 (Nat.lt_of_lt_of_le hsz hb4.size)) (fun hHeld => ?_)
  clear hK K
  refine wpAnyH_take (i := 4) (oi := _) (v := .int .i64 (S : Int)) rfl (by kernel_rfl) (by kernel_rfl) (by kernel_rfl) (fun _ _ _ h => h) (Or.inl ⟨by rfl, fun w hSw => by go_simp⟩) hHeld ?_
  refine wpAnyH_take (i := 5) (oi := _) (v := .int .i64 (1 : Int)) rfl (by kernel_rfl) (by kernel_rfl) (by kernel_rfl) (fun _ _ _ h => h) (Or.inl ⟨by rfl, fun w hSw => by go_simp⟩) hHeld ?_
  refine wpAnyH_done (by kernel_rfl) ?_ _
  have hB5 : Below w.heap.size w w5 := (hbw.drew.trans (hb4.mono hbw.size)).trans (hb5.mono (Nat.le_trans hbw.size hb4.size))
  have c0 := hHeld 0 _ rfl
  have c1 := hHeld 1 _ rfl
  simp only [Nat.zero_add] at c0 c1
  clear hb4 hb5 hr4 hbw hHeld hu hin
  unfold cw at HK
  go_wp2_with fail
  refine (HK.out _).mono ?_
  rintro e w6 ⟨Y, rfl, hY, hb6⟩
  subst hY
  have hB6 := hB5.trans (hb6.mono hB5.size)
  clear hB5 hb6
  go_wp2_with fail
  refine (HX.out Y _).mono ?_
  rintro e w7 ⟨rfl, hb7⟩
  have hB7 := hB6.trans (hb7.mono hB6.size)
  clear hB6 hb7
  go_wp2
  go_ret3
  exact ⟨rfl, hB7⟩
set_option maxRecDepth 100000 in
theorem implDec_none (X : Nat) (w : World) (hX : X < 2 ^ 72) (hT : MaskTab w) (h : good X = false) (h2 : ¬ One X) :
    Calls Tryz.prog 61 #[.string (wStr (lo X)), .int .i64 (hi X : Nat)] w (WordPost ⟨#[]⟩ 0 6 w) := by
  have hpl := parN_lt X
  have hc : (parN X = 0 ∧ ((synN X : Int) == 0) = false) ∨ (parN X = 1 ∧ 71 < (synN X : Int)) := by
    by_cases hp : parN X = 1
    · exact .inr ⟨hp, by have : ¬ synN X ≤ 71 := fun h3 => h2 ⟨hp, h3⟩; omega⟩
    · refine .inl ⟨by omega, ?_⟩
      have : synN X ≠ 0 := fun e => by rw [(good_iff X).2 ⟨e, by omega⟩] at h; cases h
      simp; omega
  have HC := Lib.hid (fun (W : World) => codewordOf_yes X W hX)
  have HS := Lib.hid (fun (W : World) (hT : MaskTab W) => syn_cw X W hX hT)
  have HP := Lib.hid (fun (W : World) => par_cw X W hX)
  have HT := Lib.hid hT
  clear hT
  unfold cw at HC HS HP
  clear h h2
  generalize wStr (lo X) = s at *
  generalize synN X = S at *
  generalize parN X = P at *
  rcases hc with ⟨rfl, hc1⟩ | ⟨rfl, hc1⟩
  · go_enter Tryz.func61, Tryz.ntmps61
    go_wp2_with (go_at_call 71; refine (HC.out _).mono ?_; rintro e w1 ⟨rfl, hb1⟩)
    have r1 : Row (w1.alloc (.cells #[.int .u64 (lo X : Nat), .int .u8 (hi X : Nat)] 100)) w1.heap.size 100 #[.int .u64 (lo X : Nat), .int .u8 (hi X : Nat)] := heap_alloc_new w1 _
    have hr := r1.range
    have hz1 := hb1.size
    have hbw : Below w.heap.size w (w1.alloc (.cells #[.int .u64 (lo X : Nat), .int .u8 (hi X : Nat)] 100)) := hb1.alloc hb1.size _
    have hsz : w1.heap.size < (w1.alloc (.cells #[.int .u64 (lo X : Nat), .int .u8 (hi X : Nat)] 100)).heap.size := by simp
    have hT2 := HT.out.below hbw (Nat.le_refl _)
    have HT2 := Lib.hid (show MaskTab (w1.alloc (.cells #[.int .u64 (lo X : Nat), .int .u8 (hi X : Nat)] 100)).drew from hT2)
    clear r1 hb1 hT2
    have hu := Tryz.underlying100
    have hin : (Tryz.prog.info? 100).map (·.size) = some [Value.int .u64 (lo X : Nat), .int .u8 (hi X : Nat)].length := infoCw
    generalize hw3 : w1.alloc (.cells #[.int .u64 (lo X : Nat), .int .u8 (hi X : Nat)] 100) = w3 at *
    clear hw3
    generalize w1.heap.size = b at *
    refine wp_region_held_drew (S := fun w' => w'.rangeAt b 0 [.int .u64 (lo X : Nat), .int .u8 (hi X : Nat)]) (by kernel_rfl) hr (fun hHeld => ?_)
    refine wpAnyH_take (i := 0) (oi := _) (v := .agg #[.int .u64 (lo X : Nat), .int .u8 (hi X : Nat)]) rfl (by kernel_rfl) (by kernel_rfl) (by kernel_rfl) (fun _ _ _ h => h) (yieldsIf_load_mid (by rfl) _ _ rfl _ _ rfl [.int .u64 (lo X : Nat), .int .u8 (hi X : Nat)] _ (fun _ h => h) hu rfl hin) hHeld ?_
    refine wpAnyH_take (i := 2) (oi := _) (v := .agg #[.int .u64 (lo X : Nat), .int .u8 (hi X : Nat)]) rfl (by kernel_rfl) (by kernel_rfl) (by kernel_rfl) (fun _ _ _ h => h) (yieldsIf_load_mid (by rfl) _ _ rfl _ _ rfl [.int .u64 (lo X : Nat), .int .u8 (hi X : Nat)] _ (fun _ h => h) hu rfl hin) hHeld ?_
    refine wpAnyH_ready (rs := [1]) (by kernel_rfl) (by simp) ?_
    refine AllReadyH.cons (o := _) rfl (fun K hK => ?_) AllReadyH.nil
    go_simp
    go_at_call 72
    refine (HS.out _ HT2.out).mono ?_
    rintro e w4 ⟨rfl, hb4⟩
    have hr4 := range_below hHeld hb4 hsz
    refine hK.out _ _ hr4 (fun hHeld => ?_)
    clear hK K
    refine wpAnyH_ready (rs := [3]) (by kernel_rfl) (by simp) ?_
    refine AllReadyH.cons (o := _) rfl (fun K hK => ?_) AllReadyH.nil
    go_simp
    go_at_call 73
    refine (HP.out _).mono ?_
    rintro e w5 ⟨rfl, hb5⟩
    refine hK.out _ _ (range_below hr4 hb5 (Nat.lt_of_lt_of_le hsz hb4.size)) (fun hHeld => ?_)
    clear hK K
    refine wpAnyH_take (i := 4) (oi := _) (v := .int .i64 (S : Int)) rfl (by kernel_rfl) (by kernel_rfl) (by kernel_rfl) (fun _ _ _ h => h) (Or.inl ⟨by rfl, fun w hSw => by go_simp⟩) hHeld ?_
    refine wpAnyH_take (i := 5) (oi := _) (v := .int .i64 (0 : Int)) rfl (by kernel_rfl) (by kernel_rfl) (by kernel_rfl) (fun _ _ _ h => h) (Or.inl ⟨by rfl, fun w hSw => by go_simp⟩) hHeld ?_
    refine wpAnyH_done (by kernel_rfl) ?_ _
    have hB5 : Below w.heap.size w w5 := (hbw.drew.trans (hb4.mono hbw.size)).trans (hb5.mono (Nat.le_trans hbw.size hb4.size))
    clear hb4 hb5 hr4 hbw hHeld
    go_wp2
    go_ret3
    exact ⟨rfl, hB5⟩
  · go_enter Tryz.func61, Tryz.ntmps61
    go_wp2_with (go_at_call 71; refine (HC.out _).mono ?_; rintro e w1 ⟨rfl, hb1⟩)
    have r1 : Row (w1.alloc (.cells #[.int .u64 (lo X : Nat), .int .u8 (hi X : Nat)] 100)) w1.heap.size 100 #[.int .u64 (lo X : Nat), .int .u8 (hi X : Nat)] := heap_alloc_new w1 _
    have hr := r1.range
    have hz1 := hb1.size
    have hbw : Below w.heap.size w (w1.alloc (.cells #[.int .u64 (lo X : Nat), .int .u8 (hi X : Nat)] 100)) := hb1.alloc hb1.size _
    have hsz : w1.heap.size < (w1.alloc (.cells #[.int .u64 (lo X : Nat), .int .u8 (hi X : Nat)] 100)).heap.size := by simp
    have hT2 := HT.out.below hbw (Nat.le_refl _)
    have HT2 := Lib.hid (show MaskTab (w1.alloc (.cells #[.int .u64 (lo X : Nat), .int .u8 (hi X : Nat)] 100)).drew from hT2)
    clear r1 hb1 hT2
    have hu := Tryz.underlying100
    have hin : (Tryz.prog.info? 100).map (·.size) = some [Value.int .u64 (lo X : Nat), .int .u8 (hi X : Nat)].length := infoCw
    generalize hw3 : w1.alloc (.cells #[.int .u64 (lo X : Nat), .int .u8 (hi X : Nat)] 100) = w3 at *
    clear hw3
    generalize w1.heap.size = b at *
    refine wp_region_held_drew (S := fun w' => w'.rangeAt b 0 [.int .u64 (lo X : Nat), .int .u8 (hi X : Nat)]) (by kernel_rfl) hr (fun hHeld => ?_)
    refine wpAnyH_take (i := 0) (oi := _) (v := .agg #[.int .u64 (lo X : Nat), .int .u8 (hi X : Nat)]) rfl (by kernel_rfl) (by kernel_rfl) (by kernel_rfl) (fun _ _ _ h => h) (yieldsIf_load_mid (by rfl) _ _ rfl _ _ rfl [.int .u64 (lo X : Nat), .int .u8 (hi X : Nat)] _ (fun _ h => h) hu rfl hin) hHeld ?_
    refine wpAnyH_take (i := 2) (oi := _) (v := .agg #[.int .u64 (lo X : Nat), .int .u8 (hi X : Nat)]) rfl (by kernel_rfl) (by kernel_rfl) (by kernel_rfl) (fun _ _ _ h => h) (yieldsIf_load_mid (by rfl) _ _ rfl _ _ rfl [.int .u64 (lo X : Nat), .int .u8 (hi X : Nat)] _ (fun _ h => h) hu rfl hin) hHeld ?_
    refine wpAnyH_ready (rs := [1]) (by kernel_rfl) (by simp) ?_
    refine AllReadyH.cons (o := _) rfl (fun K hK => ?_) AllReadyH.nil
    go_simp
    go_at_call 72
    refine (HS.out _ HT2.out).mono ?_
    rintro e w4 ⟨rfl, hb4⟩
    have hr4 := range_below hHeld hb4 hsz
    refine hK.out _ _ hr4 (fun hHeld => ?_)
    clear hK K
    refine wpAnyH_ready (rs := [3]) (by kernel_rfl) (by simp) ?_
    refine AllReadyH.cons (o := _) rfl (fun K hK => ?_) AllReadyH.nil
    go_simp
    go_at_call 73
    refine (HP.out _).mono ?_
    rintro e w5 ⟨rfl, hb5⟩
    refine hK.out _ _ (range_below hr4 hb5 (Nat.lt_of_lt_of_le hsz hb4.size)) (fun hHeld => ?_)
    clear hK K
    refine wpAnyH_take (i := 4) (oi := _) (v := .int .i64 (S : Int)) rfl (by kernel_rfl) (by kernel_rfl) (by kernel_rfl) (fun _ _ _ h => h) (Or.inl ⟨by rfl, fun w hSw => by go_simp⟩) hHeld ?_
    refine wpAnyH_take (i := 5) (oi := _) (v := .int .i64 (1 : Int)) rfl (by kernel_rfl) (by kernel_rfl) (by kernel_rfl) (fun _ _ _ h => h) (Or.inl ⟨by rfl, fun w hSw => by go_simp⟩) hHeld ?_
    refine wpAnyH_done (by kernel_rfl) ?_ _
    have hB5 : Below w.heap.size w w5 := (hbw.drew.trans (hb4.mono hbw.size)).trans (hb5.mono (Nat.le_trans hbw.size hb4.size))
    clear hb4 hb5 hr4 hbw hHeld
    go_wp2
    go_ret3
    exact ⟨rfl, hB5⟩
theorem implDec_any (X : Nat) (R : ByteArray) (n c : Int) (w : World) (hX : X < 2 ^ 72) (hT : MaskTab w) (h : Dec X R n c) :
    Calls Tryz.prog 61 #[.string (wStr (lo X)), .int .i64 (hi X : Nat)] w (WordPost R n c w) := by
  rcases h with ⟨h1, rfl, rfl, rfl⟩ | ⟨h1, h2, rfl, rfl, rfl⟩ | ⟨h1, h2, rfl, rfl, rfl⟩
  · exact implDec_good X w hX hT h1
  · exact implDec_one X w hX hT h2
  · exact implDec_none X w hX hT h1 h2
theorem implDec_no (s : ByteArray) (c : Int) (w : World) (h : s.size ≠ 8 ∨ c < 0 ∨ 255 < c) :
    Calls Tryz.prog 61 #[.string s, .int .i64 c] w (WordPost ⟨#[]⟩ 0 1 w) := by
  go_enter Tryz.func61, Tryz.ntmps61
  go_wp2_with (go_at_call 71; refine (codewordOf_no _ _ _ h).mono ?_; rintro e w1 ⟨rfl, hb1⟩)
  go_ret3
  exact ⟨rfl, hb1.alloc hb1.size _⟩
end Go.Proofs.YthenilomgbnpeaaGreatDoor
