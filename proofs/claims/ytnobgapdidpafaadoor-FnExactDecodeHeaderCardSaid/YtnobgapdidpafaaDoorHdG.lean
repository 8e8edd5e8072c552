/- A header decoded: the program. -/
import Derived.Test.YtnobgapdidpafaaDoorProg
import Derived.Test.YtnobgapdidpafaaDoorHdD
import Derived.Deep.DeepCutAuto
import Derived.Deep.RegionHeld3
namespace Go.Proofs.YtnobgapdidpafaaDoor
open Go.RowKit
set_option linter.unusedVariables false
set_option linter.unusedSimpArgs false
set_option maxHeartbeats 8000000 in
set_option maxRecDepth 100000 in
theorem implDecHdr_any (x d : ByteArray) (r : Bool) (w : World) (hz : x.size ≤ 1048576) (hd : d.size ≤ 1048576) (hr : r = true ↔ HdDOk x d) (hT : CrcTab w) : Calls Tryd.prog 10 #[.string x, .string d] w (HdPost x r w) := by
  have hzi : (x.size : Int) ≤ 1048576 := by omega
  have hdi : (d.size : Int) ≤ 1048576 := by omega
  have R0 := Lib.hid (Rw.new w 25 #[.int .i64 0, .int .i64 0, .int .i64 0, .int .i64 0, .int .i64 0, .int .i64 0])
  have B0 := Lib.hid ((Below.refl w.heap.size w).alloc (Nat.le_refl _) (.cells #[.int .i64 0, .int .i64 0, .int .i64 0, .int .i64 0, .int .i64 0, .int .i64 0] 25))
  have HT := Lib.hid hT
  clear hT
  obtain ⟨c0, c1, c2, c3, c4, c5⟩ := R0.out.six
  obtain ⟨f0, f1, f2, f3, f4, f5, _, _⟩ := R0.out.frees
  by_cases h16 : x.size = 16
  case neg =>
    obtain rfl : r = false := not_true hr (fun e => h16 e.1)
    have e1 : ((x.size : Int) != 16) = true := by simp; omega
    clear hr hz hzi hd hdi h16
    go_enter Tryd.func10, Tryd.ntmps10
    go_wp2
    exact bodyPost_ret (results_row_tmp Tryd.results10 _ _ _ _ _ _ _ rfl R0.out Tryd.underlying25 rfl infoHd6) rfl ⟨rfl, B0.out⟩
  have e1 : ((x.size : Int) != 16) = false := by simp; omega
  have hn0 : 0 < x.size := by omega
  have hb0 := byteAt_eq hn0
  have hy0 := byteAt_le x 0
  have hl0 : (0 : Int) < (x.size : Int) := by omega
  have hn1 : 1 < x.size := by omega
  have hb1 := byteAt_eq hn1
  have hy1 := byteAt_le x 1
  have hl1 : (1 : Int) < (x.size : Int) := by omega
  have hn2 : 2 < x.size := by omega
  have hb2 := byteAt_eq hn2
  have hy2 := byteAt_le x 2
  have hl2 : (2 : Int) < (x.size : Int) := by omega
  have hn3 : 3 < x.size := by omega
  have hb3 := byteAt_eq hn3
  have hy3 := byteAt_le x 3
  have hl3 : (3 : Int) < (x.size : Int) := by omega
  have hn8 : 8 < x.size := by omega
  have hb8 := byteAt_eq hn8
  have hy8 := byteAt_le x 8
  have hl8 : (8 : Int) < (x.size : Int) := by omega
  have l4 : (4 : Int) ≤ (x.size : Int) := by omega
  have l8 : (8 : Int) ≤ (x.size : Int) := by omega
  have HD := Lib.hid (fun (W : World) => show Calls Tryd.prog 21 #[.string (x.extract 4 8)] W fun e w' => e = .returned (.int .i64 (fld x 4 8)) ∧ W = w' from implDecFixed_short (x.extract 4 8) W (fld_eq x 4 8 (by omega) (by omega)))
  obtain ⟨rm, hrm⟩ := prop_dec' (d.size = 64 ∧ HdOk ((byteAt x 0 : Nat) : Int) ((byteAt x 1 : Nat) : Int) ((byteAt x 2 : Nat) : Int) ((byteAt x 3 : Nat) : Int) (fld x 4 8) ((byteAt x 8 : Nat) : Int))
  have HE := Lib.hid (fun (W : World) (b : Below w.heap.size w W) => implEncHdr_any ((byteAt x 0 : Nat) : Int) ((byteAt x 1 : Nat) : Int) ((byteAt x 2 : Nat) : Int) ((byteAt x 3 : Nat) : Int) (fld x 4 8) ((byteAt x 8 : Nat) : Int) d rm W hd hrm (HT.out.below b (Nat.le_refl _)))
  obtain ⟨E, hE⟩ : ∃ E, E = hdE d ((byteAt x 0 : Nat) : Int) ((byteAt x 1 : Nat) : Int) ((byteAt x 2 : Nat) : Int) ((byteAt x 3 : Nat) : Int) (fld x 4 8) ((byteAt x 8 : Nat) : Int) rm := ⟨_, rfl⟩
  rw [← hE] at HE
  have HR := Lib.hid (show r = true ↔ E = x by
    rw [hr, hE]
    cases rm with
    | true => exact ⟨fun e => e.2.2.2, fun e => ⟨h16, (hrm.1 rfl).1, (hrm.1 rfl).2, e⟩⟩
    | false =>
      have hn : ¬ (d.size = 64 ∧ HdOk ((byteAt x 0 : Nat) : Int) ((byteAt x 1 : Nat) : Int) ((byteAt x 2 : Nat) : Int) ((byteAt x 3 : Nat) : Int) (fld x 4 8) ((byteAt x 8 : Nat) : Int)) := fun q => by have := hrm.2 q; cases this
      refine ⟨fun e => absurd ⟨e.2.1, e.2.2.1⟩ hn, fun e => ?_⟩
      rw [← e] at h16
      cases h16)
  clear hr hrm h16 hz hd hE hzi hdi
  obtain ⟨y0, hw0⟩ : ∃ n, n = byteAt x 0 := ⟨_, rfl⟩
  obtain ⟨y1, hw1⟩ : ∃ n, n = byteAt x 1 := ⟨_, rfl⟩
  obtain ⟨y2, hw2⟩ : ∃ n, n = byteAt x 2 := ⟨_, rfl⟩
  obtain ⟨y3, hw3⟩ : ∃ n, n = byteAt x 3 := ⟨_, rfl⟩
  obtain ⟨y8, hw8⟩ : ∃ n, n = byteAt x 8 := ⟨_, rfl⟩
  obtain ⟨y4, hw4⟩ : ∃ n, n = fld x 4 8 := ⟨_, rfl⟩
  have HV : Hid (hdV x r = if r = true then .agg #[.int .i64 (y0 : Int), .int .i64 (y1 : Int), .int .i64 (y2 : Int), .int .i64 (y3 : Int), .int .i64 y4, .int .i64 (y8 : Int)] else .agg #[.int .i64 0, .int .i64 0, .int .i64 0, .int .i64 0, .int .i64 0, .int .i64 0]) := by show _ = _; unfold hdV; rw [hw0, hw1, hw2, hw3, hw4, hw8]
  rw [← hw0] at hb0 hy0
  rw [← hw1] at hb1 hy1
  rw [← hw2] at hb2 hy2
  rw [← hw3] at hb3 hy3
  rw [← hw8] at hb8 hy8
  rw [← hw0, ← hw1, ← hw2, ← hw3, ← hw4, ← hw8] at HE
  rw [← hw4] at HD
  clear hw0 hw1 hw2 hw3 hw4 hw8
  unfold HdPost
  obtain ⟨U, hU⟩ : ∃ U, U = hdV x r := ⟨_, rfl⟩
  rw [← hU] at HV ⊢
  clear hU
  go_enter Tryd.func10, Tryd.ntmps10
  go_upto_region 3 with fail
  obtain ⟨W0, hW0⟩ : ∃ v, v = w.alloc (.cells #[.int .i64 0, .int .i64 0, .int .i64 0, .int .i64 0, .int .i64 0, .int .i64 0] 25) := ⟨_, rfl⟩
  obtain ⟨g, hg⟩ : ∃ g, g = w.heap.size := ⟨_, rfl⟩
  have hg0 : W0.heap.size = g + 1 := by rw [hW0, hg]; simp
  rw [← hW0] at R0 B0 ⊢
  rw [← hg] at R0 ⊢
  have HG := Lib.hid hg
  have HW := Lib.hid hg0
  have KP := Lib.hid (fun (W : World) (b : Below W0.heap.size W0 W) => (show Rw W g 25 #[.int .i64 0, .int .i64 0, .int .i64 0, .int .i64 0, .int .i64 0, .int .i64 0] ∧ Below w.heap.size w W from ⟨R0.out.below b (by rw [HW.out]; omega), B0.out.trans (b.mono (by rw [HW.out, HG.out]; omega))⟩))
  clear hW0 hg hg0 c0 c1 c2 c3 c4 c5 f0 f1 f2 f3 f4 f5
  have hzq := Nat.le_refl W0.heap.size
  go_cut [6] (fun p6 wx => p6 = .pointer (some ⟨W0.heap.size, 0, none⟩) ∧ Hid (Rw wx W0.heap.size 25 #[.int .i64 (y0 : Int), .int .i64 (y1 : Int), .int .i64 (y2 : Int), .int .i64 (y3 : Int), .int .i64 y4, .int .i64 (y8 : Int)]) ∧ Hid (Rw wx g 25 #[.int .i64 0, .int .i64 0, .int .i64 0, .int .i64 0, .int .i64 0, .int .i64 0]) ∧ Hid (Below w.heap.size w wx))
  case first =>
    have hbx := (Below.refl W0.heap.size W0).alloc (Nat.le_refl _) (.cells #[.int .i64 (y0 : Int), .int .i64 (y1 : Int), .int .i64 (y2 : Int), .int .i64 (y3 : Int), .int .i64 y4, .int .i64 (y8 : Int)] 25)
    have hrx := Rw.new W0 25 #[.int .i64 (y0 : Int), .int .i64 (y1 : Int), .int .i64 (y2 : Int), .int .i64 (y3 : Int), .int .i64 y4, .int .i64 (y8 : Int)]
    refine wp_region_held_drew (S := fun W => Rw W g 25 #[.int .i64 0, .int .i64 0, .int .i64 0, .int .i64 0, .int .i64 0, .int .i64 0] ∧ Below w.heap.size w W) (by kernel_rfl) (KP.out _ (Below.refl _ _).drew) (fun hHeld => ?_)
    refine wpAnyH_take (i := 0) (oi := _) (v := .string x) rfl (by kernel_rfl) (by kernel_rfl) (by kernel_rfl) (fun _ _ _ h => h) (Or.inl ⟨by rfl, fun W hSw => by first | (go_simp; done) | (go_simp; exact IntWalk.i64_in _ (by omega))⟩) hHeld ?_
    refine wpAnyH_take (i := 1) (oi := _) (v := .int .u8 (y0 : Int)) rfl (by kernel_rfl) (by kernel_rfl) (by kernel_rfl) (fun _ _ _ h => h) (Or.inl ⟨by rfl, fun W hSw => by first | (go_simp; done) | (go_simp; exact IntWalk.i64_in _ (by omega))⟩) hHeld ?_
    refine wpAnyH_take (i := 2) (oi := _) (v := .int .i64 (y0 : Int)) rfl (by kernel_rfl) (by kernel_rfl) (by kernel_rfl) (fun _ _ _ h => h) (Or.inl ⟨by rfl, fun W hSw => by first | (go_simp; done) | (go_simp; exact IntWalk.i64_in _ (by omega))⟩) hHeld ?_
    refine wpAnyH_take (i := 3) (oi := _) (v := .string x) rfl (by kernel_rfl) (by kernel_rfl) (by kernel_rfl) (fun _ _ _ h => h) (Or.inl ⟨by rfl, fun W hSw => by first | (go_simp; done) | (go_simp; exact IntWalk.i64_in _ (by omega))⟩) hHeld ?_
    refine wpAnyH_take (i := 4) (oi := _) (v := .int .u8 (y1 : Int)) rfl (by kernel_rfl) (by kernel_rfl) (by kernel_rfl) (fun _ _ _ h => h) (Or.inl ⟨by rfl, fun W hSw => by first | (go_simp; done) | (go_simp; exact IntWalk.i64_in _ (by omega))⟩) hHeld ?_
    refine wpAnyH_take (i := 5) (oi := _) (v := .int .i64 (y1 : Int)) rfl (by kernel_rfl) (by kernel_rfl) (by kernel_rfl) (fun _ _ _ h => h) (Or.inl ⟨by rfl, fun W hSw => by first | (go_simp; done) | (go_simp; exact IntWalk.i64_in _ (by omega))⟩) hHeld ?_
    refine wpAnyH_take (i := 6) (oi := _) (v := .string x) rfl (by kernel_rfl) (by kernel_rfl) (by kernel_rfl) (fun _ _ _ h => h) (Or.inl ⟨by rfl, fun W hSw => by first | (go_simp; done) | (go_simp; exact IntWalk.i64_in _ (by omega))⟩) hHeld ?_
    refine wpAnyH_take (i := 7) (oi := _) (v := .int .u8 (y2 : Int)) rfl (by kernel_rfl) (by kernel_rfl) (by kernel_rfl) (fun _ _ _ h => h) (Or.inl ⟨by rfl, fun W hSw => by first | (go_simp; done) | (go_simp; exact IntWalk.i64_in _ (by omega))⟩) hHeld ?_
    refine wpAnyH_take (i := 8) (oi := _) (v := .int .i64 (y2 : Int)) rfl (by kernel_rfl) (by kernel_rfl) (by kernel_rfl) (fun _ _ _ h => h) (Or.inl ⟨by rfl, fun W hSw => by first | (go_simp; done) | (go_simp; exact IntWalk.i64_in _ (by omega))⟩) hHeld ?_
    refine wpAnyH_take (i := 9) (oi := _) (v := .string x) rfl (by kernel_rfl) (by kernel_rfl) (by kernel_rfl) (fun _ _ _ h => h) (Or.inl ⟨by rfl, fun W hSw => by first | (go_simp; done) | (go_simp; exact IntWalk.i64_in _ (by omega))⟩) hHeld ?_
    refine wpAnyH_take (i := 10) (oi := _) (v := .int .u8 (y3 : Int)) rfl (by kernel_rfl) (by kernel_rfl) (by kernel_rfl) (fun _ _ _ h => h) (Or.inl ⟨by rfl, fun W hSw => by first | (go_simp; done) | (go_simp; exact IntWalk.i64_in _ (by omega))⟩) hHeld ?_
    refine wpAnyH_take (i := 11) (oi := _) (v := .int .i64 (y3 : Int)) rfl (by kernel_rfl) (by kernel_rfl) (by kernel_rfl) (fun _ _ _ h => h) (Or.inl ⟨by rfl, fun W hSw => by first | (go_simp; done) | (go_simp; exact IntWalk.i64_in _ (by omega))⟩) hHeld ?_
    refine wpAnyH_take (i := 12) (oi := _) (v := .string x) rfl (by kernel_rfl) (by kernel_rfl) (by kernel_rfl) (fun _ _ _ h => h) (Or.inl ⟨by rfl, fun W hSw => by first | (go_simp; done) | (go_simp; exact IntWalk.i64_in _ (by omega))⟩) hHeld ?_
    refine wpAnyH_take (i := 13) (oi := _) (v := .string (x.extract 4 8)) rfl (by kernel_rfl) (by kernel_rfl) (by kernel_rfl) (fun _ _ _ h => h) (Or.inl ⟨by rfl, fun W hSw => by first | (go_simp; done) | (go_simp; exact IntWalk.i64_in _ (by omega))⟩) hHeld ?_
    refine wpAnyH_take (i := 15) (oi := _) (v := .string x) rfl (by kernel_rfl) (by kernel_rfl) (by kernel_rfl) (fun _ _ _ h => h) (Or.inl ⟨by rfl, fun W hSw => by first | (go_simp; done) | (go_simp; exact IntWalk.i64_in _ (by omega))⟩) hHeld ?_
    refine wpAnyH_take (i := 16) (oi := _) (v := .int .u8 (y8 : Int)) rfl (by kernel_rfl) (by kernel_rfl) (by kernel_rfl) (fun _ _ _ h => h) (Or.inl ⟨by rfl, fun W hSw => by first | (go_simp; done) | (go_simp; exact IntWalk.i64_in _ (by omega))⟩) hHeld ?_
    refine wpAnyH_take (i := 17) (oi := _) (v := .int .i64 (y8 : Int)) rfl (by kernel_rfl) (by kernel_rfl) (by kernel_rfl) (fun _ _ _ h => h) (Or.inl ⟨by rfl, fun W hSw => by first | (go_simp; done) | (go_simp; exact IntWalk.i64_in _ (by omega))⟩) hHeld ?_
    refine wpAnyH_ready (rs := [14, 19]) (by kernel_rfl) (by simp) ?_
    refine AllReadyH.cons (o := _) rfl (fun K hK => ?_) (AllReadyH.cons (o := _) rfl (fun K hK => ?_) AllReadyH.nil)
    · go_simp
      refine (HD.out _).mono ?_
      rintro e w1 ⟨rfl, rfl⟩
      refine hK.out _ _ (by first | exact KP.out _ (Below.refl _ _).drew | exact KP.out _ ((Below.refl W0.heap.size W0).alloc (Nat.le_refl _) _).drew | exact KP.out _ (((Below.refl W0.heap.size W0).drew).alloc (Nat.le_refl _) _)) (fun hHeld => ?_)
      clear hK K
      refine wpAnyH_take (i := 18) (oi := _) (v := .agg #[.int .i64 (y0 : Int), .int .i64 (y1 : Int), .int .i64 (y2 : Int), .int .i64 (y3 : Int), .int .i64 y4, .int .i64 (y8 : Int)]) rfl (by kernel_rfl) (by kernel_rfl) (by kernel_rfl) (fun _ _ _ h => h) (Or.inl ⟨by rfl, fun W hSw => by go_simp⟩) hHeld ?_
      refine wpAnyH_ready (rs := [19]) (by kernel_rfl) (by simp) ?_
      refine AllReadyH.cons (o := _) rfl (fun K hK => ?_) AllReadyH.nil
      go_simp
      refine hK.out _ _ (by first | exact KP.out _ (Below.refl _ _).drew | exact KP.out _ ((Below.refl W0.heap.size W0).alloc (Nat.le_refl _) _).drew | exact KP.out _ (((Below.refl W0.heap.size W0).drew).alloc (Nat.le_refl _) _)) (fun hHeld => ?_)
      clear hK K
      refine wpAnyH_ready (rs := [20]) (by kernel_rfl) (by simp) ?_
      refine AllReadyH.cons (o := _) rfl (fun K hK => ?_) AllReadyH.nil
      go_simp
      refine hK.out _ _ (by first | exact KP.out _ ((Below.refl W0.heap.size W0).alloc (Nat.le_refl _) _).drew | exact KP.out _ (((((((((Below.refl W0.heap.size W0).alloc (Nat.le_refl _) _).drew).setCell hzq _).setCell hzq _).setCell hzq _).setCell hzq _).setCell hzq _).setCell hzq _)) (fun hHeld => ?_)
      clear hK K
      refine wpAnyH_done (by kernel_rfl) ?_ _
      clear hHeld
      go_wp2_with fail
      go_meet
      exact ⟨rfl, Lib.hid hrx, Lib.hid (KP.out _ hbx.drew).1, Lib.hid (KP.out _ hbx.drew).2⟩
    · go_simp
      refine hK.out _ _ (by first | exact KP.out _ (Below.refl _ _).drew | exact KP.out _ ((Below.refl W0.heap.size W0).alloc (Nat.le_refl _) _).drew | exact KP.out _ (((Below.refl W0.heap.size W0).drew).alloc (Nat.le_refl _) _)) (fun hHeld => ?_)
      clear hK K
      refine wpAnyH_ready (rs := [14]) (by kernel_rfl) (by simp) ?_
      refine AllReadyH.cons (o := _) rfl (fun K hK => ?_) AllReadyH.nil
      go_simp
      refine (HD.out _).mono ?_
      rintro e w1 ⟨rfl, rfl⟩
      refine hK.out _ _ (by first | exact KP.out _ (Below.refl _ _).drew | exact KP.out _ ((Below.refl W0.heap.size W0).alloc (Nat.le_refl _) _).drew | exact KP.out _ (((Below.refl W0.heap.size W0).drew).alloc (Nat.le_refl _) _)) (fun hHeld => ?_)
      clear hK K
      refine wpAnyH_take (i := 18) (oi := _) (v := .agg #[.int .i64 (y0 : Int), .int .i64 (y1 : Int), .int .i64 (y2 : Int), .int .i64 (y3 : Int), .int .i64 y4, .int .i64 (y8 : Int)]) rfl (by kernel_rfl) (by kernel_rfl) (by kernel_rfl) (fun _ _ _ h => h) (Or.inl ⟨by rfl, fun W hSw => by go_simp⟩) hHeld ?_
      refine wpAnyH_ready (rs := [20]) (by kernel_rfl) (by simp) ?_
      refine AllReadyH.cons (o := _) rfl (fun K hK => ?_) AllReadyH.nil
      go_simp
      refine hK.out _ _ (by first | exact KP.out _ ((Below.refl W0.heap.size W0).alloc (Nat.le_refl _) _).drew | exact KP.out _ (((((((((Below.refl W0.heap.size W0).alloc (Nat.le_refl _) _).drew).setCell hzq _).setCell hzq _).setCell hzq _).setCell hzq _).setCell hzq _).setCell hzq _)) (fun hHeld => ?_)
      clear hK K
      refine wpAnyH_done (by kernel_rfl) ?_ _
      clear hHeld
      go_wp2_with fail
      go_meet
      exact ⟨rfl, Lib.hid hrx, Lib.hid (KP.out _ hbx.drew).1, Lib.hid (KP.out _ hbx.drew).2⟩
  case rest =>
    obtain ⟨rfl, RM, RG, BX⟩ := hcut
    obtain ⟨m, hm⟩ : ∃ m, m = W0.heap.size := ⟨_, rfl⟩
    rw [← hm] at RM ⊢
    clear hm
    obtain ⟨c0, c1, c2, c3, c4, c5⟩ := RM.out.six
    have hgw : w.heap.size ≤ g := by rw [HG.out]; omega
    go_wp2_with fail
    refine (HE.out _ BX.out).mono ?_
    rintro e w2 ⟨rfl, b2⟩
    have RM2 := Lib.hid (RM.out.below b2 RM.out.lt)
    have RG2 := Lib.hid (RG.out.below b2 RG.out.lt)
    have BX2 := Lib.hid (BX.out.trans (b2.mono BX.out.size))
    clear b2 c0 c1 c2 c3 c4 c5 RM RG BX
    obtain ⟨c0, c1, c2, c3, c4, c5⟩ := RM2.out.six
    obtain ⟨d0, d1, d2, d3, d4, d5⟩ := RG2.out.six
    obtain ⟨f0, f1, f2, f3, f4, f5, _, _⟩ := RG2.out.frees
    by_cases hX : E = x
    · obtain rfl : r = true := HR.out.2 hX
      have hq := str_same hX
      clear hX
      go_wp2
      exact bodyPost_ret (results_row_tmp Tryd.results10 _ _ _ _ _ _ _ rfl ((((((RG2.out.set_ 0 (.int .i64 (y0 : Int))).set_ 1 (.int .i64 (y1 : Int))).set_ 2 (.int .i64 (y2 : Int))).set_ 3 (.int .i64 (y3 : Int))).set_ 4 (.int .i64 y4)).set_ 5 (.int .i64 (y8 : Int))) Tryd.underlying25 rfl infoHd6) rfl ⟨by rw [HV.out]; rfl, (bset (bset (bset (bset (bset (bset BX2.out hgw (k := 0) (.int .i64 (y0 : Int))) hgw (k := 1) (.int .i64 (y1 : Int))) hgw (k := 2) (.int .i64 (y2 : Int))) hgw (k := 3) (.int .i64 (y3 : Int))) hgw (k := 4) (.int .i64 y4)) hgw (k := 5) (.int .i64 (y8 : Int)))⟩
    · obtain rfl : r = false := not_true HR.out hX
      have hq := str_diff hX
      clear hX
      go_wp2
      exact bodyPost_ret (results_row_tmp Tryd.results10 _ _ _ _ _ _ _ rfl ((((((RG2.out.set_ 0 (.int .i64 0)).set_ 1 (.int .i64 0)).set_ 2 (.int .i64 0)).set_ 3 (.int .i64 0)).set_ 4 (.int .i64 0)).set_ 5 (.int .i64 0)) Tryd.underlying25 rfl infoHd6) rfl ⟨by rw [HV.out]; rfl, (bset (bset (bset (bset (bset (bset BX2.out hgw (k := 0) (.int .i64 0)) hgw (k := 1) (.int .i64 0)) hgw (k := 2) (.int .i64 0)) hgw (k := 3) (.int .i64 0)) hgw (k := 4) (.int .i64 0)) hgw (k := 5) (.int .i64 0))⟩
end Go.Proofs.YtnobgapdidpafaaDoor
