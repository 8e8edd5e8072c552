/- DecodeMeta: the model and the program. -/
import Derived.Test.YtfnccbanmgfkeabDoorProg
import Derived.Test.YtfnccbanmgfkeabDoorMd
import Derived.Deep.DeepCutAuto
namespace Go.Proofs.YtfnccbanmgfkeabDoor
open Go.RowKit
set_option linter.unusedVariables false
set_option linter.unusedSimpArgs false
def MdOk (s : ByteArray) : Prop := s.size = 16 ∧ FldOk s
def MdPost (s : ByteArray) (r : Bool) (w : World) (e : Ending) (w' : World) : Prop := e = .returned (.tuple #[mdV s r, .bool r]) ∧ Below w.heap.size w w'
set_option maxHeartbeats 4000000 in
set_option maxRecDepth 100000 in
theorem specDecMeta_any (s : ByteArray) (r : Bool) (w : World) (hz : s.size ≤ 1048576) (hr : r = true ↔ MdOk s) : Calls Tryd.prog 12 #[.string s] w (MdPost s r w) := by
  have hzi : (s.size : Int) ≤ 1048576 := by omega
  have R0 := Lib.hid (Rw.new w 25 #[.int .i64 0, .int .i64 0, .int .i64 0, .int .i64 0, .int .i64 0])
  have B0 := Lib.hid ((Below.refl w.heap.size w).alloc (Nat.le_refl _) (.cells #[.int .i64 0, .int .i64 0, .int .i64 0, .int .i64 0, .int .i64 0] 25))
  obtain ⟨c0, c1, c2, c3, c4⟩ := R0.out.five
  obtain ⟨f0, f1, f2, f3, f4, _, _, _⟩ := R0.out.frees
  by_cases h16 : s.size = 16
  case neg =>
    obtain rfl : r = false := not_true hr (fun e => h16 e.1)
    have e1 : ((s.size : Int) != 16) = true := by simp; omega
    clear hr hz hzi h16
    go_enter Tryd.func12, Tryd.ntmps12
    go_wp2
    exact bodyPost_ret (results_row_tmp Tryd.results12 _ _ _ _ _ _ _ rfl R0.out Tryd.underlying25 rfl infoMt5) rfl ⟨rfl, B0.out⟩
  have e1 : ((s.size : Int) != 16) = false := by simp; omega
  have l1 : (1 : Int) ≤ (s.size : Int) := by omega
  have l3 : (3 : Int) ≤ (s.size : Int) := by omega
  have l7 : (7 : Int) ≤ (s.size : Int) := by omega
  have l11 : (11 : Int) ≤ (s.size : Int) := by omega
  have l12 : (12 : Int) ≤ (s.size : Int) := by omega
  have HD := Lib.hid (fun (a b : Nat) (W : World) (h : b ≤ 16) (h' : b ≤ a + 8) => show Calls Tryd.prog 36 #[.string (s.extract a b)] W fun e w' => e = .returned (.int .i64 (fld s a b)) ∧ W = w' from specDecFixed_short (s.extract a b) W (fld_eq s a b (by omega) h'))
  obtain ⟨rm, hrm⟩ := prop_dec' (MetaOk (fld s 0 1) (fld s 1 3) (fld s 3 7) (fld s 7 11) (fld s 11 12))
  have HM := Lib.hid (fun (W : World) => specMeta_any (fld s 0 1) (fld s 1 3) (fld s 3 7) (fld s 7 11) (fld s 11 12) rm W hrm)
  have HE := Lib.hid (fun (W : World) => l10Encode_any (fld s 0 1) (fld s 1 3) (fld s 3 7) (fld s 7 11) (fld s 11 12) W)
  have HR := Lib.hid (show r = true ↔ (rm = true ∧ sealM (metaL (fld s 0 1) (fld s 1 3) (fld s 3 7) (fld s 7 11) (fld s 11 12)) = s) by
    rw [hr, hrm]
    exact ⟨fun e => e.2, fun e => ⟨h16, e⟩⟩)
  clear hr hrm h16 hz
  go_enter Tryd.func12, Tryd.ntmps12
  go_upto_region 3 with fail
  obtain ⟨W0, hW0⟩ : ∃ x, x = w.alloc (.cells #[.int .i64 0, .int .i64 0, .int .i64 0, .int .i64 0, .int .i64 0] 25) := ⟨_, rfl⟩
  obtain ⟨g, hg⟩ : ∃ g, g = w.heap.size := ⟨_, rfl⟩
  have hg0 : W0.heap.size = g + 1 := by rw [hW0, hg]; simp
  rw [← hW0] at R0 B0 ⊢
  rw [← hg] at R0 ⊢
  have HG := Lib.hid hg
  have HW := Lib.hid hg0
  have KP := Lib.hid (fun (W : World) (b : Below W0.heap.size W0 W) => (show Rw W g 25 #[.int .i64 0, .int .i64 0, .int .i64 0, .int .i64 0, .int .i64 0] ∧ Below w.heap.size w W from ⟨R0.out.below b (by rw [HW.out]; omega), B0.out.trans (b.mono (by rw [HW.out, HG.out]; omega))⟩))
  clear hW0 hg hg0 c0 c1 c2 c3 c4 f0 f1 f2 f3 f4
  have hzq := Nat.le_refl W0.heap.size
  go_cut [4] (fun p4 wx => p4 = .pointer (some ⟨W0.heap.size, 0, none⟩) ∧ Hid (Rw wx W0.heap.size 25 #[.int .i64 (fld s 0 1), .int .i64 (fld s 1 3), .int .i64 (fld s 3 7), .int .i64 (fld s 7 11), .int .i64 (fld s 11 12)]) ∧ Hid (Rw wx g 25 #[.int .i64 0, .int .i64 0, .int .i64 0, .int .i64 0, .int .i64 0]) ∧ Hid (Below w.heap.size w wx))
  case first =>
    have hbx := (Below.refl W0.heap.size W0).alloc (Nat.le_refl _) (.cells #[.int .i64 (fld s 0 1), .int .i64 (fld s 1 3), .int .i64 (fld s 3 7), .int .i64 (fld s 7 11), .int .i64 (fld s 11 12)] 25)
    have hrx := Rw.new W0 25 #[.int .i64 (fld s 0 1), .int .i64 (fld s 1 3), .int .i64 (fld s 3 7), .int .i64 (fld s 7 11), .int .i64 (fld s 11 12)]
    go_region_held3 (fun W => Rw W g 25 #[.int .i64 0, .int .i64 0, .int .i64 0, .int .i64 0, .int .i64 0] ∧ Below w.heap.size w W)
      (first
        | with_reducible exact KP.out _ (Below.refl _ _).drew
        | with_reducible exact KP.out _ ((Below.refl W0.heap.size W0).alloc (Nat.le_refl _) _).drew
        | with_reducible exact KP.out _ ((((((((Below.refl W0.heap.size W0).alloc (Nat.le_refl _) _).drew).setCell hzq _).setCell hzq _).setCell hzq _).setCell hzq _).setCell hzq _)
        | with_reducible exact KP.out _ (((Below.refl W0.heap.size W0).drew).alloc (Nat.le_refl _) _))
      (first
        | (go_at_call 36
           refine (HD.out _ _ _ (by decide) (by decide)).mono ?_
           rintro e w1 ⟨rfl, rfl⟩))
    all_goals (go_wp2_with fail; go_meet)
    all_goals exact ⟨rfl, Lib.hid hrx, Lib.hid (KP.out _ hbx.drew).1, Lib.hid (KP.out _ hbx.drew).2⟩
  case rest =>
    obtain ⟨rfl, RM, RG, BX⟩ := hcut
    obtain ⟨m, hm⟩ : ∃ m, m = W0.heap.size := ⟨_, rfl⟩
    rw [← hm] at RM ⊢
    clear hm
    obtain ⟨c0, c1, c2, c3, c4⟩ := RM.out.five
    have hgw : w.heap.size ≤ g := by rw [HG.out]; omega
    go_wp2_with fail
    refine (HM.out _).mono ?_
    rintro e w1 ⟨rfl, b1⟩
    have hmx := RM.out.lt
    have hgx := RG.out.lt
    have RM1 := Lib.hid (RM.out.below b1 hmx)
    have RG1 := Lib.hid (RG.out.below b1 hgx)
    have BX1 := Lib.hid (BX.out.trans (b1.mono BX.out.size))
    clear b1 c0 c1 c2 c3 c4 RM RG BX hmx hgx
    obtain ⟨c0, c1, c2, c3, c4⟩ := RM1.out.five
    obtain ⟨d0, d1, d2, d3, d4⟩ := RG1.out.five
    obtain ⟨f0, f1, f2, f3, f4, _, _, _⟩ := RG1.out.frees
    cases rm with
    | false =>
      obtain rfl : r = false := not_true HR.out (fun e => by cases e.1)
      go_wp2
      exact bodyPost_ret (results_row_tmp Tryd.results12 _ _ _ _ _ _ _ rfl (((((RG1.out.set_ 0 (.int .i64 0)).set_ 1 (.int .i64 0)).set_ 2 (.int .i64 0)).set_ 3 (.int .i64 0)).set_ 4 (.int .i64 0)) Tryd.underlying25 rfl infoMt5) rfl ⟨rfl, (bset (bset (bset (bset (bset BX1.out hgw (k := 0) (.int .i64 0)) hgw (k := 1) (.int .i64 0)) hgw (k := 2) (.int .i64 0)) hgw (k := 3) (.int .i64 0)) hgw (k := 4) (.int .i64 0))⟩
    | true =>
      go_wp2_with fail
      refine (HE.out _).mono ?_
      rintro e w2 ⟨rfl, b2⟩
      have RM2 := Lib.hid (RM1.out.below b2 RM1.out.lt)
      have RG2 := Lib.hid (RG1.out.below b2 RG1.out.lt)
      have BX2 := Lib.hid (BX1.out.trans (b2.mono BX1.out.size))
      clear b2 c0 c1 c2 c3 c4 d0 d1 d2 d3 d4 f0 f1 f2 f3 f4 RM1 RG1 BX1
      obtain ⟨c0, c1, c2, c3, c4⟩ := RM2.out.five
      obtain ⟨d0, d1, d2, d3, d4⟩ := RG2.out.five
      obtain ⟨f0, f1, f2, f3, f4, _, _, _⟩ := RG2.out.frees
      by_cases hX : sealM (metaL (fld s 0 1) (fld s 1 3) (fld s 3 7) (fld s 7 11) (fld s 11 12)) = s
      · obtain rfl : r = true := HR.out.2 ⟨by first | rfl | trivial, hX⟩
        have hq := str_same hX
        clear hX
        go_wp2
        exact bodyPost_ret (results_row_tmp Tryd.results12 _ _ _ _ _ _ _ rfl (((((RG2.out.set_ 0 (.int .i64 (fld s 0 1))).set_ 1 (.int .i64 (fld s 1 3))).set_ 2 (.int .i64 (fld s 3 7))).set_ 3 (.int .i64 (fld s 7 11))).set_ 4 (.int .i64 (fld s 11 12))) Tryd.underlying25 rfl infoMt5) rfl ⟨rfl, (bset (bset (bset (bset (bset BX2.out hgw (k := 0) (.int .i64 (fld s 0 1))) hgw (k := 1) (.int .i64 (fld s 1 3))) hgw (k := 2) (.int .i64 (fld s 3 7))) hgw (k := 3) (.int .i64 (fld s 7 11))) hgw (k := 4) (.int .i64 (fld s 11 12)))⟩
      · obtain rfl : r = false := not_true HR.out (fun e => hX e.2)
        have hq := str_diff hX
        clear hX
        go_wp2
        exact bodyPost_ret (results_row_tmp Tryd.results12 _ _ _ _ _ _ _ rfl (((((RG2.out.set_ 0 (.int .i64 0)).set_ 1 (.int .i64 0)).set_ 2 (.int .i64 0)).set_ 3 (.int .i64 0)).set_ 4 (.int .i64 0)) Tryd.underlying25 rfl infoMt5) rfl ⟨rfl, (bset (bset (bset (bset (bset BX2.out hgw (k := 0) (.int .i64 0)) hgw (k := 1) (.int .i64 0)) hgw (k := 2) (.int .i64 0)) hgw (k := 3) (.int .i64 0)) hgw (k := 4) (.int .i64 0))⟩
set_option maxHeartbeats 4000000 in
set_option maxRecDepth 100000 in
theorem implDecMeta_any (s : ByteArray) (r : Bool) (w : World) (hz : s.size ≤ 1048576) (hr : r = true ↔ MdOk s) (hT : CrcTab w) : Calls Tryd.prog 13 #[.string s] w (MdPost s r w) := by
  have hzi : (s.size : Int) ≤ 1048576 := by omega
  have R0 := Lib.hid (Rw.new w 25 #[.int .i64 0, .int .i64 0, .int .i64 0, .int .i64 0, .int .i64 0])
  have B0 := Lib.hid ((Below.refl w.heap.size w).alloc (Nat.le_refl _) (.cells #[.int .i64 0, .int .i64 0, .int .i64 0, .int .i64 0, .int .i64 0] 25))
  obtain ⟨c0, c1, c2, c3, c4⟩ := R0.out.five
  obtain ⟨f0, f1, f2, f3, f4, _, _, _⟩ := R0.out.frees
  have HT := Lib.hid hT
  by_cases h16 : s.size = 16
  case neg =>
    obtain rfl : r = false := not_true hr (fun e => h16 e.1)
    have e1 : ((s.size : Int) != 16) = true := by simp; omega
    clear hr hz hzi h16 hT
    go_enter Tryd.func13, Tryd.ntmps13
    go_wp2
    exact bodyPost_ret (results_row_tmp Tryd.results13 _ _ _ _ _ _ _ rfl R0.out Tryd.underlying25 rfl infoMt5) rfl ⟨rfl, B0.out⟩
  have e1 : ((s.size : Int) != 16) = false := by simp; omega
  have HM := Lib.hid (fun (W : World) => show Calls Tryd.prog 37 #[.string s] W fun e w' => e = .returned (.agg #[.int .i64 (fld s 0 1), .int .i64 (fld s 1 3), .int .i64 (fld s 3 7), .int .i64 (fld s 7 11), .int .i64 (fld s 11 12)]) ∧ Below W.heap.size W w' from readMeta_any s W h16)
  obtain ⟨rm, hrm⟩ := prop_dec' (MetaOk (fld s 0 1) (fld s 1 3) (fld s 3 7) (fld s 7 11) (fld s 11 12))
  obtain ⟨E, hE⟩ : ∃ E, E = (bif rm then sealM (metaL (fld s 0 1) (fld s 1 3) (fld s 3 7) (fld s 7 11) (fld s 11 12)) else .empty) := ⟨_, rfl⟩
  have HE := Lib.hid (fun (W : World) (b : Below w.heap.size w W) => implEncMeta_any (fld s 0 1) (fld s 1 3) (fld s 3 7) (fld s 7 11) (fld s 11 12) rm W hrm (HT.out.below b (Nat.le_refl _)))
  have HR := Lib.hid (show r = true ↔ E = s by
    rw [hr, hE]
    cases rm with
    | true => exact ⟨fun e => e.2.2, fun e => ⟨h16, hrm.1 rfl, e⟩⟩
    | false =>
      have hn : ¬ MetaOk (fld s 0 1) (fld s 1 3) (fld s 3 7) (fld s 7 11) (fld s 11 12) := fun q => by have := hrm.2 q; cases this
      refine ⟨fun e => absurd e.2.1 hn, fun e => ?_⟩
      rw [← e] at h16
      cases h16)
  rw [← hE] at HE
  have hg0 : (w.alloc (.cells #[.int .i64 0, .int .i64 0, .int .i64 0, .int .i64 0, .int .i64 0] 25)).heap.size = w.heap.size + 1 := by simp
  clear hr hrm h16 hz hE hT c0 c1 c2 c3 c4 f0 f1 f2 f3 f4
  obtain ⟨g, hg⟩ : ∃ g, g = w.heap.size := ⟨_, rfl⟩
  have hgw : w.heap.size ≤ g := by omega
  rw [← hg] at R0
  have HG := Lib.hid hg
  go_enter Tryd.func13, Tryd.ntmps13
  go_wp2_with fail
  rw [← HG.out]
  clear hg
  refine (HM.out _).mono ?_
  rintro e w1 ⟨rfl, b1⟩
  have RG1 := Lib.hid ((R0.out.below b1 (by rw [hg0, HG.out]; omega)).alloc (.cells #[.int .i64 (fld s 0 1), .int .i64 (fld s 1 3), .int .i64 (fld s 3 7), .int .i64 (fld s 7 11), .int .i64 (fld s 11 12)] 25))
  have B1 := Lib.hid (B0.out.trans (b1.mono (by simp)))
  have BX1 := Lib.hid (B1.out.alloc B1.out.size (.cells #[.int .i64 (fld s 0 1), .int .i64 (fld s 1 3), .int .i64 (fld s 3 7), .int .i64 (fld s 7 11), .int .i64 (fld s 11 12)] 25))
  have RM1 := Lib.hid (Rw.new w1 25 #[.int .i64 (fld s 0 1), .int .i64 (fld s 1 3), .int .i64 (fld s 3 7), .int .i64 (fld s 7 11), .int .i64 (fld s 11 12)])
  clear b1 hg0
  obtain ⟨c0, c1, c2, c3, c4⟩ := RM1.out.five
  go_wp2_with fail
  refine (HE.out _ BX1.out).mono ?_
  rintro e w2 ⟨rfl, b2⟩
  have RM2 := Lib.hid (RM1.out.below b2 RM1.out.lt)
  have RG2 := Lib.hid (RG1.out.below b2 RG1.out.lt)
  have BX2 := Lib.hid (BX1.out.trans (b2.mono BX1.out.size))
  clear b2 c0 c1 c2 c3 c4 RM1 RG1 BX1 R0 B0 B1
  obtain ⟨c0, c1, c2, c3, c4⟩ := RM2.out.five
  obtain ⟨d0, d1, d2, d3, d4⟩ := RG2.out.five
  obtain ⟨f0, f1, f2, f3, f4, _, _, _⟩ := RG2.out.frees
  by_cases hX : E = s
  · obtain rfl : r = true := HR.out.2 hX
    have hq := str_same hX
    clear hX
    go_wp2
    exact bodyPost_ret (results_row_tmp Tryd.results13 _ _ _ _ _ _ _ rfl (((((RG2.out.set_ 0 (.int .i64 (fld s 0 1))).set_ 1 (.int .i64 (fld s 1 3))).set_ 2 (.int .i64 (fld s 3 7))).set_ 3 (.int .i64 (fld s 7 11))).set_ 4 (.int .i64 (fld s 11 12))) Tryd.underlying25 rfl infoMt5) rfl ⟨rfl, (bset (bset (bset (bset (bset BX2.out hgw (k := 0) (.int .i64 (fld s 0 1))) hgw (k := 1) (.int .i64 (fld s 1 3))) hgw (k := 2) (.int .i64 (fld s 3 7))) hgw (k := 3) (.int .i64 (fld s 7 11))) hgw (k := 4) (.int .i64 (fld s 11 12)))⟩
  · obtain rfl : r = false := not_true HR.out hX
    have hq := str_diff hX
    clear hX
    go_wp2
    exact bodyPost_ret (results_row_tmp Tryd.results13 _ _ _ _ _ _ _ rfl (((((RG2.out.set_ 0 (.int .i64 0)).set_ 1 (.int .i64 0)).set_ 2 (.int .i64 0)).set_ 3 (.int .i64 0)).set_ 4 (.int .i64 0)) Tryd.underlying25 rfl infoMt5) rfl ⟨rfl, (bset (bset (bset (bset (bset BX2.out hgw (k := 0) (.int .i64 0)) hgw (k := 1) (.int .i64 0)) hgw (k := 2) (.int .i64 0)) hgw (k := 3) (.int .i64 0)) hgw (k := 4) (.int .i64 0))⟩
end Go.Proofs.YtfnccbanmgfkeabDoor
