/- The metadata of a page, decoded: the model and the program. -/
import Derived.Test.YtfnccbanmgfkeabDoorProg
import Derived.Test.YtfnccbanmgfkeabDoorMe
import Derived.Test.YtfnccbanmgfkeabDoorFixed
import Derived.Test.YtfnccbanmgfkeabDoorStrs
import Derived.Deep.RegionHeld3
namespace Go.Proofs.YtfnccbanmgfkeabDoor
open Go.RowKit
set_option linter.unusedVariables false
set_option linter.unusedSimpArgs false
/-- The integer in the bytes from a to b; the five fields; a text that is the encoding of valid metadata. -/
def fld (s : ByteArray) (a b : Nat) : Int := fixF (s.extract a b) (s.extract a b).size
def FldOk (s : ByteArray) : Prop := MetaOk (fld s 0 1) (fld s 1 3) (fld s 3 7) (fld s 7 11) (fld s 11 12) ∧ sealM (metaL (fld s 0 1) (fld s 1 3) (fld s 3 7) (fld s 7 11) (fld s 11 12)) = s
def fldV (s : ByteArray) : Value := .agg #[.int .i64 (fld s 0 1), .int .i64 (fld s 1 3), .int .i64 (fld s 3 7), .int .i64 (fld s 7 11), .int .i64 (fld s 11 12)]
def mdV (s : ByteArray) (r : Bool) : Value := bif r then fldV s else .agg #[.int .i64 0, .int .i64 0, .int .i64 0, .int .i64 0, .int .i64 0]
theorem fld_eq (s : ByteArray) (a b : Nat) (h : b ≤ s.size) (hb : b ≤ a + 8) : (s.extract a b).size ≤ 8 := by rw [ByteArray.size_extract]; omega
theorem fld_cut (s : ByteArray) (a b n : Nat) : fld (s.extract n s.size) a b = fld s (n + a) (min (n + b) s.size) := by
  unfold fld
  rw [show (s.extract n s.size).extract a b = s.extract (n + a) (min (n + b) s.size) from ByteArray.extract_extract]
set_option maxHeartbeats 2000000 in
theorem nextMeta_any (t : ByteArray) (n g : Nat) (w : World) (hn : n ≤ 8) (hs : n ≤ t.size) (hz : t.size ≤ 1048576) (hR : Rw w g 9 #[.string t]) :
    Calls Tryd.prog 74 #[.int .i64 (n : Int), .pointer (some ⟨g, 0, none⟩)] w fun e w' => e = .returned (.int .i64 (fld t 0 n)) ∧ w' = w.setCell ⟨g, 0, none⟩ (.string (t.extract n t.size)) := by
  have c0 := hR.cell 0
  have f0 := hR.free 0
  have c0' : w.cell? ⟨g, 0, none⟩ = some (.string t) := c0
  have HD := Lib.hid (fun (W : World) => show Calls Tryd.prog 75 #[.string (t.extract 0 n)] W fun e w' => e = .returned (.int .i64 (fld t 0 n)) ∧ W = w' from implDecFixed_short (t.extract 0 n) W (fld_eq t 0 n hs (by omega)))
  have hns : (n : Int) ≤ (t.size : Int) := by omega
  clear hR c0
  go_enter Tryd.func74, Tryd.ntmps74
  go_wp2_with fail
  refine (HD.out _).mono ?_
  rintro e w1 ⟨rfl, rfl⟩
  go_wp2
  go_ret
  exact ⟨rfl, rfl⟩
theorem nextMeta_at (s : ByteArray) (a n g : Nat) (w : World) (hn : n ≤ 8) (hs : a + n ≤ s.size) (hz : s.size ≤ 1048576) (hR : Rw w g 9 #[.string (s.extract a s.size)]) :
    Calls Tryd.prog 74 #[.int .i64 (n : Int), .pointer (some ⟨g, 0, none⟩)] w fun e w' => e = .returned (.int .i64 (fld s a (a + n))) ∧ w' = w.setCell ⟨g, 0, none⟩ (.string (s.extract (a + n) s.size)) := by
  have h := nextMeta_any (s.extract a s.size) n g w hn (by rw [ByteArray.size_extract]; omega) (by rw [ByteArray.size_extract]; omega) hR
  rw [fld_cut, ByteArray.extract_extract, show min (a + n) s.size = a + n by omega, show a + 0 = a from rfl, ByteArray.size_extract, show min (a + (min s.size s.size - a)) s.size = s.size by omega] at h
  exact h
set_option maxHeartbeats 4000000 in
theorem readMeta_any (s : ByteArray) (w : World) (hs : s.size = 16) :
    Calls Tryd.prog 37 #[.string s] w fun e w' => e = .returned (fldV s) ∧ Below w.heap.size w w' := by
  obtain ⟨r0, r1, r2, bb⟩ := Rw.three_new w 9 25 25 #[.string s] #[.int .i64 0, .int .i64 0, .int .i64 0, .int .i64 0, .int .i64 0] #[.int .i64 0, .int .i64 0, .int .i64 0, .int .i64 0, .int .i64 0]
  obtain ⟨W0, hW0⟩ : ∃ W0, W0 = ((w.alloc (.cells #[.string s] 9)).alloc (.cells #[.int .i64 0, .int .i64 0, .int .i64 0, .int .i64 0, .int .i64 0] 25)).alloc (.cells #[.int .i64 0, .int .i64 0, .int .i64 0, .int .i64 0, .int .i64 0] 25) := ⟨_, rfl⟩
  rw [← hW0] at r0 r1 r2 bb
  have e0 : s = s.extract 0 s.size := by simp
  have R0 := Lib.hid (show Rw W0 w.heap.size 9 #[.string (s.extract 0 s.size)] by rw [← e0]; exact r0)
  obtain ⟨g, hg⟩ : ∃ g, g = w.heap.size := ⟨_, rfl⟩
  rw [← hg] at R0 r1 r2
  have R1 := Lib.hid r1
  have R2 := Lib.hid r2
  have BB := Lib.hid bb
  have HW := Lib.hid hW0
  have HG := Lib.hid hg
  have HN := Lib.hid (fun (a n : Nat) (W : World) (hn : n ≤ 8) (h : a + n ≤ 16) (hR : Rw W g 9 #[.string (s.extract a s.size)]) => nextMeta_at s a n g W hn (by omega) (by omega) hR)
  have HF : Hid (.agg #[.int .i64 (fld s 0 1), .int .i64 (fld s 1 3), .int .i64 (fld s 3 7), .int .i64 (fld s 7 11), .int .i64 (fld s 11 12)] = fldV s) := rfl
  clear r0 r1 r2 bb e0 hg
  go_enter Tryd.func37, Tryd.ntmps37
  go_wp2_with fail
  rw [← hW0, ← HG.out]
  clear hW0
  refine (HN.out 0 1 _ (by decide) (by decide) R0.out).mono ?_
  rintro e w1 ⟨rfl, rfl⟩
  obtain ⟨V0, hV0⟩ : ∃ x, x = World.setCell W0 ⟨g, 0, none⟩ (.string (s.extract (0 + 1) s.size)) := ⟨_, rfl⟩
  have R0 := Lib.hid (show Rw V0 g _ #[.string (s.extract (0 + 1) s.size)] by rw [hV0]; exact R0.out.set_ 0 _)
  have R1 := Lib.hid (show Rw V0 (g + 1) _ _ by rw [hV0]; exact R1.out.farA (by omega) _)
  have R2 := Lib.hid (show Rw V0 (g + 1 + 1) _ #[.int .i64 0, .int .i64 0, .int .i64 0, .int .i64 0, .int .i64 0] by rw [hV0]; exact R2.out.farA (by omega) _)
  have BB := Lib.hid (show Below w.heap.size w V0 by rw [hV0]; exact bset BB.out (by rw [HG.out]; omega) _)
  rw [← hV0]
  clear hV0
  obtain ⟨f0, f1, f2, f3, f4, _, _, _⟩ := R2.out.frees
  obtain ⟨c0, c1, c2, c3, c4⟩ := R2.out.five
  go_wp2_with fail
  obtain ⟨X0, hX0⟩ : ∃ x, x = World.setCell V0 ⟨g + 1 + 1, 0, none⟩ (.int .i64 (fld s 0 (0 + 1))) := ⟨_, rfl⟩
  have R0 := Lib.hid (show Rw X0 g _ _ by rw [hX0]; exact R0.out.farA (by omega) _)
  have R1 := Lib.hid (show Rw X0 (g + 1) _ _ by rw [hX0]; exact R1.out.farA (by omega) _)
  have R2 := Lib.hid (show Rw X0 (g + 1 + 1) _ #[.int .i64 (fld s 0 (0 + 1)), .int .i64 0, .int .i64 0, .int .i64 0, .int .i64 0] by rw [hX0]; exact R2.out.set_ 0 _)
  have BB := Lib.hid (show Below w.heap.size w X0 by rw [hX0]; exact bset BB.out (by rw [HG.out]; omega) _)
  rw [← hX0]
  clear hX0 f0 f1 f2 f3 f4 c0 c1 c2 c3 c4
  refine (HN.out 1 2 _ (by decide) (by decide) R0.out).mono ?_
  rintro e w1 ⟨rfl, rfl⟩
  obtain ⟨V1, hV1⟩ : ∃ x, x = World.setCell X0 ⟨g, 0, none⟩ (.string (s.extract (1 + 2) s.size)) := ⟨_, rfl⟩
  have R0 := Lib.hid (show Rw V1 g _ #[.string (s.extract (1 + 2) s.size)] by rw [hV1]; exact R0.out.set_ 0 _)
  have R1 := Lib.hid (show Rw V1 (g + 1) _ _ by rw [hV1]; exact R1.out.farA (by omega) _)
  have R2 := Lib.hid (show Rw V1 (g + 1 + 1) _ #[.int .i64 (fld s 0 (0 + 1)), .int .i64 0, .int .i64 0, .int .i64 0, .int .i64 0] by rw [hV1]; exact R2.out.farA (by omega) _)
  have BB := Lib.hid (show Below w.heap.size w V1 by rw [hV1]; exact bset BB.out (by rw [HG.out]; omega) _)
  rw [← hV1]
  clear hV1
  obtain ⟨f0, f1, f2, f3, f4, _, _, _⟩ := R2.out.frees
  obtain ⟨c0, c1, c2, c3, c4⟩ := R2.out.five
  go_wp2_with fail
  obtain ⟨X1, hX1⟩ : ∃ x, x = World.setCell V1 ⟨g + 1 + 1, 1, none⟩ (.int .i64 (fld s 1 (1 + 2))) := ⟨_, rfl⟩
  have R0 := Lib.hid (show Rw X1 g _ _ by rw [hX1]; exact R0.out.farA (by omega) _)
  have R1 := Lib.hid (show Rw X1 (g + 1) _ _ by rw [hX1]; exact R1.out.farA (by omega) _)
  have R2 := Lib.hid (show Rw X1 (g + 1 + 1) _ #[.int .i64 (fld s 0 (0 + 1)), .int .i64 (fld s 1 (1 + 2)), .int .i64 0, .int .i64 0, .int .i64 0] by rw [hX1]; exact R2.out.set_ 1 _)
  have BB := Lib.hid (show Below w.heap.size w X1 by rw [hX1]; exact bset BB.out (by rw [HG.out]; omega) _)
  rw [← hX1]
  clear hX1 f0 f1 f2 f3 f4 c0 c1 c2 c3 c4
  refine (HN.out 3 4 _ (by decide) (by decide) R0.out).mono ?_
  rintro e w1 ⟨rfl, rfl⟩
  obtain ⟨V2, hV2⟩ : ∃ x, x = World.setCell X1 ⟨g, 0, none⟩ (.string (s.extract (3 + 4) s.size)) := ⟨_, rfl⟩
  have R0 := Lib.hid (show Rw V2 g _ #[.string (s.extract (3 + 4) s.size)] by rw [hV2]; exact R0.out.set_ 0 _)
  have R1 := Lib.hid (show Rw V2 (g + 1) _ _ by rw [hV2]; exact R1.out.farA (by omega) _)
  have R2 := Lib.hid (show Rw V2 (g + 1 + 1) _ #[.int .i64 (fld s 0 (0 + 1)), .int .i64 (fld s 1 (1 + 2)), .int .i64 0, .int .i64 0, .int .i64 0] by rw [hV2]; exact R2.out.farA (by omega) _)
  have BB := Lib.hid (show Below w.heap.size w V2 by rw [hV2]; exact bset BB.out (by rw [HG.out]; omega) _)
  rw [← hV2]
  clear hV2
  obtain ⟨f0, f1, f2, f3, f4, _, _, _⟩ := R2.out.frees
  obtain ⟨c0, c1, c2, c3, c4⟩ := R2.out.five
  go_wp2_with fail
  obtain ⟨X2, hX2⟩ : ∃ x, x = World.setCell V2 ⟨g + 1 + 1, 2, none⟩ (.int .i64 (fld s 3 (3 + 4))) := ⟨_, rfl⟩
  have R0 := Lib.hid (show Rw X2 g _ _ by rw [hX2]; exact R0.out.farA (by omega) _)
  have R1 := Lib.hid (show Rw X2 (g + 1) _ _ by rw [hX2]; exact R1.out.farA (by omega) _)
  have R2 := Lib.hid (show Rw X2 (g + 1 + 1) _ #[.int .i64 (fld s 0 (0 + 1)), .int .i64 (fld s 1 (1 + 2)), .int .i64 (fld s 3 (3 + 4)), .int .i64 0, .int .i64 0] by rw [hX2]; exact R2.out.set_ 2 _)
  have BB := Lib.hid (show Below w.heap.size w X2 by rw [hX2]; exact bset BB.out (by rw [HG.out]; omega) _)
  rw [← hX2]
  clear hX2 f0 f1 f2 f3 f4 c0 c1 c2 c3 c4
  refine (HN.out 7 4 _ (by decide) (by decide) R0.out).mono ?_
  rintro e w1 ⟨rfl, rfl⟩
  obtain ⟨V3, hV3⟩ : ∃ x, x = World.setCell X2 ⟨g, 0, none⟩ (.string (s.extract (7 + 4) s.size)) := ⟨_, rfl⟩
  have R0 := Lib.hid (show Rw V3 g _ #[.string (s.extract (7 + 4) s.size)] by rw [hV3]; exact R0.out.set_ 0 _)
  have R1 := Lib.hid (show Rw V3 (g + 1) _ _ by rw [hV3]; exact R1.out.farA (by omega) _)
  have R2 := Lib.hid (show Rw V3 (g + 1 + 1) _ #[.int .i64 (fld s 0 (0 + 1)), .int .i64 (fld s 1 (1 + 2)), .int .i64 (fld s 3 (3 + 4)), .int .i64 0, .int .i64 0] by rw [hV3]; exact R2.out.farA (by omega) _)
  have BB := Lib.hid (show Below w.heap.size w V3 by rw [hV3]; exact bset BB.out (by rw [HG.out]; omega) _)
  rw [← hV3]
  clear hV3
  obtain ⟨f0, f1, f2, f3, f4, _, _, _⟩ := R2.out.frees
  obtain ⟨c0, c1, c2, c3, c4⟩ := R2.out.five
  go_wp2_with fail
  obtain ⟨X3, hX3⟩ : ∃ x, x = World.setCell V3 ⟨g + 1 + 1, 3, none⟩ (.int .i64 (fld s 7 (7 + 4))) := ⟨_, rfl⟩
  have R0 := Lib.hid (show Rw X3 g _ _ by rw [hX3]; exact R0.out.farA (by omega) _)
  have R1 := Lib.hid (show Rw X3 (g + 1) _ _ by rw [hX3]; exact R1.out.farA (by omega) _)
  have R2 := Lib.hid (show Rw X3 (g + 1 + 1) _ #[.int .i64 (fld s 0 (0 + 1)), .int .i64 (fld s 1 (1 + 2)), .int .i64 (fld s 3 (3 + 4)), .int .i64 (fld s 7 (7 + 4)), .int .i64 0] by rw [hX3]; exact R2.out.set_ 3 _)
  have BB := Lib.hid (show Below w.heap.size w X3 by rw [hX3]; exact bset BB.out (by rw [HG.out]; omega) _)
  rw [← hX3]
  clear hX3 f0 f1 f2 f3 f4 c0 c1 c2 c3 c4
  refine (HN.out 11 1 _ (by decide) (by decide) R0.out).mono ?_
  rintro e w1 ⟨rfl, rfl⟩
  obtain ⟨V4, hV4⟩ : ∃ x, x = World.setCell X3 ⟨g, 0, none⟩ (.string (s.extract (11 + 1) s.size)) := ⟨_, rfl⟩
  have R0 := Lib.hid (show Rw V4 g _ #[.string (s.extract (11 + 1) s.size)] by rw [hV4]; exact R0.out.set_ 0 _)
  have R1 := Lib.hid (show Rw V4 (g + 1) _ _ by rw [hV4]; exact R1.out.farA (by omega) _)
  have R2 := Lib.hid (show Rw V4 (g + 1 + 1) _ #[.int .i64 (fld s 0 (0 + 1)), .int .i64 (fld s 1 (1 + 2)), .int .i64 (fld s 3 (3 + 4)), .int .i64 (fld s 7 (7 + 4)), .int .i64 0] by rw [hV4]; exact R2.out.farA (by omega) _)
  have BB := Lib.hid (show Below w.heap.size w V4 by rw [hV4]; exact bset BB.out (by rw [HG.out]; omega) _)
  rw [← hV4]
  clear hV4
  obtain ⟨f0, f1, f2, f3, f4, _, _, _⟩ := R2.out.frees
  obtain ⟨c0, c1, c2, c3, c4⟩ := R2.out.five
  obtain ⟨p0, p1, p2, p3, p4, _, _, _⟩ := R1.out.frees
  obtain ⟨d0, d1, d2, d3, d4⟩ := R1.out.five
  have b2 := Lib.hid (bset (bset (bset (bset (bset (bset BB.out (show w.heap.size ≤ g + 1 + 1 by rw [HG.out]; omega) (k := 4) (.int .i64 (fld s 11 (11 + 1)))) (show w.heap.size ≤ g + 1 by rw [HG.out]; omega) (k := 0) (.int .i64 (fld s 0 (0 + 1)))) (show w.heap.size ≤ g + 1 by rw [HG.out]; omega) (k := 1) (.int .i64 (fld s 1 (1 + 2)))) (show w.heap.size ≤ g + 1 by rw [HG.out]; omega) (k := 2) (.int .i64 (fld s 3 (3 + 4)))) (show w.heap.size ≤ g + 1 by rw [HG.out]; omega) (k := 3) (.int .i64 (fld s 7 (7 + 4)))) (show w.heap.size ≤ g + 1 by rw [HG.out]; omega) (k := 4) (.int .i64 (fld s 11 (11 + 1))))
  have r2 := Lib.hid (show Rw ((((((V4.setCell ⟨g + 1 + 1, 4, none⟩ (.int .i64 (fld s 11 (11 + 1)))).setCell ⟨g + 1, 0, none⟩ (.int .i64 (fld s 0 (0 + 1)))).setCell ⟨g + 1, 1, none⟩ (.int .i64 (fld s 1 (1 + 2)))).setCell ⟨g + 1, 2, none⟩ (.int .i64 (fld s 3 (3 + 4)))).setCell ⟨g + 1, 3, none⟩ (.int .i64 (fld s 7 (7 + 4)))).setCell ⟨g + 1, 4, none⟩ (.int .i64 (fld s 11 (11 + 1)))) (g + 1) _ #[.int .i64 (fld s 0 (0 + 1)), .int .i64 (fld s 1 (1 + 2)), .int .i64 (fld s 3 (3 + 4)), .int .i64 (fld s 7 (7 + 4)), .int .i64 (fld s 11 (11 + 1))] from ((((((R1.out.farA (k := 4) (show g + 1 ≠ g + 1 + 1 by omega) _).set_ 0 _).set_ 1 _).set_ 2 _).set_ 3 _).set_ 4 _))
  go_wp2
  exact bodyPost_ret (results_cell_row Tryd.results37 _ _ _ _ _ _ _ rfl r2.out Tryd.underlying25 rfl infoMt5) rfl ⟨rfl, b2.out⟩
end Go.Proofs.YtfnccbanmgfkeabDoor
