/- The model's draws of a page's metadata. -/
import Derived.Test.YtfnccbanmgfkeabDoorProg
import Derived.Test.YtfnccbanmgfkeabDoorMtN
import Derived.Test.YtfnccbanmgfkeabDoorPick
import Derived.Test.YtfnccbanmgfkeabDoorSrcK
import Derived.Test.YtfnccbanmgfkeabDoorRw
import Derived.Deep.RegionHeld3
namespace Go.Proofs.YtfnccbanmgfkeabDoor
open Go.RowKit
set_option linter.unusedVariables false
/-- Some metadata. -/
def MtAny (v : Value) : Prop := ∃ k l s f c : Int, v = .agg #[.int .i64 k, .int .i64 l, .int .i64 s, .int .i64 f, .int .i64 c]
theorem maxm_any (a b m : Int) (w : World) (hm : max a b = m) : Calls Tryd.prog 114 #[.int .i64 a, .int .i64 b] w fun e w' => e = .returned (.int .i64 m) ∧ w = w' := by
  by_cases h : a > b
  · have d1 : decide (a > b) = true := by simpa using h
    have d2 : decide (b < a) = true := by simpa using h
    obtain rfl : m = a := by omega
    clear h hm
    go_enter Tryd.func114, Tryd.ntmps114
    go_wp2
    go_ret
    exact ⟨rfl, rfl⟩
  · have d1 : decide (a > b) = false := by simpa using h
    have d2 : decide (b < a) = false := by simpa using h
    obtain rfl : m = b := by omega
    clear h hm
    go_enter Tryd.func114, Tryd.ntmps114
    go_wp2
    go_ret
    exact ⟨rfl, rfl⟩
set_option maxHeartbeats 4000000 in
set_option maxRecDepth 100000 in
theorem l10Meta_any (B g n : Nat) (w : World) (h : Src w B g n) (hn : n ≤ 400000000000) :
    Calls Tryd.prog 94 #[.pointer (some ⟨g, 0, none⟩)] w (Chose MtAny B g (n + 100) w) := by
  have hlt := h.lt
  obtain ⟨r0, r1, bb⟩ := Rw.two_new w 25 2 #[.int .i64 0, .int .i64 0, .int .i64 0, .int .i64 0, .int .i64 0] #[.int .i64 1, .int .i64 1, .int .i64 2, .int .i64 3]
  have R0 := Lib.hid r0
  have R1 := Lib.hid r1
  have S0 := Lib.hid (h.keep bb)
  have G0 := Lib.hid (grown_below (grown_refl w (some g)) bb)
  have P6 : Hid (pickMax 6 = 5) := by show _ = _; decide
  have P12 : Hid (pickMax 12 = 11) := by show _ = _; decide
  have P3 : Hid (pickMax 3 = 2) := by show _ = _; decide
  clear bb r0 r1 h
  go_enter Tryd.func94, Tryd.ntmps94
  go_wp2_with fail
  refine (among_any (fun x => True) B g _ (w.heap.size + 1) 4 4 _ S0.out (by omega) (by omega) (by omega) (by omega) ?_).mono ?_
  · obtain ⟨q0, q1, q2, q3⟩ := R1.out.four
    intro i hi
    match i, hi with
    | 0, _ => exact ⟨_, q0, trivial⟩
    | 1, _ => exact ⟨_, q1, trivial⟩
    | 2, _ => exact ⟨_, q2, trivial⟩
    | 3, _ => exact ⟨_, q3, trivial⟩
  rintro e w1 ⟨v1, rfl, ⟨k, rfl, -⟩, hS1, hg1⟩
  have hz1 := hg1.size
  simp only [World.size_alloc] at hz1
  have b1 := (Below.refl w1.heap.size w1).alloc (Nat.le_refl _) (.cells #[.int .i64 k, .int .i64 0, .int .i64 0, .int .i64 0, .int .i64 0] 25)
  obtain ⟨X1, hX1⟩ : ∃ x, x = w1.alloc (.cells #[.int .i64 k, .int .i64 0, .int .i64 0, .int .i64 0, .int .i64 0] 25) := ⟨_, rfl⟩
  obtain ⟨r, hr⟩ : ∃ r, r = w.heap.size := ⟨_, rfl⟩
  obtain ⟨m, hm⟩ : ∃ m, m = w1.heap.size := ⟨_, rfl⟩
  have T1 := Lib.hid (show Rw X1 m 25 #[.int .i64 k, .int .i64 0, .int .i64 0, .int .i64 0, .int .i64 0] by rw [hX1, hm]; exact Rw.new w1 _ _)
  have Q1 := Lib.hid (show Rw X1 r 25 #[.int .i64 0, .int .i64 0, .int .i64 0, .int .i64 0, .int .i64 0] by rw [hX1, hr]; exact (R0.out.grown hg1 (by omega)).alloc _)
  have G1 := Lib.hid (show w.grownBy X1 (some g) by rw [hX1]; exact grown_below (grown_trans G0.out hg1) (b1.mono (by omega)))
  have S1 := Lib.hid (show Src X1 B g (n + 2) by rw [hX1]; exact hS1.keep b1)
  have HRW := Lib.hid (show w.heap.size ≤ r by omega)
  have hgr : g < r := by omega
  have hrm : r < m := by omega
  have HX1 := Lib.hid hX1
  have HM1 := Lib.hid hm
  have HR1 := Lib.hid hr
  clear R0 R1 S0 G0 hS1 hg1 b1 hz1 hlt
  go_wp2_with fail
  rw [← HX1.out, ← HM1.out, ← HR1.out]
  clear hX1 hm hr
  refine (pick_any B g _ 6 _ S1.out (by omega) (by omega) (by omega)).mono ?_
  rintro e w2 ⟨v2, rfl, ⟨x, rfl, hx0, hx1⟩, hS, hg⟩
  rw [P6.out] at hx1
  have TT := Lib.hid (T1.out.grown hg (by omega))
  obtain ⟨a0, a1, a2, a3, a4⟩ := TT.out.five
  obtain ⟨f0, f1, f2, f3, f4, _, _, _⟩ := TT.out.frees
  obtain ⟨X2, hX2⟩ : ∃ W', W' = w2.setCell ⟨m, 1, none⟩ (.int .i64 x) := ⟨_, rfl⟩
  have T2 := Lib.hid (show Rw X2 m 25 #[.int .i64 k, .int .i64 x, .int .i64 0, .int .i64 0, .int .i64 0] by rw [hX2]; exact TT.out.set_ 1 _)
  have Q2 := Lib.hid (show Rw X2 r 25 #[.int .i64 0, .int .i64 0, .int .i64 0, .int .i64 0, .int .i64 0] by rw [hX2]; exact (Q1.out.grown hg (by omega)).farA (by omega) _)
  have S2 := Lib.hid (show Src X2 B g (n + 4) by rw [hX2]; exact hS.keepS (sset (Same.refl _ _ _) (k := 1) (.inr (show g + 1 ≤ m by omega)) _) (by simp))
  have G2 := Lib.hid (show w.grownBy X2 (some g) by rw [hX2]; exact grown_out (k := 1) (grown_trans G1.out hg) (show w.heap.size ≤ m by have := HRW.out; omega) _)
  have HX2 := Lib.hid hX2
  clear hS hg T1 Q1 S1 G1
  go_wp2_with fail
  rw [← HX2.out]
  clear hX2 TT a0 a1 a2 a3 a4 f0 f1 f2 f3 f4
  refine (pick_any B g _ 12 _ S2.out (by omega) (by omega) (by omega)).mono ?_
  rintro e w3 ⟨v3, rfl, ⟨y, rfl, hy0, hy1⟩, hS, hg⟩
  rw [P12.out] at hy1
  have TT := Lib.hid (T2.out.grown hg (by omega))
  obtain ⟨a0, a1, a2, a3, a4⟩ := TT.out.five
  obtain ⟨f0, f1, f2, f3, f4, _, _, _⟩ := TT.out.frees
  obtain ⟨X3, hX3⟩ : ∃ W', W' = w3.setCell ⟨m, 2, none⟩ (.int .i64 (1 + y)) := ⟨_, rfl⟩
  have T3 := Lib.hid (show Rw X3 m 25 #[.int .i64 k, .int .i64 x, .int .i64 (1 + y), .int .i64 0, .int .i64 0] by rw [hX3]; exact TT.out.set_ 2 _)
  have Q3 := Lib.hid (show Rw X3 r 25 #[.int .i64 0, .int .i64 0, .int .i64 0, .int .i64 0, .int .i64 0] by rw [hX3]; exact (Q2.out.grown hg (by omega)).farA (by omega) _)
  have S3 := Lib.hid (show Src X3 B g (n + 6) by rw [hX3]; exact hS.keepS (sset (Same.refl _ _ _) (k := 2) (.inr (show g + 1 ≤ m by omega)) _) (by simp))
  have G3 := Lib.hid (show w.grownBy X3 (some g) by rw [hX3]; exact grown_out (k := 2) (grown_trans G2.out hg) (show w.heap.size ≤ m by have := HRW.out; omega) _)
  have HX3 := Lib.hid hX3
  clear hS hg T2 Q2 S2 G2
  subst hX3
  clear TT HX3
  obtain ⟨c0, c1, c2, c3, c4⟩ := T3.out.five
  by_cases hk : k = 2
  · have dk : (k == 2) = true := by simp [hk]
    go_wp2_with fail
    clear c0 c1 c2 c3 c4 a0 a1 a2 a3 a4 f0 f1 f2 f3 f4
    refine (pick_any B g _ 3 _ S3.out (by omega) (by omega) (by omega)).mono ?_
    rintro e w4 ⟨v4, rfl, ⟨z, rfl, hz0, hz1⟩, hS, hg⟩
    rw [P3.out] at hz1
    have TT := Lib.hid (T3.out.grown hg (by omega))
    obtain ⟨a0, a1, a2, a3, a4⟩ := TT.out.five
    obtain ⟨f0, f1, f2, f3, f4, _, _, _⟩ := TT.out.frees
    obtain ⟨X4, hX4⟩ : ∃ W', W' = w4.setCell ⟨m, 4, none⟩ (.int .i64 (1 + z)) := ⟨_, rfl⟩
    have T4 := Lib.hid (show Rw X4 m 25 #[.int .i64 k, .int .i64 x, .int .i64 (1 + y), .int .i64 0, .int .i64 (1 + z)] by rw [hX4]; exact TT.out.set_ 4 _)
    have Q4 := Lib.hid (show Rw X4 r 25 #[.int .i64 0, .int .i64 0, .int .i64 0, .int .i64 0, .int .i64 0] by rw [hX4]; exact (Q3.out.grown hg (by omega)).farA (by omega) _)
    have S4 := Lib.hid (show Src X4 B g (n + 8) by rw [hX4]; exact hS.keepS (sset (Same.refl _ _ _) (k := 4) (.inr (show g + 1 ≤ m by omega)) _) (by simp))
    have G4 := Lib.hid (show w.grownBy X4 (some g) by rw [hX4]; exact grown_out (k := 4) (grown_trans G3.out hg) (show w.heap.size ≤ m by have := HRW.out; omega) _)
    have HX4 := Lib.hid hX4
    clear hS hg T3 Q3 S3 G3
    subst hX4
    clear TT HX4
    obtain ⟨c0, c1, c2, c3, c4⟩ := T4.out.five
    go_wp2_with fail
    clear c0 c1 c2 c3 c4 a0 a1 a2 a3 a4 f0 f1 f2 f3 f4
    obtain ⟨X, hX⟩ : ∃ W', W' = w4.setCell ⟨m, 4, none⟩ (.int .i64 (1 + z)) := ⟨_, rfl⟩
    rw [← hX] at T4 Q4 S4 G4 ⊢
    clear hX
    have T5 := Lib.hid (show Rw X.drew m 25 #[.int .i64 k, .int .i64 x, .int .i64 (1 + y), .int .i64 0, .int .i64 (1 + z)] from T4.out)
    have Q5 := Lib.hid (show Rw X.drew r 25 #[.int .i64 0, .int .i64 0, .int .i64 0, .int .i64 0, .int .i64 0] from Q4.out)
    have S5 := Lib.hid (S4.out.keep (Below.refl X.heap.size X).drew)
    have G5 := Lib.hid (grown_below G4.out ((Below.refl X.heap.size X).drew.mono G4.out.size))
    have kA : X.drew.cell? ⟨m, 2, none⟩ = some (.int .i64 (1 + y)) ∧ X.drew.cell? ⟨m, 4, none⟩ = some (.int .i64 (1 + z)) := ⟨T5.out.cell 2, T5.out.cell 4⟩
    go_region_held3 (fun W => W.cell? ⟨m, 2, none⟩ = some (.int .i64 (1 + y)) ∧ W.cell? ⟨m, 4, none⟩ = some (.int .i64 (1 + z)))
      (first
        | with_reducible exact kA
        | with_reducible exact kB
        | with_reducible exact kC)
      (first
        | (go_at_call 59
           refine (pick_any B g _ (1 + z) X.drew S5.out (by omega) (by omega) (by omega)).mono ?_
           rintro e w7 ⟨v7, rfl, ⟨q, rfl, hq0, hq1⟩, hS7, hg7⟩
           have hq2 : q ≤ 3 := by
             have : pickMax (1 + z) ≤ 3 := by unfold pickMax; split <;> omega
             omega
           obtain ⟨mx, hmx⟩ : ∃ mx, max 1 (IntKind.i64.wrap (1 + y - q)) = mx := ⟨_, rfl⟩
           have HMX := Lib.hid hmx
           have T7 := Lib.hid (T5.out.grown hg7 (by omega))
           have Q7 := Lib.hid (Q5.out.grown hg7 (by omega))
           have G7 := Lib.hid (grown_trans G5.out hg7)
           have S7 := Lib.hid hS7
           have kB : w7.cell? ⟨m, 2, none⟩ = some (.int .i64 (1 + y)) ∧ w7.cell? ⟨m, 4, none⟩ = some (.int .i64 (1 + z)) := ⟨T7.out.cell 2, T7.out.cell 4⟩
           have kC : (w7.setCell ⟨m, 3, none⟩ (.int .i64 mx)).cell? ⟨m, 2, none⟩ = some (.int .i64 (1 + y)) ∧ (w7.setCell ⟨m, 3, none⟩ (.int .i64 mx)).cell? ⟨m, 4, none⟩ = some (.int .i64 (1 + z)) := ⟨(T7.out.set_ 3 (.int .i64 mx)).cell 2, (T7.out.set_ 3 (.int .i64 mx)).cell 4⟩
           obtain ⟨a0, a1, a2, a3, a4⟩ := T7.out.five
           obtain ⟨f0, f1, f2, f3, f4, _, _, _⟩ := T7.out.frees
           clear hmx hS7 hg7 hq1)
        | (go_at_call 114
           refine (maxm_any 1 (IntKind.i64.wrap (1 + y - q)) mx _ HMX.out).mono ?_
           rintro e w8 ⟨rfl, rfl⟩))
    have T8 := Lib.hid (T7.out.set_ 3 (.int .i64 mx))
    have Q8 := Lib.hid (Q7.out.farA (g' := m) (k := 3) (by omega) (.int .i64 mx))
    have S8 := Lib.hid (S7.out.keepS (sset (Same.refl _ _ _) (k := 3) (.inr (show g + 1 ≤ m by omega)) (.int .i64 mx)) (by simp))
    have G8 := Lib.hid (grown_out (k := 3) G7.out (show w.heap.size ≤ m by have := HRW.out; omega) (.int .i64 mx))
    clear kA kB kC a0 a1 a2 a3 a4 f0 f1 f2 f3 f4 T7 Q7 S7 G7
    trace_state
    obtain ⟨c0, c1, c2, c3, c4⟩ := T8.out.five
    obtain ⟨d0, d1, d2, d3, d4⟩ := Q8.out.five
    obtain ⟨e0, e1, e2, e3, e4, _, _, _⟩ := Q8.out.frees
    have hwr := HRW.out
    go_wp2
    refine bodyPost_ret (results_cell_row Tryd.results94 _ _ _ _ _ _ _ rfl (((((Q8.out.set_ 0 _).set_ 1 _).set_ 2 _).set_ 3 _).set_ 4 _) Tryd.underlying25 rfl infoMt5) rfl ⟨_, rfl, ⟨_, _, _, _, _, rfl⟩, ?_, ?_⟩
    · exact ((S8.out.more (by omega)).keepS (sset (sset (sset (sset (sset (Same.refl _ _ _) (.inr (by omega)) _) (.inr (by omega)) _) (.inr (by omega)) _) (.inr (by omega)) _) (.inr (by omega)) _) (by simp))
    · exact grown_out (grown_out (grown_out (grown_out (grown_out G8.out hwr _) hwr _) hwr _) hwr _) hwr _
  · have dk : (k == 2) = false := by simp [hk]
    clear c0 c1 c2 c3 c4
    obtain ⟨c0, c1, c2, c3, c4⟩ := T3.out.five
    obtain ⟨d0, d1, d2, d3, d4⟩ := Q3.out.five
    obtain ⟨e0, e1, e2, e3, e4, _, _, _⟩ := Q3.out.frees
    have hwr := HRW.out
    go_wp2
    refine bodyPost_ret (results_cell_row Tryd.results94 _ _ _ _ _ _ _ rfl (((((Q3.out.set_ 0 _).set_ 1 _).set_ 2 _).set_ 3 _).set_ 4 _) Tryd.underlying25 rfl infoMt5) rfl ⟨_, rfl, ⟨_, _, _, _, _, rfl⟩, ?_, ?_⟩
    · exact ((S3.out.more (by omega)).keepS (sset (sset (sset (sset (sset (Same.refl _ _ _) (.inr (by omega)) _) (.inr (by omega)) _) (.inr (by omega)) _) (.inr (by omega)) _) (.inr (by omega)) _) (by simp))
    · exact grown_out (grown_out (grown_out (grown_out (grown_out G3.out hwr _) hwr _) hwr _) hwr _) hwr _
end Go.Proofs.YtfnccbanmgfkeabDoor
