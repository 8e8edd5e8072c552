/- The model's draw of metadata for the laws. -/
import Derived.Test.YtfnccbanmgfkeabDoorProg
import Derived.Test.YtfnccbanmgfkeabDoorDrM
namespace Go.Proofs.YtfnccbanmgfkeabDoor
open Go.RowKit
set_option linter.unusedVariables false
theorem CodeIs.wideM {w : World} {B B' : Nat} {v : Value} (h : CodeIs w B v) (hB : B ≤ B') : CodeIs w B' v := by
  obtain ⟨A, len, cap, e, h1, hc⟩ := h
  refine ⟨A, len, cap, e, h1, fun h0 => ?_⟩
  obtain ⟨b, off, e2, h2, hx⟩ := hc h0
  exact ⟨b, off, e2, by omega, hx⟩
def DrawMtPost (w : World) (e : Ending) (w' : World) : Prop := ∃ k l s f c : Int, e = .returned (.agg #[.int .i64 k, .int .i64 l, .int .i64 s, .int .i64 f, .int .i64 c]) ∧ Below w.heap.size w w'
set_option maxHeartbeats 8000000 in
set_option maxRecDepth 100000 in
theorem drawVm_any (v : Value) (w : World) (h : CodeIs w w.heap.size v) : Calls Tryd.prog 53 #[v] w (DrawMtPost w) := by
  have b0 := (Below.refl w.heap.size w).alloc (Nat.le_refl _) (.cells #[.int .i64 0, .int .i64 0, .int .i64 0, .int .i64 0, .int .i64 0] 25)
  have R0 := Lib.hid (Rw.new w 25 #[.int .i64 0, .int .i64 0, .int .i64 0, .int .i64 0, .int .i64 0])
  have hc := (h.keep (w' := w.alloc (.cells #[.int .i64 0, .int .i64 0, .int .i64 0, .int .i64 0, .int .i64 0] 25)) (fun k hk => b0.block k hk)).wideM (B' := (w.alloc (.cells #[.int .i64 0, .int .i64 0, .int .i64 0, .int .i64 0, .int .i64 0] 25)).heap.size) (by simp)
  obtain ⟨A, len, cap, rfl, -⟩ := id h
  have HC := Lib.hid (l00From_any _ _ hc)
  have B0 := Lib.hid b0
  have P8 : Hid (pickMax 8 = 7) := by show _ = _; decide
  clear b0 h hc
  go_enter Tryd.func53, Tryd.ntmps53
  go_wp2_with fail
  refine HC.out.mono ?_
  rintro e w1 ⟨rfl, hS1, b1⟩
  have hz1 := b1.size
  simp only [World.size_alloc] at hz1 b1 hS1
  have R1 := Lib.hid (R0.out.below b1 (by omega))
  have B1 := Lib.hid (B0.out.trans (b1.mono (by omega)))
  have S1 := Lib.hid hS1
  have hlt := hS1.lt
  clear R0 B0 HC b1 hS1
  go_wp2_with fail
  refine (l10Meta_any (w.heap.size + 1) (w.heap.size + 1) 0 _ S1.out (by omega)).mono ?_
  rintro e w2 ⟨v2, rfl, ⟨k, l, s, f, c, rfl⟩, hS2, hg2⟩
  have hz2 := hg2.size
  have b3 := (Below.refl w2.heap.size w2).alloc (Nat.le_refl _) (.cells #[.int .i64 k, .int .i64 l, .int .i64 s, .int .i64 f, .int .i64 c] 25)
  have B2 := Lib.hid ((B1.out.trans ((Below.refl w.heap.size w1).grown hg2 (by omega) (fun j hj => by injection hj with hj; omega))).trans (b3.mono (by omega)))
  have R2 := Lib.hid ((R1.out.grown hg2 (by omega)).alloc (.cells #[.int .i64 k, .int .i64 l, .int .i64 s, .int .i64 f, .int .i64 c] 25))
  have S2 := Lib.hid (hS2.keep b3)
  have T2 := Lib.hid (Rw.new w2 25 #[.int .i64 k, .int .i64 l, .int .i64 s, .int .i64 f, .int .i64 c])
  clear R1 B1 S1 hS2 hg2 b3
  go_wp2_with fail
  obtain ⟨X, hX⟩ : ∃ W', W' = w2.alloc (.cells #[.int .i64 k, .int .i64 l, .int .i64 s, .int .i64 f, .int .i64 c] 25) := ⟨_, rfl⟩
  obtain ⟨m, hm⟩ : ∃ m, m = w2.heap.size := ⟨_, rfl⟩
  have hwm : w.heap.size + 1 < m := by omega
  rw [← hX] at B2 R2 S2 T2 ⊢
  rw [← hm] at T2 ⊢
  clear hX hm hz1 hz2 hlt
  refine (pick_any (w.heap.size + 1) (w.heap.size + 1) _ 8 _ S2.out (by omega) (by omega) (by omega)).mono ?_
  rintro e w3 ⟨v3, rfl, ⟨x, rfl, hx0, hx1⟩, hS3, hg3⟩
  rw [P8.out] at hx1
  have hz3 := hg3.size
  have T3 := Lib.hid (T2.out.grown hg3 (by omega))
  have Q3 := Lib.hid (R2.out.grown hg3 (by omega))
  have S3 := Lib.hid hS3
  have HS2 := B2.out.size
  have B3 := Lib.hid (B2.out.trans ((Below.refl w.heap.size X).grown hg3 (by omega) (fun j hj => by injection hj with hj; omega)))
  have hmw := T3.out.lt
  clear T2 R2 S2 B2 hS3 hg3 HS2 hz3
  rcases (by omega : x = 0 ∨ x = 1 ∨ x = 2 ∨ x = 3 ∨ x = 4 ∨ 5 ≤ x) with rfl | rfl | rfl | rfl | rfl | hx5
  · skip
    go_wp2_with fail
    refine (pick_any (w.heap.size + 1) (w.heap.size + 1) _ 6 _ S3.out (by omega) (by omega) (by omega)).mono ?_
    rintro e w4 ⟨v4, rfl, ⟨y, rfl, _, _⟩, hS, hg⟩
    have hsz := hg.size
    have T3' := T3
    have Q3' := Q3
    have B3' := B3
    have TT := Lib.hid (T3'.out.grown hg (by omega))
    obtain ⟨a0, a1, a2, a3, a4⟩ := TT.out.five
    obtain ⟨f0, f1, f2, f3, f4, _, _, _⟩ := TT.out.frees
    have T4 := Lib.hid (TT.out.set_ 0 (.int .i64 y))
    have Q4 := Lib.hid ((Q3'.out.grown hg (by omega)).farA (g' := m) (k := 0) (by omega) (.int .i64 y))
    have B4 := Lib.hid (bset (B3'.out.trans ((Below.refl w.heap.size _).grown hg (by first | omega | (simp; omega)) (fun j hj => by injection hj with hj; omega))) (show w.heap.size ≤ m by omega) (k := 0) (.int .i64 y))
    clear hg TT T3 Q3 B3
    obtain ⟨c0, c1, c2, c3, c4⟩ := T4.out.five
    obtain ⟨d0, d1, d2, d3, d4⟩ := Q4.out.five
    obtain ⟨e0, e1, e2, e3, e4, _, _, _⟩ := Q4.out.frees
    go_wp2
    refine bodyPost_ret (results_cell_row Tryd.results53 _ _ _ _ _ _ _ rfl (((((Q4.out.set_ 0 _).set_ 1 _).set_ 2 _).set_ 3 _).set_ 4 _) Tryd.underlying25 rfl infoMt5) rfl ⟨_, _, _, _, _, rfl, ?_⟩
    exact bset (bset (bset (bset (bset B4.out (Nat.le_refl _) _) (Nat.le_refl _) _) (Nat.le_refl _) _) (Nat.le_refl _) _) (Nat.le_refl _) _
  · skip
    go_wp2_with fail
    have b5 := (Below.refl w3.heap.size w3).alloc (Nat.le_refl _) (.cells #[.int .i64 (-1), .int .i64 47, .int .i64 48] 2)
    have N5 := Lib.hid (Rw.new w3 2 #[.int .i64 (-1), .int .i64 47, .int .i64 48])
    have T3' := Lib.hid (T3.out.alloc (.cells #[.int .i64 (-1), .int .i64 47, .int .i64 48] 2))
    have Q3' := Lib.hid (Q3.out.alloc (.cells #[.int .i64 (-1), .int .i64 47, .int .i64 48] 2))
    have S3' := Lib.hid (S3.out.keep b5)
    have B3' := Lib.hid (B3.out.alloc B3.out.size (.cells #[.int .i64 (-1), .int .i64 47, .int .i64 48] 2))
    have HS3 := B3.out.size
    clear b5
    refine (among_any (fun x => True) (w.heap.size + 1) (w.heap.size + 1) _ w3.heap.size 3 3 _ S3'.out (by omega) (by omega) (by omega) (by omega) ?_).mono ?_
    · intro i hi
      rw [N5.out.cell]
      rcases i with _ | _ | _ | i <;> first | exact ⟨_, rfl, trivial⟩ | omega
    rintro e w4 ⟨v4, rfl, ⟨y, rfl, _⟩, hS, hg⟩
    have hsz := hg.size
    simp only [World.size_alloc] at hsz
    have TT := Lib.hid (T3'.out.grown hg (by omega))
    obtain ⟨a0, a1, a2, a3, a4⟩ := TT.out.five
    obtain ⟨f0, f1, f2, f3, f4, _, _, _⟩ := TT.out.frees
    have T4 := Lib.hid (TT.out.set_ 1 (.int .i64 y))
    have Q4 := Lib.hid ((Q3'.out.grown hg (by omega)).farA (g' := m) (k := 1) (by omega) (.int .i64 y))
    have B4 := Lib.hid (bset (B3'.out.trans ((Below.refl w.heap.size _).grown hg (by first | omega | (simp; omega)) (fun j hj => by injection hj with hj; omega))) (show w.heap.size ≤ m by omega) (k := 1) (.int .i64 y))
    clear hg TT T3 Q3 B3
    obtain ⟨c0, c1, c2, c3, c4⟩ := T4.out.five
    obtain ⟨d0, d1, d2, d3, d4⟩ := Q4.out.five
    obtain ⟨e0, e1, e2, e3, e4, _, _, _⟩ := Q4.out.frees
    go_wp2
    refine bodyPost_ret (results_cell_row Tryd.results53 _ _ _ _ _ _ _ rfl (((((Q4.out.set_ 0 _).set_ 1 _).set_ 2 _).set_ 3 _).set_ 4 _) Tryd.underlying25 rfl infoMt5) rfl ⟨_, _, _, _, _, rfl, ?_⟩
    exact bset (bset (bset (bset (bset B4.out (Nat.le_refl _) _) (Nat.le_refl _) _) (Nat.le_refl _) _) (Nat.le_refl _) _) (Nat.le_refl _) _
  · skip
    go_wp2_with fail
    refine (pick_any (w.heap.size + 1) (w.heap.size + 1) _ 7 _ S3.out (by omega) (by omega) (by omega)).mono ?_
    rintro e w4 ⟨v4, rfl, ⟨y, rfl, _, _⟩, hS, hg⟩
    have hsz := hg.size
    have T3' := T3
    have Q3' := Q3
    have B3' := B3
    have TT := Lib.hid (T3'.out.grown hg (by omega))
    obtain ⟨a0, a1, a2, a3, a4⟩ := TT.out.five
    obtain ⟨f0, f1, f2, f3, f4, _, _, _⟩ := TT.out.frees
    have T4 := Lib.hid (TT.out.set_ 4 (.int .i64 y))
    have Q4 := Lib.hid ((Q3'.out.grown hg (by omega)).farA (g' := m) (k := 4) (by omega) (.int .i64 y))
    have B4 := Lib.hid (bset (B3'.out.trans ((Below.refl w.heap.size _).grown hg (by first | omega | (simp; omega)) (fun j hj => by injection hj with hj; omega))) (show w.heap.size ≤ m by omega) (k := 4) (.int .i64 y))
    clear hg TT T3 Q3 B3
    obtain ⟨c0, c1, c2, c3, c4⟩ := T4.out.five
    obtain ⟨d0, d1, d2, d3, d4⟩ := Q4.out.five
    obtain ⟨e0, e1, e2, e3, e4, _, _, _⟩ := Q4.out.frees
    go_wp2
    refine bodyPost_ret (results_cell_row Tryd.results53 _ _ _ _ _ _ _ rfl (((((Q4.out.set_ 0 _).set_ 1 _).set_ 2 _).set_ 3 _).set_ 4 _) Tryd.underlying25 rfl infoMt5) rfl ⟨_, _, _, _, _, rfl, ?_⟩
    exact bset (bset (bset (bset (bset B4.out (Nat.le_refl _) _) (Nat.le_refl _) _) (Nat.le_refl _) _) (Nat.le_refl _) _) (Nat.le_refl _) _
  · skip
    go_wp2_with fail
    refine (pick_any (w.heap.size + 1) (w.heap.size + 1) _ 9 _ S3.out (by omega) (by omega) (by omega)).mono ?_
    rintro e w4 ⟨v4, rfl, ⟨y, rfl, _, _⟩, hS, hg⟩
    have hsz := hg.size
    have T3' := T3
    have Q3' := Q3
    have B3' := B3
    have TT := Lib.hid (T3'.out.grown hg (by omega))
    obtain ⟨a0, a1, a2, a3, a4⟩ := TT.out.five
    obtain ⟨f0, f1, f2, f3, f4, _, _, _⟩ := TT.out.frees
    have T4 := Lib.hid (TT.out.set_ 3 (.int .i64 y))
    have Q4 := Lib.hid ((Q3'.out.grown hg (by omega)).farA (g' := m) (k := 3) (by omega) (.int .i64 y))
    have B4 := Lib.hid (bset (B3'.out.trans ((Below.refl w.heap.size _).grown hg (by first | omega | (simp; omega)) (fun j hj => by injection hj with hj; omega))) (show w.heap.size ≤ m by omega) (k := 3) (.int .i64 y))
    clear hg TT T3 Q3 B3
    obtain ⟨c0, c1, c2, c3, c4⟩ := T4.out.five
    obtain ⟨d0, d1, d2, d3, d4⟩ := Q4.out.five
    obtain ⟨e0, e1, e2, e3, e4, _, _, _⟩ := Q4.out.frees
    go_wp2
    refine bodyPost_ret (results_cell_row Tryd.results53 _ _ _ _ _ _ _ rfl (((((Q4.out.set_ 0 _).set_ 1 _).set_ 2 _).set_ 3 _).set_ 4 _) Tryd.underlying25 rfl infoMt5) rfl ⟨_, _, _, _, _, rfl, ?_⟩
    exact bset (bset (bset (bset (bset B4.out (Nat.le_refl _) _) (Nat.le_refl _) _) (Nat.le_refl _) _) (Nat.le_refl _) _) (Nat.le_refl _) _
  · skip
    go_wp2_with fail
    refine (pick_any (w.heap.size + 1) (w.heap.size + 1) _ 2 _ S3.out (by omega) (by omega) (by omega)).mono ?_
    rintro e w4 ⟨v4, rfl, ⟨y, rfl, _, _⟩, hS, hg⟩
    have hsz := hg.size
    have Q4 := Lib.hid (Q3.out.grown hg (by omega))
    have HS3 := B3.out.size
    have B4 := Lib.hid (B3.out.trans ((Below.refl w.heap.size w3).grown hg (by omega) (fun j hj => by injection hj with hj; omega)))
    clear hg T3 Q3 B3
    obtain ⟨d0, d1, d2, d3, d4⟩ := Q4.out.five
    obtain ⟨e0, e1, e2, e3, e4, _, _, _⟩ := Q4.out.frees
    go_wp2
    refine bodyPost_ret (results_cell_row Tryd.results53 _ _ _ _ _ _ _ rfl (((((Q4.out.set_ 0 _).set_ 1 _).set_ 2 _).set_ 3 _).set_ 4 _) Tryd.underlying25 rfl infoMt5) rfl ⟨_, _, _, _, _, rfl, ?_⟩
    exact bset (bset (bset (bset (bset B4.out (Nat.le_refl _) _) (Nat.le_refl _) _) (Nat.le_refl _) _) (Nat.le_refl _) _) (Nat.le_refl _) _
  · have x0 : (x == 0) = false := by simp; omega
    have x1 : (x == 1) = false := by simp; omega
    have x2 : (x == 2) = false := by simp; omega
    have x3 : (x == 3) = false := by simp; omega
    have x4 : (x == 4) = false := by simp; omega
    obtain ⟨c0, c1, c2, c3, c4⟩ := T3.out.five
    obtain ⟨d0, d1, d2, d3, d4⟩ := Q3.out.five
    obtain ⟨e0, e1, e2, e3, e4, _, _, _⟩ := Q3.out.frees
    go_wp2
    refine bodyPost_ret (results_cell_row Tryd.results53 _ _ _ _ _ _ _ rfl (((((Q3.out.set_ 0 _).set_ 1 _).set_ 2 _).set_ 3 _).set_ 4 _) Tryd.underlying25 rfl infoMt5) rfl ⟨_, _, _, _, _, rfl, ?_⟩
    exact bset (bset (bset (bset (bset B3.out (Nat.le_refl _) _) (Nat.le_refl _) _) (Nat.le_refl _) _) (Nat.le_refl _) _) (Nat.le_refl _) _
theorem drawEm_any (v : Value) (w : World) (h : CodeIs w w.heap.size v) : Calls Tryd.prog 25 #[v] w (DrawMtPost w) := by
  have b0 := (Below.refl w.heap.size w).alloc (Nat.le_refl _) (.cells #[.int .i64 0, .int .i64 0, .int .i64 0, .int .i64 0, .int .i64 0] 25)
  have R0 := Lib.hid (Rw.new w 25 #[.int .i64 0, .int .i64 0, .int .i64 0, .int .i64 0, .int .i64 0])
  have hc := (h.keep (w' := w.alloc (.cells #[.int .i64 0, .int .i64 0, .int .i64 0, .int .i64 0, .int .i64 0] 25)) (fun k hk => b0.block k hk)).wideM (B' := (w.alloc (.cells #[.int .i64 0, .int .i64 0, .int .i64 0, .int .i64 0, .int .i64 0] 25)).heap.size) (by simp)
  obtain ⟨A, len, cap, rfl, -⟩ := id h
  have HD := Lib.hid (drawVm_any _ _ hc)
  have B0 := Lib.hid b0
  clear b0 h hc
  go_enter Tryd.func25, Tryd.ntmps25
  go_wp2_with fail
  refine HD.out.mono ?_
  rintro e w1 ⟨k, l, s, f, c, rfl, b1⟩
  have hz1 := b1.size
  simp only [World.size_alloc] at hz1 b1
  have Q4 := Lib.hid (R0.out.below b1 (by omega))
  have B4 := Lib.hid (B0.out.trans (b1.mono (by omega)))
  clear b1 R0 B0 HD
  obtain ⟨d0, d1, d2, d3, d4⟩ := Q4.out.five
  obtain ⟨e0, e1, e2, e3, e4, _, _, _⟩ := Q4.out.frees
  go_wp2
  refine bodyPost_ret (results_cell_row Tryd.results25 _ _ _ _ _ _ _ rfl (((((Q4.out.set_ 0 _).set_ 1 _).set_ 2 _).set_ 3 _).set_ 4 _) Tryd.underlying25 rfl infoMt5) rfl ⟨_, _, _, _, _, rfl, ?_⟩
  exact bset (bset (bset (bset (bset B4.out (Nat.le_refl _) _) (Nat.le_refl _) _) (Nat.le_refl _) _) (Nat.le_refl _) _) (Nat.le_refl _) _
end Go.Proofs.YtfnccbanmgfkeabDoor
