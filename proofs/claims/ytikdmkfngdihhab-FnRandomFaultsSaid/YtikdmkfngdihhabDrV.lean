/- Chapter 7's generator of a geometry. Only that it returns, within its bounds, is said. -/
import Derived.Test.YtikdmkfngdihhabProg
import Derived.Test.YtikdmkfngdihhabPick
import Derived.Test.YtikdmkfngdihhabDraw2
import Derived.Test.YtikdmkfngdihhabSrcK
import Derived.Test.YtikdmkfngdihhabFlA
import Derived.Test.YtikdmkfngdihhabFlG
namespace Go.Proofs.Ytikdmkfngdihhab
open Go.RowKit
set_option linter.unusedVariables false
def GeoAny (v : Value) : Prop := ∃ d b p : Int, v = .agg #[.int .i64 d, .int .i64 b, .int .i64 p]
set_option maxHeartbeats 4000000 in
theorem l07Geo_any (B g n : Nat) (w : World) (h : Src w B g n) (hn : n ≤ 400000000000) :
    Calls Try.prog 51 #[.pointer (some ⟨g, 0, none⟩)] w (Chose GeoAny B g (n + 100) w) := by
  have hlt := h.lt
  have b0 := (Below.refl w.heap.size w).alloc (Nat.le_refl _) (.cells #[.int .i64 0, .int .i64 0, .int .i64 0] 24)
  have R0 := Lib.hid (Rw.new w 24 #[.int .i64 0, .int .i64 0, .int .i64 0])
  have S0 := Lib.hid (h.keep b0)
  have G0 := Lib.hid (grown_below (grown_refl w (some g)) b0)
  have P2 : Hid (pickMax 2 = 1) := by show _ = _; decide
  have P4 : Hid (pickMax 4 = 3) := by show _ = _; decide
  clear b0 h
  go_enter Try.func51, Try.ntmps51
  go_wp2_with fail
  refine (pick_any B g n 2 _ S0.out (by omega) (by omega) (by omega)).mono ?_
  rintro e w1 ⟨v1, rfl, ⟨x, rfl, hx0, hx1⟩, hS1, hg1⟩
  rw [P2.out] at hx1
  have hz1 := hg1.size
  simp only [World.size_alloc] at hz1
  have R1 := Lib.hid (R0.out.grown hg1 (by omega))
  have G1 := Lib.hid (grown_trans G0.out hg1)
  have S1 := Lib.hid hS1
  clear R0 G0 S0 hg1 hS1
  go_wp2_with fail
  refine (pick_any B g _ 4 _ S1.out (by omega) (by omega) (by omega)).mono ?_
  rintro e w2 ⟨v2, rfl, ⟨y, rfl, hy0, hy1⟩, hS2, hg2⟩
  rw [P4.out] at hy1
  have hz2 := hg2.size
  have b2 := (Below.refl w2.heap.size w2).alloc (Nat.le_refl _) (.cells #[.int .i64 (2 + x), .int .i64 (4 + y), .int .i64 8] 24)
  have T2 := Lib.hid (Rw.new w2 24 #[.int .i64 (2 + x), .int .i64 (4 + y), .int .i64 8])
  have R2 := Lib.hid ((R1.out.grown hg2 (by omega)).alloc (.cells #[.int .i64 (2 + x), .int .i64 (4 + y), .int .i64 8] 24))
  have G2 := Lib.hid (grown_below (grown_trans G1.out hg2) (b2.mono (by omega)))
  have S2 := Lib.hid (hS2.keep b2)
  clear R1 G1 S1 hg2 hS2 b2
  go_wp2_with fail
  refine (one_any B g _ 20 _ S2.out (by omega) (by omega) (by omega)).mono ?_
  rintro e w3 ⟨v3, rfl, ⟨q, rfl⟩, hS3, hg3⟩
  have hz3 := hg3.size
  simp only [World.size_alloc] at hz3
  have T3 := Lib.hid (T2.out.grown hg3 (by omega))
  have R3 := Lib.hid (R2.out.grown hg3 (by omega))
  have G3 := Lib.hid (grown_trans G2.out hg3)
  have S3 := Lib.hid hS3
  clear R2 G2 S2 T2 hg3 hS3
  cases q
  case false =>
    obtain ⟨a0, a1, a2⟩ := T3.out.three
    obtain ⟨r0, r1, r2⟩ := R3.out.three
    obtain ⟨f0, f1, f2, _⟩ := R3.out.frees
    go_wp2
    refine bodyPost_ret (results_cell_row Try.results51 _ _ _ _ _ _ _ rfl (((R3.out.set_ 0 _).set_ 1 _).set_ 2 _) Try.underlying24 rfl infoGeo) rfl ⟨_, rfl, ⟨_, _, _, rfl⟩, ?_, ?_⟩
    · exact ((S3.out.more (by omega)).keepS (sset (sset (sset (Same.refl _ _ _) (.inr (by omega)) _) (.inr (by omega)) _) (.inr (by omega)) _) (by simp))
    · exact grown_out (grown_out (grown_out G3.out (Nat.le_refl _) _) (Nat.le_refl _) _) (Nat.le_refl _) _
  case true =>
    go_wp2_with fail
    have b4 := (Below.refl w3.heap.size w3).alloc (Nat.le_refl _) (.cells #[.int .i64 0, .int .i64 12, .int .i64 16] 2)
    have N4 := Rw.new w3 2 #[.int .i64 0, .int .i64 12, .int .i64 16]
    have T4 := Lib.hid (T3.out.alloc (.cells #[.int .i64 0, .int .i64 12, .int .i64 16] 2))
    have R4 := Lib.hid (R3.out.alloc (.cells #[.int .i64 0, .int .i64 12, .int .i64 16] 2))
    have G4 := Lib.hid (grown_below G3.out (b4.mono (by omega)))
    have S4 := Lib.hid (S3.out.keep b4)
    clear R3 G3 S3 T3 b4
    refine (among_any (fun x => True) B g _ w3.heap.size 3 3 _ S4.out (by omega) (by omega) (by omega) (by omega) ?_).mono ?_
    · intro i hi
      rw [N4.cell]
      rcases i with _ | _ | _ | i <;> first | exact ⟨_, rfl, trivial⟩ | omega
    clear N4
    rintro e w4 ⟨v4, rfl, ⟨z, rfl, _⟩, hS5, hg5⟩
    have hz5 := hg5.size
    simp only [World.size_alloc] at hz5
    have T5 := Lib.hid (T4.out.grown hg5 (by omega))
    have R5 := Lib.hid ((R4.out.grown hg5 (by omega)).farA (g' := w2.heap.size) (k := 2) (by omega) (.int .i64 z))
    have G5 := Lib.hid (grown_out (k := 2) (grown_trans G4.out hg5) (show w.heap.size ≤ w2.heap.size by omega) (.int .i64 z))
    have S5 := Lib.hid (hS5.keepS (sset (Same.refl _ _ _) (k := 2) (.inr (show g + 1 ≤ w2.heap.size by omega)) (.int .i64 z)) (by simp))
    obtain ⟨a0, a1, a2⟩ := T5.out.three
    obtain ⟨f0, f1, f2, _⟩ := T5.out.frees
    have T6 := Lib.hid (T5.out.set_ 2 (.int .i64 z))
    obtain ⟨r0, r1, r2⟩ := R5.out.three
    obtain ⟨e0, e1, e2, _⟩ := R5.out.frees
    clear R4 G4 S4 T4 hg5 hS5
    go_wp2
    refine bodyPost_ret (results_cell_row Try.results51 _ _ _ _ _ _ _ rfl (((R5.out.set_ 0 _).set_ 1 _).set_ 2 _) Try.underlying24 rfl infoGeo) rfl ⟨_, rfl, ⟨_, _, _, rfl⟩, ?_, ?_⟩
    · exact ((S5.out.more (by omega)).keepS (sset (sset (sset (Same.refl _ _ _) (.inr (by omega)) _) (.inr (by omega)) _) (.inr (by omega)) _) (by simp))
    · exact grown_out (grown_out (grown_out G5.out (Nat.le_refl _) _) (Nat.le_refl _) _) (Nat.le_refl _) _
end Go.Proofs.Ytikdmkfngdihhab
