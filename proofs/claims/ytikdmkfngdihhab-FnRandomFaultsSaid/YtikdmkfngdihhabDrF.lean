/- Chapter 8's generator of a geometry, a seed and a count: only that it returns, within its bounds, is said. -/
import Derived.Test.YtikdmkfngdihhabProg
import Derived.Test.YtikdmkfngdihhabDrV
import Derived.Deep.RegionHeld3
import Derived.Deep.DeepCutAuto
namespace Go.Proofs.Ytikdmkfngdihhab
open Go.RowKit
set_option linter.unusedVariables false
theorem CodeIs.wideB {w : World} {B B' : Nat} {v : Value} (h : CodeIs w B v) (hB : B ≤ B') : CodeIs w B' v := by
  obtain ⟨A, len, cap, e, h1, hc⟩ := h
  refine ⟨A, len, cap, e, h1, fun h0 => ?_⟩
  obtain ⟨b, off, e2, h2, hx⟩ := hc h0
  exact ⟨b, off, e2, by omega, hx⟩
theorem results_row_tmp2 {P : Program} {fn : Func} {p u x : Tmp} {ty : TypeId} (h : fn.results = #[.cell p ty, .tmp u, .tmp x]) (tmps : Array Value) (w : World) (g : Nat) (t : TypeId) (cs : Array Value) (fr : Nat × Nat) (d : TypeDesc)
    (hp : tmps.getD p undef = .pointer (some ⟨g, 0, none⟩)) (hg : w.heap[g]? = some (.cells cs t fr))
    (hu : P.underlying ty = some d) (hd : (match d with | .struct _ | .array _ _ => true | _ => false) = true) (hi : (P.info? ty).map (·.size) = some cs.size) :
    (results fn tmps).run P w = .ok (.tuple #[.agg cs, tmps.getD u undef, tmps.getD x undef]) w := by
  have hp' : tmps[p]?.getD undef = .pointer (some ⟨g, 0, none⟩) := by simpa using hp
  simp [results, h, hp', asAddr, run_loadVar_row w g t ty cs fr d hg hu hd hi]
def I64 (n : Int) : Prop := -9223372036854775808 ≤ n ∧ n ≤ 9223372036854775807
def DrawRfPost (w : World) (e : Ending) (w' : World) : Prop := ∃ d b p sd c : Int, e = .returned (.tuple #[.agg #[.int .i64 d, .int .i64 b, .int .i64 p], .int .i64 sd, .int .i64 c]) ∧ I64 sd ∧ I64 c ∧ Below w.heap.size w w'
set_option maxHeartbeats 8000000 in
set_option maxRecDepth 100000 in
theorem drawRf_any (v : Value) (w : World) (h : CodeIs w w.heap.size v) :
    Calls Try.prog 14 #[v] w (DrawRfPost w) := by
  have b0 := (Below.refl w.heap.size w).alloc (Nat.le_refl _) (.cells #[.int .i64 0, .int .i64 0, .int .i64 0] 24)
  have R0 := Lib.hid (Rw.new w 24 #[.int .i64 0, .int .i64 0, .int .i64 0])
  have hc := (h.keep (w' := w.alloc (.cells #[.int .i64 0, .int .i64 0, .int .i64 0] 24)) (fun k hk => b0.block k hk)).wideB (B' := (w.alloc (.cells #[.int .i64 0, .int .i64 0, .int .i64 0] 24)).heap.size) (by simp)
  obtain ⟨A, len, cap, rfl, -⟩ := id h
  have HC := Lib.hid (l00From_any _ _ hc)
  have B0 := Lib.hid b0
  have P1 : Hid (pickMax 1000 = 999) := by show _ = _; decide
  clear b0 h hc
  go_enter Try.func14, Try.ntmps14
  go_wp2_with fail
  refine HC.out.mono ?_
  rintro e w1 ⟨rfl, hS1, b1⟩
  have hz1 := b1.size
  simp only [World.size_alloc] at hz1 b1 hS1
  have R1 := Lib.hid (R0.out.below b1 (by omega))
  have B1 := Lib.hid (B0.out.trans (b1.mono (by omega)))
  have S1 := Lib.hid hS1
  have hlt := hS1.lt
  clear R0 B0 HC b1 hS1
  go_wp2_with fail
  refine (l07Geo_any (w.heap.size + 1) (w.heap.size + 1) 0 _ S1.out (by omega)).mono ?_
  rintro e w2 ⟨v2, rfl, ⟨d, b, p, rfl⟩, hS2, hg2⟩
  have hz2 := hg2.size
  have G2 := Lib.hid ((Below.refl w.heap.size w1).grown hg2 (by omega) (fun j hj => by injection hj with hj; omega))
  have B2 := Lib.hid (B1.out.trans G2.out)
  have R2 := Lib.hid (R1.out.grown hg2 (by omega))
  have b3 := (Below.refl w2.heap.size w2).alloc (Nat.le_refl _) (.cells #[.int .i64 d, .int .i64 b, .int .i64 p] 24)
  have T3 := Lib.hid (Rw.new w2 24 #[.int .i64 d, .int .i64 b, .int .i64 p])
  have R3 := Lib.hid (R2.out.alloc (.cells #[.int .i64 d, .int .i64 b, .int .i64 p] 24))
  have S3 := Lib.hid (hS2.keep b3)
  have B3 := Lib.hid (B2.out.trans (b3.mono (by omega)))
  clear R1 B1 S1 G2 B2 R2 hg2 hS2 b3
  go_wp2_with fail
  refine (pick_any (w.heap.size + 1) (w.heap.size + 1) _ 1000 _ S3.out (by omega) (by omega) (by omega)).mono ?_
  rintro e w4 ⟨v4, rfl, ⟨s0, rfl, hs0, hs1⟩, hS4, hg4⟩
  rw [P1.out] at hs1
  have hz4 := hg4.size
  simp only [World.size_alloc] at hz4
  have T4 := Lib.hid (T3.out.grown hg4 (by omega))
  have R4 := Lib.hid (R3.out.grown hg4 (by omega))
  have B4 := Lib.hid (B3.out.trans ((Below.refl w.heap.size _).grown hg4 (by simp; omega) (fun j hj => by injection hj with hj; omega)))
  have S4 := Lib.hid hS4
  clear T3 R3 S3 B3 hg4 hS4
  go_wp2_with fail
  refine (one_any (w.heap.size + 1) (w.heap.size + 1) _ 4 _ S4.out (by omega) (by omega) (by omega)).mono ?_
  rintro e w5 ⟨v5, rfl, ⟨q, rfl⟩, hS5, hg5⟩
  have hz5 := hg5.size
  have T5 := Lib.hid (T4.out.grown hg5 (by omega))
  have R5 := Lib.hid (R4.out.grown hg5 (by omega))
  have B5 := Lib.hid (B4.out.trans ((Below.refl w.heap.size _).grown hg5 (by omega) (fun j hj => by injection hj with hj; omega)))
  have S5 := Lib.hid (hS5.more (n' := 1000) (by omega))
  clear T4 R4 S4 B4 hg5 hS5
  cases q
  case false =>
    have HSD := Lib.hid (show I64 s0 by constructor <;> omega)
    go_wp2_with fail
    have kA := (show Rw w5.drew _ _ _ from T5.out).three
    have kB := (show Rw (w5.alloc (.cells #[.int .i64 0, .int .i64 1, .int .i64 5, .int .i64 40, .int .i64 41, .int .i64 (-1)] 2)).drew _ _ _ from T5.out.alloc _).three
    have bA := (Below.refl w5.heap.size w5).alloc (Nat.le_refl _) (.cells #[.int .i64 0, .int .i64 1, .int .i64 5, .int .i64 40, .int .i64 41, .int .i64 (-1)] 2)
    have SA := Lib.hid (show Src (w5.alloc (.cells #[.int .i64 0, .int .i64 1, .int .i64 5, .int .i64 40, .int .i64 41, .int .i64 (-1)] 2)).drew (w.heap.size + 1) (w.heap.size + 1) 1000 from S5.out.keep bA.drew)
    have RA := Lib.hid (show Rw (w5.alloc (.cells #[.int .i64 0, .int .i64 1, .int .i64 5, .int .i64 40, .int .i64 41, .int .i64 (-1)] 2)).drew w.heap.size 24 #[.int .i64 0, .int .i64 0, .int .i64 0] from R5.out.alloc _)
    have TA := Lib.hid (show Rw (w5.alloc (.cells #[.int .i64 0, .int .i64 1, .int .i64 5, .int .i64 40, .int .i64 41, .int .i64 (-1)] 2)).drew w2.heap.size 24 #[.int .i64 d, .int .i64 b, .int .i64 p] from T5.out.alloc _)
    have BA := Lib.hid (show Below w.heap.size w (w5.alloc (.cells #[.int .i64 0, .int .i64 1, .int .i64 5, .int .i64 40, .int .i64 41, .int .i64 (-1)] 2)).drew from ((B5.out.trans (bA.mono (by omega)))).drew)
    have NA := Lib.hid (show Rw (w5.alloc (.cells #[.int .i64 0, .int .i64 1, .int .i64 5, .int .i64 40, .int .i64 41, .int .i64 (-1)] 2)).drew w5.heap.size 2 #[.int .i64 0, .int .i64 1, .int .i64 5, .int .i64 40, .int .i64 41, .int .i64 (-1)] from Rw.new w5 _ _)
    clear bA
    go_region_held3 (fun W => W.cell? ⟨w2.heap.size, 0, none⟩ = some (.int .i64 d) ∧ W.cell? ⟨w2.heap.size, 1, none⟩ = some (.int .i64 b) ∧ W.cell? ⟨w2.heap.size, 2, none⟩ = some (.int .i64 p))
      (first
        | with_reducible exact kA
        | with_reducible exact kB
        | with_reducible exact kC
        | with_reducible exact kD)
      (first
        | (go_at_call 54
           refine (among_any (fun x => I64 x) (w.heap.size + 1) (w.heap.size + 1) 1000 w5.heap.size 6 6 _ SA.out (by omega) (by omega) (by omega) (by omega) ?_).mono ?_
           · intro i hi
             rw [NA.out.cell]
             rcases i with _ | _ | _ | _ | _ | _ | i <;> first | exact ⟨_, rfl, by constructor <;> omega⟩ | omega
           rintro e w7 ⟨v7, rfl, ⟨cc, rfl, hcc⟩, hS7, hg7⟩
           have kC := (TA.out.grown hg7 (by omega)).three
           have R7 := Lib.hid (RA.out.grown hg7 (by omega))
           have T7 := Lib.hid (TA.out.grown hg7 (by omega))
           have B7 := Lib.hid (BA.out.trans ((Below.refl w.heap.size _).grown hg7 (by simp; omega) (fun j hj => by injection hj with hj; omega)))
           have CC7 := Lib.hid hcc
           obtain ⟨r0, r1, r2⟩ := R7.out.three
           obtain ⟨f0, f1, f2, _⟩ := R7.out.frees
           have kD := (((T7.out.farA (g' := w.heap.size) (k := 0) (by omega) (.int .i64 d)).farA (g' := w.heap.size) (k := 1) (by omega) (.int .i64 b)).farA (g' := w.heap.size) (k := 2) (by omega) (.int .i64 p)).three
           clear hS7 hg7 hcc))
    all_goals
      go_wp2
      refine bodyPost_ret (results_row_tmp2 Try.results14 _ _ _ _ _ _ _ rfl (((R7.out.set_ 0 _).set_ 1 _).set_ 2 _) Try.underlying24 rfl infoGeo) rfl ⟨d, b, p, _, cc, rfl, HSD.out, CC7.out, bset (bset (bset B7.out (Nat.le_refl _) _) (Nat.le_refl _) _) (Nat.le_refl _) _⟩
  case true =>
    go_wp2_with fail
    have b6 := (Below.refl w5.heap.size w5).alloc (Nat.le_refl _) (.cells #[.int .i64 (-1), .int .i64 4611686018427387904, .int .i64 (-9223372036854775808), .int .i64 999999936, .int .i64 999999937] 2)
    have N6 := Rw.new w5 2 #[.int .i64 (-1), .int .i64 4611686018427387904, .int .i64 (-9223372036854775808), .int .i64 999999936, .int .i64 999999937]
    refine (among_any (fun x => I64 x) (w.heap.size + 1) (w.heap.size + 1) 1000 w5.heap.size 5 5 _ (S5.out.keep b6) (by omega) (by omega) (by omega) (by omega) ?_).mono ?_
    · intro i hi
      rw [N6.cell]
      rcases i with _ | _ | _ | _ | _ | i <;> first | exact ⟨_, rfl, by constructor <;> omega⟩ | omega
    rintro e w6 ⟨v6, rfl, ⟨sd, rfl, hsd⟩, hS6, hg6⟩
    have hz6 := hg6.size
    simp only [World.size_alloc] at hz6
    have T6 := Lib.hid ((T5.out.alloc _).grown hg6 (by omega))
    have R6 := Lib.hid ((R5.out.alloc _).grown hg6 (by omega))
    have B6 := Lib.hid ((B5.out.trans (b6.mono (by omega))).trans ((Below.refl w.heap.size _).grown hg6 (by simp; omega) (fun j hj => by injection hj with hj; omega)))
    have S6 := Lib.hid (show Src w6 (w.heap.size + 1) (w.heap.size + 1) 1002 from hS6)
    have HSD := Lib.hid hsd
    clear T5 R5 B5 S5 b6 N6 hS6 hg6 hsd
    go_wp2_with fail
    have kA := (show Rw w6.drew _ _ _ from T6.out).three
    have kB := (show Rw (w6.alloc (.cells #[.int .i64 0, .int .i64 1, .int .i64 5, .int .i64 40, .int .i64 41, .int .i64 (-1)] 2)).drew _ _ _ from T6.out.alloc _).three
    have bA := (Below.refl w6.heap.size w6).alloc (Nat.le_refl _) (.cells #[.int .i64 0, .int .i64 1, .int .i64 5, .int .i64 40, .int .i64 41, .int .i64 (-1)] 2)
    have SA := Lib.hid (show Src (w6.alloc (.cells #[.int .i64 0, .int .i64 1, .int .i64 5, .int .i64 40, .int .i64 41, .int .i64 (-1)] 2)).drew (w.heap.size + 1) (w.heap.size + 1) 1002 from S6.out.keep bA.drew)
    have RA := Lib.hid (show Rw (w6.alloc (.cells #[.int .i64 0, .int .i64 1, .int .i64 5, .int .i64 40, .int .i64 41, .int .i64 (-1)] 2)).drew w.heap.size 24 #[.int .i64 0, .int .i64 0, .int .i64 0] from R6.out.alloc _)
    have TA := Lib.hid (show Rw (w6.alloc (.cells #[.int .i64 0, .int .i64 1, .int .i64 5, .int .i64 40, .int .i64 41, .int .i64 (-1)] 2)).drew w2.heap.size 24 #[.int .i64 d, .int .i64 b, .int .i64 p] from T6.out.alloc _)
    have BA := Lib.hid (show Below w.heap.size w (w6.alloc (.cells #[.int .i64 0, .int .i64 1, .int .i64 5, .int .i64 40, .int .i64 41, .int .i64 (-1)] 2)).drew from ((B6.out.trans (bA.mono (by omega)))).drew)
    have NA := Lib.hid (show Rw (w6.alloc (.cells #[.int .i64 0, .int .i64 1, .int .i64 5, .int .i64 40, .int .i64 41, .int .i64 (-1)] 2)).drew w6.heap.size 2 #[.int .i64 0, .int .i64 1, .int .i64 5, .int .i64 40, .int .i64 41, .int .i64 (-1)] from Rw.new w6 _ _)
    clear bA
    go_region_held3 (fun W => W.cell? ⟨w2.heap.size, 0, none⟩ = some (.int .i64 d) ∧ W.cell? ⟨w2.heap.size, 1, none⟩ = some (.int .i64 b) ∧ W.cell? ⟨w2.heap.size, 2, none⟩ = some (.int .i64 p))
      (first
        | with_reducible exact kA
        | with_reducible exact kB
        | with_reducible exact kC
        | with_reducible exact kD)
      (first
        | (go_at_call 54
           refine (among_any (fun x => I64 x) (w.heap.size + 1) (w.heap.size + 1) 1002 w6.heap.size 6 6 _ SA.out (by omega) (by omega) (by omega) (by omega) ?_).mono ?_
           · intro i hi
             rw [NA.out.cell]
             rcases i with _ | _ | _ | _ | _ | _ | i <;> first | exact ⟨_, rfl, by constructor <;> omega⟩ | omega
           rintro e w7 ⟨v7, rfl, ⟨cc, rfl, hcc⟩, hS7, hg7⟩
           have kC := (TA.out.grown hg7 (by omega)).three
           have R7 := Lib.hid (RA.out.grown hg7 (by omega))
           have T7 := Lib.hid (TA.out.grown hg7 (by omega))
           have B7 := Lib.hid (BA.out.trans ((Below.refl w.heap.size _).grown hg7 (by simp; omega) (fun j hj => by injection hj with hj; omega)))
           have CC7 := Lib.hid hcc
           obtain ⟨r0, r1, r2⟩ := R7.out.three
           obtain ⟨f0, f1, f2, _⟩ := R7.out.frees
           have kD := (((T7.out.farA (g' := w.heap.size) (k := 0) (by omega) (.int .i64 d)).farA (g' := w.heap.size) (k := 1) (by omega) (.int .i64 b)).farA (g' := w.heap.size) (k := 2) (by omega) (.int .i64 p)).three
           clear hS7 hg7 hcc))
    all_goals
      go_wp2
      refine bodyPost_ret (results_row_tmp2 Try.results14 _ _ _ _ _ _ _ rfl (((R7.out.set_ 0 _).set_ 1 _).set_ 2 _) Try.underlying24 rfl infoGeo) rfl ⟨d, b, p, _, cc, rfl, HSD.out, CC7.out, bset (bset (bset B7.out (Nat.le_refl _) _) (Nat.le_refl _) _) (Nat.le_refl _) _⟩
end Go.Proofs.Ytikdmkfngdihhab
