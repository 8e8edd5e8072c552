/- Which faults are valid, in the program: the contract; the forms of the kinds. -/
import Derived.Test.YtikdmkfngdihhadProg
import Derived.Test.YtikdmkfngdihhadVfN
import Derived.Test.YtikdmkfngdihhadGeo
import Derived.Test.YtikdmkfngdihhadEqI
namespace Go.Proofs.Ytikdmkfngdihhad
open Go.RowKit
set_option linter.unusedVariables false
/-- The word of a kind. -/
def wordB (k : Int) : ByteArray := if k = 1 then ⟨#[98, 105, 116]⟩ else if k = 2 then ⟨#[100, 105, 115, 116, 117, 114, 98]⟩ else if k = 3 then ⟨#[114, 101, 116, 101, 110, 116, 105, 111, 110]⟩ else if k = 4 then ⟨#[98, 108, 111, 99, 107]⟩ else if k = 5 then ⟨#[99, 117, 116]⟩ else ByteArray.empty
def WfJ (n : Int) : Prop := -9223372036854775808 ≤ n ∧ n ≤ 9223372036854775807
theorem infoForm : (Try.prog.info? 63).map (·.size) = some 4 := by kernel_rfl
theorem infoFields : (Try.prog.info? 61).map (·.size) = some 3 := by kernel_rfl
def FormPost (q p k : Int) (w : World) (e : Ending) (w' : World) : Prop := e = .returned (.agg #[.string (wordB k), .int .i64 (lim0 q k), .int .i64 (lim1 p k), .int .i64 (lim2 k)]) ∧ Below w.heap.size w w'
set_option maxHeartbeats 2000000 in
theorem formOf_any (d b p k : Int) (w : World) (g : GeoOk d b p) :
    Calls Try.prog 32 #[.agg #[.int .i64 d, .int .i64 b, .int .i64 p], .int .i64 k] w (FormPost (d * b) p k w) := by
  have HT := Lib.hid (fun (W : World) => total_any d b p W g)
  generalize d * b = q at *
  clear g
  obtain ⟨r0, r1, b0⟩ := Rw.two_new w 27 63 #[.int .i64 d, .int .i64 b, .int .i64 p] #[.string ByteArray.empty, .int .i64 0, .int .i64 0, .int .i64 0]
  have R0 := Lib.hid r0
  have R1 := Lib.hid r1
  have B0 := Lib.hid b0
  clear r0 r1 b0
  go_enter Try.func32, Try.ntmps32
  go_wp2_with fail
  refine (HT.out _).mono ?_
  rintro e w1 ⟨rfl, b1⟩
  simp only [World.size_alloc] at b1
  have B1 := Lib.hid (B0.out.trans (b1.mono (by omega)))
  obtain ⟨c0, c1, c2⟩ := (Lib.hid (R0.out.below b1 (by omega))).out.three
  have S1 := Lib.hid (R1.out.below b1 (by omega))
  obtain ⟨d0, d1, d2, d3⟩ := S1.out.four
  obtain ⟨f0, f1, f2, f3, _⟩ := S1.out.frees
  clear b1 R0 R1 B0
  rcases kinds k with rfl | rfl | rfl | rfl | rfl | hk
  case inr.inr.inr.inr.inr =>
    obtain ⟨k1, k2, k3, k4, k5⟩ := hk
    have e1 : (k == 1) = false := by simpa using k1
    have e2 : (k == 2) = false := by simpa using k2
    have e3 : (k == 3) = false := by simpa using k3
    have e4 : (k == 4) = false := by simpa using k4
    have e5 : (k == 5) = false := by simpa using k5
    have HF : Hid (wordB k = ByteArray.empty ∧ lim0 q k = 0 ∧ lim1 p k = 0 ∧ lim2 k = 0) := Lib.hid (by simp [wordB, lim0, lim1, lim2, k1, k2, k3, k4, k5])
    clear k1 k2 k3 k4 k5
    go_wp2
    refine bodyPost_ret (results_cell_row Try.results32 _ _ _ _ _ _ _ rfl ((((S1.out.set_ 0 _).set_ 1 _).set_ 2 _).set_ 3 _) Try.underlying63 rfl infoForm) rfl ⟨?_, bset (bset (bset (bset B1.out (by omega) _) (by omega) _) (by omega) _) (by omega) _⟩
    obtain ⟨h1, h2, h3, h4⟩ := HF.out
    rw [h1, h2, h3, h4]
    rfl
  all_goals
    go_wp2
    refine bodyPost_ret (results_cell_row Try.results32 _ _ _ _ _ _ _ rfl ((((S1.out.set_ 0 _).set_ 1 _).set_ 2 _).set_ 3 _) Try.underlying63 rfl infoForm) rfl ⟨?_, bset (bset (bset (bset B1.out (by omega) _) (by omega) _) (by omega) _) (by omega) _⟩
    simp [wordB, lim0, lim1, lim2]
theorem fields_any (k B P T : Int) (w : World) :
    Calls Try.prog 33 #[.agg #[.int .i64 k, .int .i64 B, .int .i64 P, .int .i64 T]] w fun e w' => e = .returned (.agg #[.int .i64 B, .int .i64 P, .int .i64 T]) ∧ Below w.heap.size w w' := by
  obtain ⟨r0, r1, b0⟩ := Rw.two_new w 29 61 #[.int .i64 k, .int .i64 B, .int .i64 P, .int .i64 T] #[.int .i64 B, .int .i64 P, .int .i64 T]
  have S1 := Lib.hid r1
  have B0 := Lib.hid b0
  clear r0 r1 b0
  go_enter Try.func33, Try.ntmps33
  go_wp2
  exact bodyPost_ret (results_cell_row Try.results33 _ _ _ _ _ _ _ rfl S1.out Try.underlying61 rfl infoFields) rfl ⟨rfl, B0.out⟩
set_option maxHeartbeats 4000000 in
set_option maxRecDepth 100000 in
theorem implVf_any (d b p k B P T : Int) (r : Bool) (w : World) (hr : r = true ↔ FtOk d b p ⟨k, B, P, T⟩) (wB : WfJ B) (wP : WfJ P) (wT : WfJ T) :
    Calls Try.prog 11 #[.agg #[.int .i64 d, .int .i64 b, .int .i64 p], .agg #[.int .i64 k, .int .i64 B, .int .i64 P, .int .i64 T]] w fun e w' => e = .returned (.bool r) ∧ Below w.heap.size w w' := by
  obtain ⟨rg, hg⟩ := prop_dec' (GeoOk d b p)
  have HG := Lib.hid (fun (W : World) => implGeo_any d b p rg W hg)
  obtain ⟨r0, r1, b0⟩ := Rw.two_new w 27 29 #[.int .i64 d, .int .i64 b, .int .i64 p] #[.int .i64 k, .int .i64 B, .int .i64 P, .int .i64 T]
  have R0 := Lib.hid r0
  have R1 := Lib.hid r1
  have B0 := Lib.hid b0
  obtain ⟨c0, c1, c2⟩ := r0.three
  clear r0 r1 b0
  by_cases g : GeoOk d b p
  case neg =>
    obtain rfl : rg = false := (bool_of rg hg).2 g
    have HF := Lib.hid (not_true hr (fun e => g e.1))
    clear hr hg g
    go_enter Try.func11, Try.ntmps11
    go_wp2_with fail
    refine (HG.out _).mono ?_
    rintro e w1 ⟨rfl, b1⟩
    simp only [World.size_alloc] at b1
    have B1 := Lib.hid (B0.out.trans (b1.mono (by omega)))
    clear b1 c0 c1 c2
    go_wp2
    go_ret
    exact ⟨ret_bool HF.out.symm, B1.out⟩
  obtain rfl : rg = true := hg.2 g
  have HFO := Lib.hid (fun (W : World) => formOf_any d b p k W g)
  have hr : r = true ↔ FtIn (d * b) p ⟨k, B, P, T⟩ := by rw [hr]; exact ⟨fun e => e.2, fun e => ⟨g, e⟩⟩
  unfold FtIn at hr
  simp only at hr
  clear g hg
  generalize d * b = q at *
  unfold FormPost at HFO
  generalize wordB k = W0 at *
  generalize lim0 q k = l0 at *
  generalize lim1 p k = l1 at *
  generalize lim2 k = l2 at *
  have HR := Lib.hid hr
  clear hr
  go_enter Try.func11, Try.ntmps11
  go_wp2_with fail
  refine (HG.out _).mono ?_
  rintro e w1 ⟨rfl, b1⟩
  simp only [World.size_alloc] at b1
  have z1 := b1.size
  simp only [World.size_alloc] at z1
  have B1 := Lib.hid (B0.out.trans (b1.mono (by omega)))
  clear c0 c1 c2
  have S1 := Lib.hid (R1.out.below b1 (by omega))
  obtain ⟨c0, c1, c2⟩ := (Lib.hid (R0.out.below b1 (by omega))).out.three
  obtain ⟨d0, d1, d2, d3⟩ := S1.out.four
  clear b1 R0 R1 B0
  go_wp2_with fail
  refine (HFO.out _).mono ?_
  rintro e w2 ⟨rfl, b2⟩
  have z2 := b2.size
  have B2 := Lib.hid ((B1.out.trans (b2.mono (by omega))).alloc (by omega) (.cells #[.string W0, .int .i64 l0, .int .i64 l1, .int .i64 l2] 63))
  clear c0 c1 c2 d0 d1 d2 d3
  have S2 := Lib.hid ((S1.out.below b2 (by omega)).alloc (.cells #[.string W0, .int .i64 l0, .int .i64 l1, .int .i64 l2] 63))
  have F2 := Lib.hid (Rw.new w2 63 #[.string W0, .int .i64 l0, .int .i64 l1, .int .i64 l2])
  obtain ⟨d0, d1, d2, d3⟩ := S2.out.four
  have z2' : (w2.alloc (.cells #[.string W0, .int .i64 l0, .int .i64 l1, .int .i64 l2] 63)).heap.size = w2.heap.size + 1 := by simp
  clear b2 B1 S1
  go_wp2_with fail
  refine (fields_any k B P T _).mono ?_
  rintro e w3 ⟨rfl, b3⟩
  rw [z2'] at b3
  have z3 := b3.size
  rw [z2'] at z3
  have B3 := Lib.hid (B2.out.trans (b3.mono (by omega)))
  have F3 := Lib.hid (F2.out.below b3 (by omega))
  clear b3 B2 F2 S2 d0 d1 d2 d3 z2'
  obtain ⟨g0, g1, g2, g3⟩ := F3.out.four
  unfold WfJ at wB wP wT
  have x0 : ∀ W : World, (Instr.index 61 (.agg #[.int .i64 B, .int .i64 P, .int .i64 T]) (.int .i64 0)).run Try.prog W = .ok (.int .i64 B) W := fun _ => by kernel_rfl
  have x1 : ∀ W : World, (Instr.index 61 (.agg #[.int .i64 B, .int .i64 P, .int .i64 T]) (.int .i64 1)).run Try.prog W = .ok (.int .i64 P) W := fun _ => by kernel_rfl
  have x2 : ∀ W : World, (Instr.index 61 (.agg #[.int .i64 B, .int .i64 P, .int .i64 T]) (.int .i64 2)).run Try.prog W = .ok (.int .i64 T) W := fun _ => by kernel_rfl
  go_wp2_with fail
  go_loopw [17] (fun i wr => ∃ n : Nat, n ≤ 3 ∧ i = .int .i64 n ∧ wr = w3 ∧ Hid ((0 < n → 0 ≤ B ∧ B < l0) ∧ (1 < n → 0 ≤ P ∧ P < l1) ∧ (2 < n → 0 ≤ T ∧ T < l2))) (fun i _ => 3 - (intOf i).toNat)
  case atStart => exact ⟨0, by omega, rfl, rfl, Lib.hid ⟨fun h => by omega, fun h => by omega, fun h => by omega⟩⟩
  case round =>
    obtain ⟨n, hn, rfl, rfl, HP⟩ := hrel
    obtain rfl | rfl | rfl | rfl : n = 0 ∨ n = 1 ∨ n = 2 ∨ n = 3 := by omega
    · by_cases h0 : B < 0
      · have HF := Lib.hid (not_true HR.out (fun e => by have := e.1; omega))
        clear HR HP
        go_wp2
        go_ret
        exact ⟨ret_bool HF.out.symm, B3.out⟩
      · by_cases h1 : l0 ≤ B
        · have HF := Lib.hid (not_true HR.out (fun e => by have := e.1; omega))
          clear HR HP
          go_wp2
          go_ret
          exact ⟨ret_bool HF.out.symm, B3.out⟩
        · have HO := Lib.hid (show 0 ≤ B ∧ B < l0 by omega)
          go_wp2
          go_roundw
          case rel => exact ⟨1, by omega, by go_num, by first | trivial | rfl, Lib.hid ⟨fun h => HO.out, fun h => by omega, fun h => by omega⟩⟩
          case measure => simp [intOf]
    · by_cases h0 : P < 0
      · have HF := Lib.hid (not_true HR.out (fun e => by have := e.2.1; omega))
        clear HR HP
        go_wp2
        go_ret
        exact ⟨ret_bool HF.out.symm, B3.out⟩
      · by_cases h1 : l1 ≤ P
        · have HF := Lib.hid (not_true HR.out (fun e => by have := e.2.1; omega))
          clear HR HP
          go_wp2
          go_ret
          exact ⟨ret_bool HF.out.symm, B3.out⟩
        · have HO := Lib.hid (show 0 ≤ P ∧ P < l1 by omega)
          go_wp2
          go_roundw
          case rel => exact ⟨2, by omega, by go_num, by first | trivial | rfl, Lib.hid ⟨fun h => HP.out.1 (by omega), fun h => HO.out, fun h => by omega⟩⟩
          case measure => simp [intOf]
    · by_cases h0 : T < 0
      · have HF := Lib.hid (not_true HR.out (fun e => by have := e.2.2; omega))
        clear HR HP
        go_wp2
        go_ret
        exact ⟨ret_bool HF.out.symm, B3.out⟩
      · by_cases h1 : l2 ≤ T
        · have HF := Lib.hid (not_true HR.out (fun e => by have := e.2.2; omega))
          clear HR HP
          go_wp2
          go_ret
          exact ⟨ret_bool HF.out.symm, B3.out⟩
        · have HO := Lib.hid (show 0 ≤ T ∧ T < l2 by omega)
          go_wp2
          go_roundw
          case rel => exact ⟨3, by omega, by go_num, by first | trivial | rfl, Lib.hid ⟨fun h => HP.out.1 (by omega), fun h => HP.out.2.1 (by omega), fun h => HO.out⟩⟩
          case measure => simp [intOf]
    · have HF := Lib.hid (HR.out.2 ⟨HP.out.1 (by omega), HP.out.2.1 (by omega), HP.out.2.2 (by omega)⟩)
      clear HR HP
      go_wp2
      go_ret
      exact ⟨ret_bool HF.out.symm, B3.out⟩
end Go.Proofs.Ytikdmkfngdihhad
