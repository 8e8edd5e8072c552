/- The proof's own lemmas, part 27: DrEp DrWi Wfb. -/
import Derived.Test.YtgamoiagpglcmaaProg
import Derived.Test.YtgamoiagpglcmaaMg25
import Derived.Deep.RegionHeld3
import Derived.Test.YtgamoiagpglcmaaMg2
import Derived.Test.YtgamoiagpglcmaaMg12
import Derived.Deep.RegionLaw
/- The model's draw of cells and a level. -/
namespace Go.Proofs.Ytgamoiagpglcmaa
open Go.RowKit
set_option linter.unusedVariables false
set_option linter.unusedSimpArgs false
theorem CodeIs.wideC {w : World} {B B' : Nat} {v : Value} (h : CodeIs w B v) (hB : B ≤ B') : CodeIs w B' v := by
  obtain ⟨A, len, cap, e, h1, hc⟩ := h
  refine ⟨A, len, cap, e, h1, fun h0 => ?_⟩
  obtain ⟨b, off, e2, h2, hx⟩ := hc h0
  exact ⟨b, off, e2, by omega, hx⟩
set_option maxHeartbeats 4000000 in
set_option maxRecDepth 100000 in
theorem drawEp_any (v : Value) (w : World) (h : CodeIs w w.heap.size v) : Calls Try.prog 38 #[v] w fun e w' => ∃ (u : Value) (M : Ce) (l : Int), e = .returned (.tuple #[u, .int .i64 l]) ∧ CeIn w' w'.heap.size u M ∧ M.c.length ≤ 66 ∧ (0 ≤ l ∧ l ≤ 256) ∧ Below w.heap.size w w' := by
  obtain ⟨Wz, hWz⟩ : ∃ W, W = w.alloc (.cells #[.slice none 0 0] 42) := ⟨_, rfl⟩
  have b0 : Below w.heap.size w Wz := by rw [hWz]; exact (Below.refl w.heap.size w).alloc (Nat.le_refl _) _
  have hz : Wz.heap.size = w.heap.size + 1 := by rw [hWz]; simp
  have R0 := Lib.hid (show Rw Wz w.heap.size 42 #[.slice none 0 0] by rw [hWz]; exact Rw.new w _ _)
  have HC := Lib.hid (l00From_any Wz v ((h.keep fun b hb => b0.block b hb).wideC (by omega)))
  have B0 := Lib.hid b0
  have HZ := Lib.hid hz
  obtain ⟨A0, len, cap, rfl, -⟩ := id h
  clear h b0 hz
  go_enter Try.func38, Try.ntmps38
  go_wp2_with fail
  rw [← hWz]
  clear hWz
  refine HC.out.mono ?_
  rintro e w1 ⟨rfl, hS, b1⟩
  obtain ⟨g, hg⟩ : ∃ g, g = Wz.heap.size := ⟨_, rfl⟩
  rw [← hg] at hS ⊢
  have HG := Lib.hid hg
  have B1 := Lib.hid (B0.out.trans (b1.mono (by have := HZ.out; omega)))
  have R1 := Lib.hid (R0.out.below b1 (by have := HZ.out; omega))
  have S1 := Lib.hid hS
  clear b1 hS hg HC R0
  go_wp2_with fail
  refine (drawCe_any _ _ _ S1.out).mono ?_
  rintro e w2 ⟨u, M, rfl, ho, hl, hg2, hs2⟩
  have hgw : g ≠ w.heap.size := by have := HG.out; have := HZ.out; omega
  have hwg : w.heap.size < g := by have := HG.out; have := HZ.out; omega
  have S2 := Lib.hid hs2
  have hg1 := S1.out.lt
  have R2 := Lib.hid (R1.out.grown hg2 (by omega))
  have B2 := Lib.hid (B1.out.trans ((Below.refl w.heap.size w1).grown hg2 B1.out.size (fun j hj => by injection hj with hj; omega)))
  have O2 := Lib.hid ho
  obtain ⟨A, m, c, rfl⟩ := ho.agg_
  have HL := Lib.hid hl
  clear ho hl hg2 hs2 S1 R1 B1
  go_wp2_with fail
  obtain ⟨X, hX⟩ : ∃ X, X = w2.alloc (.cells #[.slice A m c] 42) := ⟨_, rfl⟩
  have bx : Below w2.heap.size w2 X := by rw [hX]; exact (Below.refl _ w2).alloc (Nat.le_refl _) _
  have hzx : X.heap.size = w2.heap.size + 1 := by rw [hX]; simp
  have RX := Lib.hid (show Rw X w2.heap.size 42 #[.slice A m c] by rw [hX]; exact Rw.new w2 _ _)
  have R3 := Lib.hid (R2.out.below bx R2.out.lt)
  have S3 := Lib.hid (S2.out.keep bx)
  have B3 := Lib.hid (B2.out.trans (bx.mono B2.out.size))
  have I3 := Lib.hid (O2.out.reads.below bx (Nat.le_refl _))
  have hgx := S3.out.lt
  have hrx := R3.out.lt
  have hgw2 : g < w2.heap.size := S2.out.lt
  have hrw2 : w.heap.size < w2.heap.size := R2.out.lt
  rw [← hX]
  have hbx := bx
  clear hX bx R2 S2
  have kA := RX.out.one
  have kA' : X.drew.cell? ⟨w2.heap.size, 0, none⟩ = some (.slice A m c) := kA
  obtain ⟨Y, hY⟩ : ∃ Y, Y = (X.alloc (.cells #[.int .i64 0, .int .i64 1, .int .i64 2, .int .i64 16, .int .i64 63, .int .i64 64, .int .i64 128, .int .i64 255, .int .i64 256] 2)).drew := ⟨_, rfl⟩
  have by_ : Below X.heap.size X Y := by rw [hY]; exact ((Below.refl _ X).alloc (Nat.le_refl _) _).drew
  have kB : (X.alloc (.cells #[.int .i64 0, .int .i64 1, .int .i64 2, .int .i64 16, .int .i64 63, .int .i64 64, .int .i64 128, .int .i64 255, .int .i64 256] 2)).drew.cell? ⟨w2.heap.size, 0, none⟩ = some (.slice A m c) := by rw [← hY]; exact (RX.out.below by_ RX.out.lt).one
  have HAM := Lib.hid (among_any (fun x => 0 ≤ x ∧ x ≤ 256) Wz.heap.size g 1000 X.heap.size 9 9 (X.alloc (.cells #[.int .i64 0, .int .i64 1, .int .i64 2, .int .i64 16, .int .i64 63, .int .i64 64, .int .i64 128, .int .i64 255, .int .i64 256] 2)).drew (by rw [← hY, ← HG.out]; exact HG.out ▸ S3.out.keep by_) (by omega) (by omega) (by omega) (by omega) (by
    intro i hi
    have e : (X.alloc (.cells #[.int .i64 0, .int .i64 1, .int .i64 2, .int .i64 16, .int .i64 63, .int .i64 64, .int .i64 128, .int .i64 255, .int .i64 256] 2)).drew.cell? ⟨X.heap.size, i, none⟩ = _ := (Rw.new X 2 #[.int .i64 0, .int .i64 1, .int .i64 2, .int .i64 16, .int .i64 63, .int .i64 64, .int .i64 128, .int .i64 255, .int .i64 256]).cell i
    rw [e]
    rcases i with _ | _ | _ | _ | _ | _ | _ | _ | _ | i <;> first | exact ⟨_, rfl, by omega, by omega⟩ | omega))
  rw [← hY] at HAM
  have R4 := Lib.hid (R3.out.below by_ R3.out.lt)
  have RX4 := Lib.hid (RX.out.below by_ RX.out.lt)
  have B4 := Lib.hid (B3.out.trans (by_.mono B3.out.size))
  have I4 := Lib.hid (I3.out.below by_ (by omega))
  have hYz := by_.size
  rw [hY, hzx] at HAM
  have HBX := Lib.hid (show ∀ k, k < w2.heap.size → Y.heap[k]? = w2.heap[k]? from fun k hk => (by_.block k (by omega)).trans (hbx.block k hk))
  have hYz := by_.size
  go_region_held3 (fun W => W.cell? ⟨w2.heap.size, 0, none⟩ = some (.slice A m c))
    (first
      | with_reducible exact kA'
      | with_reducible exact kB
      | with_reducible exact k6
      | with_reducible exact k7)
    (first
      | (go_at_call 99
         with_reducible refine HAM.out.mono ?_
         rintro e w6 ⟨vv, rfl, ⟨l, rfl, hl0, hl1⟩, hs, hg6⟩
         rw [← hY] at hg6
         have R6 := Lib.hid (R4.out.grown hg6 (by omega))
         have RX6 := Lib.hid (RX4.out.grown hg6 (by omega))
         have k6 := RX6.out.one
         have k7 := (RX6.out.farA (g' := w.heap.size) (k := 0) (by omega) (.slice A m c)).one
         have q6 := R6.out.one
         have f6 := R6.out.free 0
         have B6 := Lib.hid (B4.out.trans ((Below.refl w.heap.size Y).grown hg6 B4.out.size (fun j hj => by injection hj with hj; omega)))
         have HG6 := Lib.hid hg6
         clear hs hg6)
      | fail)
  all_goals
    have h6 := HG6.out.size
    try go_wp2
    refine bodyPost_ret (results_row_tmp Try.results38 _ _ _ _ #[.slice A m c] _ _ rfl (R6.out.set_ 0 _) Try.underlying42 rfl infoCe) rfl ⟨_, M, l, rfl, ?_, HL.out, ⟨hl0, hl1⟩, bset B6.out (Nat.le_refl _) _⟩
    refine (CeOwn.same O2.out fun k h1 h2 => ?_).reads.wide (by simp; omega)
    rw [Below.heap_setCell w6 ⟨w.heap.size, 0, none⟩ _ k (by show k ≠ w.heap.size; omega)]
    exact (grown_any HG6.out (by omega) (by omega)).trans (HBX.out k h2)
end Go.Proofs.Ytgamoiagpglcmaa
/- The model's draw of cells alone. -/
namespace Go.Proofs.Ytgamoiagpglcmaa
open Go.RowKit
set_option linter.unusedVariables false
set_option linter.unusedSimpArgs false
set_option maxHeartbeats 4000000 in
set_option maxRecDepth 100000 in
theorem drawWi_any (v : Value) (w : World) (h : CodeIs w w.heap.size v) : Calls Try.prog 28 #[v] w fun e w' => ∃ (u : Value) (M : Ce), e = .returned u ∧ CeIn w' w'.heap.size u M ∧ M.c.length ≤ 66 ∧ Below w.heap.size w w' := by
  obtain ⟨Wz, hWz⟩ : ∃ W, W = w.alloc (.cells #[.slice none 0 0] 42) := ⟨_, rfl⟩
  have b0 : Below w.heap.size w Wz := by rw [hWz]; exact (Below.refl w.heap.size w).alloc (Nat.le_refl _) _
  have hz : Wz.heap.size = w.heap.size + 1 := by rw [hWz]; simp
  have R0 := Lib.hid (show Rw Wz w.heap.size 42 #[.slice none 0 0] by rw [hWz]; exact Rw.new w _ _)
  have HC := Lib.hid (l00From_any Wz v ((h.keep fun b hb => b0.block b hb).wideC (by omega)))
  have B0 := Lib.hid b0
  have HZ := Lib.hid hz
  obtain ⟨A0, len, cap, rfl, -⟩ := id h
  clear h b0 hz
  go_enter Try.func28, Try.ntmps28
  go_wp2_with fail
  rw [← hWz]
  clear hWz
  refine HC.out.mono ?_
  rintro e w1 ⟨rfl, hS, b1⟩
  obtain ⟨g, hg⟩ : ∃ g, g = Wz.heap.size := ⟨_, rfl⟩
  rw [← hg] at hS ⊢
  have HG := Lib.hid hg
  have B1 := Lib.hid (B0.out.trans (b1.mono (by have := HZ.out; omega)))
  have R1 := Lib.hid (R0.out.below b1 (by have := HZ.out; omega))
  have S1 := Lib.hid hS
  clear b1 hS hg HC R0
  go_wp2_with fail
  refine (drawCe_any _ _ _ S1.out).mono ?_
  rintro e w2 ⟨u, M, rfl, ho, hl, hg2, hs2⟩
  have hgw : g ≠ w.heap.size := by have := HG.out; have := HZ.out; omega
  have hwg : w.heap.size < g := by have := HG.out; have := HZ.out; omega
  have hg1 := S1.out.lt
  have R2 := Lib.hid (R1.out.grown hg2 (by omega))
  have B2 := Lib.hid (B1.out.trans ((Below.refl w.heap.size w1).grown hg2 B1.out.size (fun j hj => by injection hj with hj; omega)))
  have O2 := Lib.hid ho
  obtain ⟨A, m, c, rfl⟩ := ho.agg_
  have HL := Lib.hid hl
  clear ho hl hg2 hs2 S1 R1 B1
  have q6 := R2.out.one
  have f6 := R2.out.free 0
  go_wp2
  refine bodyPost_ret (results_cell_row Try.results28 _ _ _ _ #[.slice A m c] _ _ rfl (R2.out.set_ 0 _) Try.underlying42 rfl infoCe) rfl ⟨_, M, rfl, ?_, HL.out, bset B2.out (Nat.le_refl _) _⟩
  refine (CeOwn.same O2.out fun k h1 h2 => ?_).reads.wide (by simp)
  exact Below.heap_setCell w2 ⟨w.heap.size, 0, none⟩ _ k (by show k ≠ w.heap.size; omega)
end Go.Proofs.Ytgamoiagpglcmaa
/- The laws' source of choices (chapter 15): made of a text, asked for a number. -/
namespace Go.Proofs.Ytgamoiagpglcmaa
open Go.RowKit
set_option linter.unusedVariables false
set_option linter.unusedSimpArgs false
theorem and24_u64 (x : Int) : 0 ≤ bits .and .u64 x 16777215 ∧ bits .and .u64 x 16777215 ≤ 16777215 := by
  have h : (BitVec.ofInt 64 x &&& BitVec.ofInt 64 16777215).toNat ≤ 16777215 := by
    rw [BitVec.toNat_and]
    exact Nat.le_trans Nat.and_le_right (by decide)
  have e : bits .and .u64 x 16777215 = IntKind.u64.wrap ((BitVec.ofInt 64 x &&& BitVec.ofInt 64 16777215).toNat : Int) := rfl
  rw [e]
  have : IntKind.u64.wrap ((BitVec.ofInt 64 x &&& BitVec.ofInt 64 16777215).toNat : Int) = ((BitVec.ofInt 64 x &&& BitVec.ofInt 64 16777215).toNat : Int) % 18446744073709551616 := rfl
  omega
theorem and24_mod (x n : Int) (hn : 1 ≤ n) : 0 ≤ (wrap64 (bits .and .u64 x 16777215)).tmod n ∧ (wrap64 (bits .and .u64 x 16777215)).tmod n < n := by
  have h := and24_u64 x
  rw [IntWalk.wrap64_in _ (by omega), Int.tmod_eq_emod_of_nonneg h.1]
  exact ⟨Int.emod_nonneg _ (by omega), Int.emod_lt_of_pos _ (by omega)⟩
theorem grown_one (w : World) (g : Nat) (x : Value) (i : Nat) : w.grownBy (w.setCell ⟨g, i, none⟩ x) (some g) :=
  ⟨rfl, rfl, rfl, by simp, fun k _ hk => heap_setCell_other _ _ k _ (fun e => hk (by simp [e]))⟩
set_option maxHeartbeats 1000000 in
theorem below5_any (g : Nat) (s n : Int) (w : World) (hR : Rw w g 115 #[.int .u64 s]) (hn : 1 ≤ n) (hn2 : n ≤ 1000000) :
    Calls Try.prog 36 #[.pointer (some ⟨g, 0, none⟩), .int .i64 n] w fun e w' => ∃ x s' : Int, e = .returned (.int .i64 x) ∧ 0 ≤ x ∧ x < n ∧ Rw w' g 115 #[.int .u64 s'] ∧ w.grownBy w' (some g) := by
  have q := hR.one
  have f := hR.free 0
  go_enter Try.func36, Try.ntmps36
  go_wp2
  go_ret
  exact ⟨_, _, rfl, (and24_mod _ n hn).1, (and24_mod _ n hn).2, hR.set_ 0 _, grown_one w g _ 0⟩
set_option maxHeartbeats 4000000 in
set_option maxRecDepth 100000 in
theorem from5_any (v : Value) (s : Int) (w : World) (h : CodeIs w w.heap.size v) :
    Calls Try.prog 35 #[v, .int .u64 s] w fun e w' => ∃ s' : Int, e = .returned (.pointer (some ⟨w.heap.size, 0, none⟩)) ∧ Rw w' w.heap.size 115 #[.int .u64 s'] ∧ Below w.heap.size w w' := by
  obtain ⟨A, len, cap, rfl, hl, hc⟩ := h
  have HC := Lib.hid hc
  have hlI : (len : Int) ≤ 1048576 := by omega
  clear hc
  go_enter Try.func35, Try.ntmps35
  go_wp2_with fail
  go_loopw [6] (fun i wr => ∃ (k : Nat) (x : Int), i = .int .i64 (k : Int) ∧ k ≤ len ∧ Hid (Rw wr w.heap.size 115 #[.int .u64 x]) ∧ Hid (Below w.heap.size w wr)) (fun i _ => len - (intOf i).toNat)
  case atStart => exact ⟨0, _, rfl, by omega, Lib.hid (Rw.new w _ _), Lib.hid ((Below.refl w.heap.size w).alloc (Nat.le_refl _) _)⟩
  case round =>
    obtain ⟨k, x, rfl, hk, R, B⟩ := hrel
    by_cases hlt : k < len
    · obtain ⟨b, off, rfl, hb, hx⟩ := HC.out (by omega)
      obtain ⟨y, hy, hy0, hy1⟩ := hx k hlt
      have c1 := (B.out.cell (p := ⟨b, off + k, none⟩) hb).trans hy
      have q := R.out.one
      have f := R.out.free 0
      have hki : (k : Int) < (len : Int) := by omega
      clear hx hy HC
      go_wp2_with fail
      have q' : wr.drew.cell? ⟨w.heap.size, 0, none⟩ = some (.int .u64 x) := q
      go_region
      go_wp2
      go_roundw
      case rel => exact ⟨k + 1, _, by go_num, by omega, Lib.hid (R.out.set_ 0 _), Lib.hid (bset B.out (Nat.le_refl _) _).drew⟩
      case measure => simp [intOf]; omega
    · obtain rfl : k = len := by omega
      go_wp2
      go_ret
      exact ⟨x, rfl, R.out, B.out⟩
end Go.Proofs.Ytgamoiagpglcmaa
