/- The proof's own lemmas, part 30: FlE TbA. -/
import Derived.Test.YtgamoiagpglcmaaProg
import Derived.Test.YtgamoiagpglcmaaMg8
import Derived.StillTailTactics
import Derived.Test.YtgamoiagpglcmaaMg9
import Derived.RegionTactic
import Derived.Deep.RegionHeld3
/- The laws' helper eqFlash: of what reads alike the answer is true. -/
namespace Go.Proofs.Ytgamoiagpglcmaa
open Go.RowKit
set_option linter.unusedVariables false

/-! Comparisons: of what reads alike the answer is true. -/
theorem eqPages_any (u v : Value) (L : List ByteArray) (w : World) (lo hi lo' hi' : Nat) (hu : PgIn w lo hi u L) (hv : PgIn w lo' hi' v L) (h1 : hi ≤ w.heap.size) (h2 : hi' ≤ w.heap.size) (hl : L.length ≤ 1048576) :
    Calls Try.prog 187 #[u, v] w fun e w' => e = .returned (.bool true) ∧ Below w.heap.size w w' := eqStrs_any u v L w (hu.strs h1) (hv.strs h2) hl
theorem eqBlock_any (x : Blk) (u v : Value) (w : World) (lo hi lo' hi' : Nat) (hu : PgIn w lo hi u x.pg) (hv : PgIn w lo' hi' v x.pg) (h1 : hi ≤ w.heap.size) (h2 : hi' ≤ w.heap.size) (hl : x.pg.length ≤ 1048576) :
    Calls Try.prog 167 #[.agg #[.int .i64 x.er, .int .i64 x.nx, .bool x.bad, u], .agg #[.int .i64 x.er, .int .i64 x.nx, .bool x.bad, v]] w fun e w' => e = .returned (.bool true) ∧ Below w.heap.size w w' := by
  have HS := Lib.hid (fun (W : World) (a : PgIn W lo hi u x.pg) (b : PgIn W lo' hi' v x.pg) (c : hi ≤ W.heap.size) (d : hi' ≤ W.heap.size) => eqPages_any u v x.pg W lo hi lo' hi' a b c d hl)
  have HU := Lib.hid hu
  have HV := Lib.hid hv
  clear hu hv
  obtain ⟨er, nx, bad, pg⟩ := x
  simp only
  have n1 : (er != er) = false := by simp
  have n2 : (nx != nx) = false := by simp
  have n3 : (bad != bad) = false := by simp
  obtain ⟨_, _, b0⟩ := Rw.two_new w 138 138 #[.int .i64 er, .int .i64 nx, .bool bad, u] #[.int .i64 er, .int .i64 nx, .bool bad, v]
  have HB := Lib.hid b0
  clear b0
  go_enter Try.func167, Try.ntmps167
  go_wp2_with fail
  refine (HS.out _ (HU.out.same (sm HB.out lo h1)) (HV.out.same (sm HB.out lo' h2)) (by simp; omega) (by simp; omega)).mono ?_
  rintro e w1 ⟨rfl, hb1⟩
  have HB1 := Lib.hid (HB.out.trans (hb1.mono (by simp; omega)))
  clear hb1
  go_wp2
  go_ret
  exact ⟨rfl, HB1.out⟩
set_option maxRecDepth 100000 in
theorem eqBlocks_any (u v : Value) (L : List Blk) (w : World) (lo hi lo' hi' : Nat) (hu : BksIn w lo hi u L) (hv : BksIn w lo' hi' v L) (h1 : hi ≤ w.heap.size) (h2 : hi' ≤ w.heap.size) (hl : L.length ≤ 1048576) (hp : ∀ i, i < L.length → (L.getD i Blk.zero).pg.length ≤ 1048576) :
    Calls Try.prog 130 #[u, v] w fun e w' => e = .returned (.bool true) ∧ Below w.heap.size w w' := by
  obtain ⟨A, n, cap, rfl, _, _, hn, hA⟩ := hu
  obtain ⟨A', n', cap', rfl, _, _, hn', hA'⟩ := hv
  obtain rfl : n = n' := by omega
  have hnm : (n : Int) ≤ 1048576 := by omega
  rcases Nat.eq_zero_or_pos n with h0 | h0
  · subst h0
    clear hA hA' hn hn' hp
    go_enter Try.func130, Try.ntmps130
    go_wp2
    go_loopw [5] (fun i wr => i = .int .i64 0 ∧ wr = w) (fun _ _ => 0)
    case atStart => exact ⟨rfl, rfl⟩
    case round =>
      obtain ⟨rfl, rfl⟩ := hrel
      go_wp2
      go_ret
      exact ⟨rfl, Below.refl _ _⟩
  · obtain ⟨g, off, rfl, hg1, hg2, hx⟩ := hA h0
    obtain ⟨g', off', rfl, hg1', hg2', hx'⟩ := hA' h0
    have HX := Lib.hid hx
    have HX' := Lib.hid hx'
    have HP := Lib.hid hp
    have HN := Lib.hid hn
    clear hA hA' hx hx' hn hn' hp
    go_enter Try.func130, Try.ntmps130
    go_wp2
    go_loopw [5] (fun i wr => ∃ k : Nat, k ≤ n ∧ i = .int .i64 k ∧ Below w.heap.size w wr) (fun i _ => n - (intOf i).toNat)
    case atStart => exact ⟨0, by omega, rfl, Below.refl _ _⟩
    case round =>
      obtain ⟨k, hk, rfl, hb⟩ := hrel
      by_cases hlt : k < n
      · have hki : (k : Int) < (n : Int) := by omega
        obtain ⟨pu, ⟨c0, c1, c2, c3⟩, hpu⟩ := HX.out k hlt
        obtain ⟨pv, ⟨d0, d1, d2, d3⟩, hpv⟩ := HX'.out k hlt
        have q0 := (hb.cell (p := ⟨g, off + k * 4, none⟩) (by simp; omega)).trans c0
        have q1 := (hb.cell (p := ⟨g, off + k * 4 + 1, none⟩) (by simp; omega)).trans c1
        have q2 := (hb.cell (p := ⟨g, off + k * 4 + 2, none⟩) (by simp; omega)).trans c2
        have q3 := (hb.cell (p := ⟨g, off + k * 4 + 3, none⟩) (by simp; omega)).trans c3
        have t0 := (hb.cell (p := ⟨g', off' + k * 4, none⟩) (by simp; omega)).trans d0
        have t1 := (hb.cell (p := ⟨g', off' + k * 4 + 1, none⟩) (by simp; omega)).trans d1
        have t2 := (hb.cell (p := ⟨g', off' + k * 4 + 2, none⟩) (by simp; omega)).trans d2
        have t3 := (hb.cell (p := ⟨g', off' + k * 4 + 3, none⟩) (by simp; omega)).trans d3
        have HU := Lib.hid (hpu.same (sm hb lo h1))
        have HV := Lib.hid (hpv.same (sm hb lo' h2))
        have HQ := HP.out k (by have := HN.out; omega)
        have hsz := hb.size
        generalize L.getD k Blk.zero = y at *
        have HC := Lib.hid (fun (W : World) (a : PgIn W lo hi pu y.pg) (b : PgIn W lo' hi' pv y.pg) (c : hi ≤ W.heap.size) (d : hi' ≤ W.heap.size) => eqBlock_any y pu pv W lo hi lo' hi' a b c d HQ)
        have HB := Lib.hid hb
        clear c0 c1 c2 c3 d0 d1 d2 d3 hpu hpv hb
        go_wp2_with fail
        go_still_tail 8, (by kernel_rfl)
        change wpList _ _ _ _ _ wr.drew
        go_wp2_with fail
        refine (HC.out _ (show PgIn wr.drew lo hi pu y.pg from HU.out) (show PgIn wr.drew lo' hi' pv y.pg from HV.out) (by simp; omega) (by simp; omega)).mono ?_
        rintro e w1 ⟨rfl, hb1⟩
        have HB1 := Lib.hid (HB.out.drew.trans (hb1.mono (by simpa using hsz)))
        clear hb1 HB
        go_wp2
        go_roundw
        case rel => exact ⟨k + 1, by omega, by go_num, HB1.out⟩
        case measure => simp [intOf]; omega
      · obtain rfl : k = n := by omega
        go_wp2
        go_ret
        exact ⟨rfl, hb⟩
theorem eqGeometry_any (d b p : Int) (w : World) : Calls Try.prog 129 #[.agg #[.int .i64 d, .int .i64 b, .int .i64 p], .agg #[.int .i64 d, .int .i64 b, .int .i64 p]] w fun e w' => e = .returned (.bool true) ∧ Below w.heap.size w w' := by
  have n1 : (d != d) = false := by simp
  have n2 : (b != b) = false := by simp
  have n3 : (p != p) = false := by simp
  obtain ⟨_, _, b0⟩ := Rw.two_new w 76 76 #[.int .i64 d, .int .i64 b, .int .i64 p] #[.int .i64 d, .int .i64 b, .int .i64 p]
  have HB := Lib.hid b0
  clear b0
  go_enter Try.func129, Try.ntmps129
  go_wp2
  go_ret
  exact ⟨rfl, HB.out⟩
theorem eqFlash_any (u v : Value) (F : Fl) (w : World) (lo hi lo' hi' : Nat) (hu : FlIn w lo hi u F) (hv : FlIn w lo' hi' v F) (h1 : hi ≤ w.heap.size) (h2 : hi' ≤ w.heap.size) (hz : FlSz F) :
    Calls Try.prog 59 #[u, v] w fun e w' => e = .returned (.bool true) ∧ Below w.heap.size w w' := by
  obtain ⟨u, rfl, hu⟩ := hu
  obtain ⟨v, rfl, hv⟩ := hv
  have HS := Lib.hid (fun (W : World) (a : BksIn W lo hi u F.bs) (b : BksIn W lo' hi' v F.bs) (c : hi ≤ W.heap.size) (d : hi' ≤ W.heap.size) => eqBlocks_any u v F.bs W lo hi lo' hi' a b c d (by unfold FlSz at hz; omega) (fun i hi => (hz.pages hi).1))
  have HU := Lib.hid hu
  have HV := Lib.hid hv
  clear hu hv hz
  obtain ⟨d, b, p, bs, fu, ke, off, op⟩ := F
  unfold flc
  simp only at *
  have n1 : (fu != fu) = false := by simp
  have n2 : (ke != ke) = false := by simp
  have n3 : (off != off) = false := by simp
  have n4 : (op != op) = false := by simp
  obtain ⟨r0, r1, b0⟩ := Rw.two_new w 79 79 #[.int .i64 d, .int .i64 b, .int .i64 p, u, .int .i64 fu, .int .i64 ke, .bool off, .int .i64 op] #[.int .i64 d, .int .i64 b, .int .i64 p, v, .int .i64 fu, .int .i64 ke, .bool off, .int .i64 op]
  have R0 := Lib.hid r0
  have R1 := Lib.hid r1
  have HB := Lib.hid b0
  clear b0 r0 r1
  go_enter Try.func59, Try.ntmps59
  go_wp2_with fail
  refine (eqGeometry_any d b p _).mono ?_
  rintro e w1 ⟨rfl, hb1⟩
  simp only [World.size_alloc] at hb1
  have r0 := R0.out.below hb1 (by omega)
  have r1 := R1.out.below hb1 (by omega)
  have HB1 := Lib.hid (HB.out.trans (hb1.mono (by omega)))
  have hsz := hb1.size
  simp only [World.size_alloc] at hsz
  obtain ⟨c0, c1, c2, c3, c4, c5, c6, c7⟩ := r0.eight
  obtain ⟨d0, d1, d2, d3, d4, d5, d6, d7⟩ := r1.eight
  clear hb1 R0 R1 HB
  have S0 := Lib.hid r0
  have S1 := Lib.hid r1
  clear r0 r1
  go_wp2_with fail
  refine (HS.out _ (HU.out.same (sm HB1.out lo h1)) (HV.out.same (sm HB1.out lo' h2)) (by omega) (by omega)).mono ?_
  rintro e w2 ⟨rfl, hb2⟩
  have r0 := S0.out.below hb2 (by omega)
  have r1 := S1.out.below hb2 (by omega)
  have HB2 := Lib.hid (HB1.out.trans (hb2.mono (by omega)))
  clear c0 c1 c2 c3 c4 c5 c6 c7 d0 d1 d2 d3 d4 d5 d6 d7 hb2 S0 S1 HB1
  obtain ⟨c0, c1, c2, c3, c4, c5, c6, c7⟩ := r0.eight
  obtain ⟨d0, d1, d2, d3, d4, d5, d6, d7⟩ := r1.eight
  clear r0 r1
  go_wp2
  go_ret
  exact ⟨rfl, HB2.out⟩
end Go.Proofs.Ytgamoiagpglcmaa
/- The laws' helpers over tables of bad blocks: copies, comparisons. -/
namespace Go.Proofs.Ytgamoiagpglcmaa
open Go.RowKit
set_option linter.unusedVariables false
set_option linter.unusedSimpArgs false
end Go.Proofs.Ytgamoiagpglcmaa
