/- The proof's own lemmas, part 66: MbI MbZ. -/
import Derived.Test.YtainlanblpccjaaProg
import Derived.Test.YtainlanblpccjaaMg63
import Derived.Test.YtainlanblpccjaaMg64
import Derived.RegionTactic
import Derived.ChangeAlike
import Derived.Test.YtainlanblpccjaaMg58
import Derived.Test.YtainlanblpccjaaMg5
import Derived.Test.YtainlanblpccjaaMg53
/- MarkBadBlocks, in the program: the contract. -/
namespace Go.Proofs.Ytainlanblpccjaa
open Go.RowKit
set_option linter.unusedVariables false
set_option linter.unusedSimpArgs false
set_option maxHeartbeats 8000000 in
set_option maxRecDepth 100000 in
theorem implMb_any (u v : Value) (F : Fl) (T : Tb) (r q : Bool) (G : Fl) (cd : Int) (w : World) (hi : Nat) (h : FlIn w 0 hi u F) (hv : TbIn w hi v T) (hh : hi ≤ w.heap.size) (hr : r = true ↔ FlOk F) (hq : q = true ↔ TbOk T) (hg : MbIs F T r q G cd) (hl : FlLen F) (hz : TbSz T) (hW : TbW T) :
    Calls Try.prog 65 #[u, v] w (MbkPost G cd w) := by
  have HVF := Lib.hid (fun (W : World) (B : Below w.heap.size w W) => implValid_any u F r W 0 hi (h.same (sm B 0 hh)) (Nat.le_trans hh B.size) hr hl)
  have HVT := Lib.hid (fun (W : World) (B : Below w.heap.size w W) => implTbOk_any v T q W hi (hv.below B hh) (Nat.le_trans hh B.size) hq hz hW)
  have HCL := Lib.hid (fun (W : World) (B : Below w.heap.size w W) (o : FlOk F) => clone_any u F W 0 hi (h.same (sm B 0 hh)) (Nat.le_trans hh B.size) o)
  obtain ⟨uu, rfl, A, n, cap, rfl, hlc, hcm, hlen, _⟩ := h
  obtain ⟨va, vb, rfl, i1, i2⟩ := hv
  obtain ⟨B, m, bc, rfl, _, hmm, hmn, hB⟩ := i1
  obtain ⟨B2, m2, bc2, rfl⟩ := i2.slice
  obtain ⟨d, b, p, bs, fu, ke, off, op⟩ := F
  obtain ⟨td, tb, tp, ts, bad, rm⟩ := T
  unfold flc tbc at *
  simp only at *
  obtain ⟨r0, r1, r2, bb⟩ := Rw.three_new w 67 75 67 #[.int .i64 d, .int .i64 b, .int .i64 p, .slice A n cap, .int .i64 fu, .int .i64 ke, .bool off, .int .i64 op] #[.int .i64 td, .int .i64 tb, .int .i64 tp, .int .i64 ts, .slice B m bc, .slice B2 m2 bc2] #[.int .i64 0, .int .i64 0, .int .i64 0, .slice none 0 0, .int .i64 0, .int .i64 0, .bool false, .int .i64 0]
  obtain ⟨W0, hW0⟩ : ∃ W0, W0 = ((w.alloc (.cells #[.int .i64 d, .int .i64 b, .int .i64 p, .slice A n cap, .int .i64 fu, .int .i64 ke, .bool off, .int .i64 op] 67)).alloc (.cells #[.int .i64 td, .int .i64 tb, .int .i64 tp, .int .i64 ts, .slice B m bc, .slice B2 m2 bc2] 75)).alloc (.cells #[.int .i64 0, .int .i64 0, .int .i64 0, .slice none 0 0, .int .i64 0, .int .i64 0, .bool false, .int .i64 0] 67) := ⟨_, rfl⟩
  have hz0 : W0.heap.size = w.heap.size + 3 := by rw [hW0]; simp
  rw [← hW0] at r0 r1 r2 bb
  have KP := Lib.hid (fun (W : World) (bw : Below (w.heap.size + 3) W0 W) => show Rw W w.heap.size 67 #[.int .i64 d, .int .i64 b, .int .i64 p, .slice A n cap, .int .i64 fu, .int .i64 ke, .bool off, .int .i64 op] ∧ Rw W (w.heap.size + 1) 75 #[.int .i64 td, .int .i64 tb, .int .i64 tp, .int .i64 ts, .slice B m bc, .slice B2 m2 bc2] ∧ Rw W (w.heap.size + 1 + 1) 67 #[.int .i64 0, .int .i64 0, .int .i64 0, .slice none 0 0, .int .i64 0, .int .i64 0, .bool false, .int .i64 0] ∧ Below w.heap.size w W from
    ⟨r0.below bw (by omega), r1.below bw (by omega), r2.below bw (by omega), bb.trans (bw.mono (by omega))⟩)
  have BZ : Below (w.heap.size + 3) W0 W0 := Below.refl _ _
  have Z0 : w.heap.size + 3 ≤ W0.heap.size := by omega
  have HG := Lib.hid hg
  have HR := Lib.hid hr
  have HQ := Lib.hid hq
  have HH := Lib.hid hh
  have HB := Lib.hid hB
  have HLN := Lib.hid hlen
  have HMN := Lib.hid hmn
  have hmI : (m : Int) ≤ 9223372036854775807 := by omega
  obtain ⟨q0, q1, q2, q3, q4, q5, q6, q7⟩ := r0.eight
  clear r0 r1 r2 bb hz0 hg hr hq hh hB hlen hmn hl hz hW hmm hcm hlc i2
  go_enter Try.func65, Try.ntmps65
  go_wp2_with fail
  rw [← hW0]
  clear hW0 q0 q1 q2 q3 q4 q5 q6 q7
  refine (HVF.out _ (KP.out _ BZ).2.2.2).mono ?_
  rintro e w1 ⟨rfl, bq⟩
  have B1 := BZ.trans (bq.mono Z0)
  have Z1 := Nat.le_trans Z0 bq.size
  clear bq HVF
  cases r with
  | false =>
    obtain ⟨hG, hc⟩ : G = Fl.zero ∧ cd = 1 := by
      rcases HG.out with ⟨e, x, c⟩ | ⟨e, k, x, c⟩ | ⟨e, k, n, x, c⟩ | ⟨e, k, n, x, c⟩
      all_goals first
        | exact ⟨x, c⟩
        | (exfalso; cases e)
    subst hc
    have HGG := Lib.hid hG
    clear hG HG
    clear HVT HCL HR HQ HB HLN HMN
    have R9 := Lib.hid (KP.out _ B1).2.2.1
    have L9 := Lib.hid (KP.out _ B1).2.2.2
    obtain ⟨d0, d1, d2, d3, d4, d5, d6, d7⟩ := R9.out.eight
    obtain ⟨f0, f1, f2, f3, f4, f5, f6, f7⟩ := R9.out.frees
    go_wp2
    refine bodyPost_ret (results_row_tmp Try.results65 _ _ _ _ #[.int .i64 0, .int .i64 0, .int .i64 0, .slice none 0 0, .int .i64 0, .int .i64 0, .bool false, .int .i64 0] _ _ rfl ((((((((R9.out.set_ 0 _).set_ 1 _).set_ 2 _).set_ 3 _).set_ 4 _).set_ 5 _).set_ 6 _).set_ 7 _) Try.underlying67 rfl infoFl) rfl ⟨_, rfl, by rw [HGG.out]; exact FlOwn.zero _ _ _, ?_⟩
    repeat refine bset ?_ (by omega) _
    exact L9.out
  | true =>
    have HOK := Lib.hid (HR.out.1 rfl)
    obtain ⟨q0, q1, q2, q3, q4, q5⟩ := (KP.out _ B1).2.1.six
    go_wp2_with fail
    refine (HVT.out _ (KP.out _ B1).2.2.2).mono ?_
    rintro e w2 ⟨rfl, bq⟩
    have B2 := B1.trans (bq.mono Z1)
    have Z2 := Nat.le_trans Z1 bq.size
    clear bq HVT q0 q1 q2 q3 q4 q5
    cases q with
    | false =>
      obtain ⟨hG, hc⟩ : G = Fl.zero ∧ cd = 1 := by
        rcases HG.out with ⟨e, x, c⟩ | ⟨e, k, x, c⟩ | ⟨e, k, n, x, c⟩ | ⟨e, k, n, x, c⟩
        all_goals first
          | exact ⟨x, c⟩
          | (exfalso; first | (cases e; done) | (cases k; done))
      subst hc
      have HGG := Lib.hid hG
      clear hG HG
      clear HCL HR HQ HB HLN HMN HOK
      have R9 := Lib.hid (KP.out _ B2).2.2.1
      have L9 := Lib.hid (KP.out _ B2).2.2.2
      obtain ⟨d0, d1, d2, d3, d4, d5, d6, d7⟩ := R9.out.eight
      obtain ⟨f0, f1, f2, f3, f4, f5, f6, f7⟩ := R9.out.frees
      go_wp2
      refine bodyPost_ret (results_row_tmp Try.results65 _ _ _ _ #[.int .i64 0, .int .i64 0, .int .i64 0, .slice none 0 0, .int .i64 0, .int .i64 0, .bool false, .int .i64 0] _ _ rfl ((((((((R9.out.set_ 0 _).set_ 1 _).set_ 2 _).set_ 3 _).set_ 4 _).set_ 5 _).set_ 6 _).set_ 7 _) Try.underlying67 rfl infoFl) rfl ⟨_, rfl, by rw [HGG.out]; exact FlOwn.zero _ _ _, ?_⟩
      repeat refine bset ?_ (by omega) _
      exact L9.out
    | true =>
      have HTK := Lib.hid (HQ.out.1 rfl)
      obtain ⟨q0, q1, q2, q3, q4, q5⟩ := (KP.out _ B2).2.1.six
      obtain ⟨p0, p1, p2, p3, p4, p5, p6, p7⟩ := (KP.out _ B2).1.eight
      by_cases hgeo : d = td ∧ b = tb ∧ p = tp
      case neg =>
        have hgt := Lib.hid hgeo
        clear hgeo
        obtain ⟨hG, hc⟩ : G = Fl.zero ∧ cd = 5 := by
          rcases HG.out with ⟨e, x, c⟩ | ⟨e, k, x, c⟩ | ⟨e, k, n, x, c⟩ | ⟨e, k, n, x, c⟩
          all_goals first
            | exact ⟨x, c⟩
            | (exfalso; first | (cases e; done) | (cases k; done) | exact hgt.out n)
        subst hc
        have HGG := Lib.hid hG
        clear hG HG
        clear HCL HR HQ HB HLN HMN HOK HTK
        have R9 := Lib.hid (KP.out _ B2).2.2.1
        have L9 := Lib.hid (KP.out _ B2).2.2.2
        obtain ⟨d0, d1, d2, d3, d4, d5, d6, d7⟩ := R9.out.eight
        obtain ⟨f0, f1, f2, f3, f4, f5, f6, f7⟩ := R9.out.frees
        go_wp2
        all_goals first
          | exact absurd ⟨by first | assumption | rfl, by first | assumption | rfl, by first | assumption | rfl⟩ hgt.out
          | (refine bodyPost_ret (results_row_tmp Try.results65 _ _ _ _ #[.int .i64 0, .int .i64 0, .int .i64 0, .slice none 0 0, .int .i64 0, .int .i64 0, .bool false, .int .i64 0] _ _ rfl ((((((((R9.out.set_ 0 _).set_ 1 _).set_ 2 _).set_ 3 _).set_ 4 _).set_ 5 _).set_ 6 _).set_ 7 _) Try.underlying67 rfl infoFl) rfl ⟨_, rfl, by rw [HGG.out]; exact FlOwn.zero _ _ _, ?_⟩
             repeat refine bset ?_ (by omega) _
             exact L9.out)
      obtain ⟨rfl, rfl, rfl⟩ := hgeo
      obtain ⟨hG, hc⟩ : G = (Fl.mk d b p bs fu ke off op).mark bad ∧ cd = 0 := by
        rcases HG.out with ⟨e, x, c⟩ | ⟨e, k, x, c⟩ | ⟨e, k, n, x, c⟩ | ⟨e, k, n, x, c⟩
        all_goals first
          | exact ⟨x, c⟩
          | (exfalso; first | (cases e; done) | (cases k; done) | exact n ⟨rfl, rfl, rfl⟩)
      subst hc
      have HGG := Lib.hid hG
      clear hG HG
      go_wp2_with fail
      refine (HCL.out _ (KP.out _ B2).2.2.2 HOK.out).mono ?_
      rintro e w3 ⟨u3, rfl, ⟨uu, rfl, A3, n3, c3, rfl, hlc3, hcm3, hl3, hO3⟩, bq⟩
      clear q0 q1 q2 q3 q4 q5 p0 p1 p2 p3 p4 p5 p6 p7 HCL
      have B3 := B2.trans (bq.mono Z2)
      have Z3 := Nat.le_trans Z2 bq.size
      have h8 := HOK.out.len
      simp only at h8 hl3
      obtain ⟨gB, pv, rfl, bo⟩ := hO3 (by omega)
      unfold flc
      simp only
      obtain ⟨lo, hlo⟩ : ∃ l, l = w2.heap.size := ⟨_, rfl⟩
      rw [← hlo] at bo
      obtain ⟨X, hX⟩ : ∃ X, X = w3.alloc (.cells #[.int .i64 d, .int .i64 b, .int .i64 p, .slice (some ⟨gB, 0, none⟩) n3 c3, .int .i64 fu, .int .i64 ke, .bool off, .int .i64 op] 67) := ⟨_, rfl⟩
      have bx : Below w3.heap.size w3 X := by rw [hX]; exact (Below.refl _ w3).alloc (Nat.le_refl _) _
      have t8 : Rw X w3.heap.size 67 #[.int .i64 d, .int .i64 b, .int .i64 p, .slice (some ⟨gB, 0, none⟩) n3 c3, .int .i64 fu, .int .i64 ke, .bool off, .int .i64 op] := by rw [hX]; exact Rw.new w3 _ _
      have B4 := B3.trans (bx.mono Z3)
      have boX := bo.same (sm bx lo (Nat.le_refl _))
      obtain ⟨g8, h8⟩ : ∃ g, g = w3.heap.size := ⟨_, rfl⟩
      rw [← h8] at t8 boX
      have hlz : w.heap.size + 3 ≤ lo := by rw [hlo]; exact Z2
      have hgz : g8 < X.heap.size := t8.lt
      have hn36 : n3 ≤ 36 := by omega
      have HN3 := Lib.hid hl3
      have HM := Lib.hid (fun (i : Nat) (hi : i < m) => show 0 ≤ bad.getD i 0 ∧ bad.getD i 0 < (n3 : Int) from by
        have h1 := (HTK.out.1.2.2.2 i (by have := HMN.out; show i < bad.length; omega)).1
        have h2 := HOK.out.2.1
        simp only at h1 h2
        omega)
      have HHI := Lib.hid (fun (W : World) (bw : Below w.heap.size w W) (i : Nat) (him : i < m) => show ∃ pb po, B = some ⟨pb, po, none⟩ ∧ W.cell? ⟨pb, po + i, none⟩ = some (.int .i64 (bad.getD i 0)) from by
        obtain ⟨pb, po, e, hpb, hx⟩ := HB.out (by omega)
        exact ⟨pb, po, e, (bw.cell (p := ⟨pb, po + i, none⟩) (by show pb < _; have := HH.out; omega)).trans (hx i him)⟩)
      obtain ⟨xz, hxz⟩ : ∃ z, z = X.heap.size := ⟨_, rfl⟩
      have S0 := Lib.hid (show BO X lo g8 gB pv (markBs bs (bad.take 0)) ∧ Rw X g8 67 #[.int .i64 d, .int .i64 b, .int .i64 p, .slice (some ⟨gB, 0, none⟩) n3 c3, .int .i64 fu, .int .i64 ke, .bool off, .int .i64 op] ∧ Below (w.heap.size + 3) W0 X ∧ X.heap.size = xz from ⟨boX, t8, B4, hxz.symm⟩)
      have hgl := boX.low
      have hgh := boX.high
      have hmb : (m : Int) < 9223372036854775807 := by
        have := HTK.out.1.2.2.2
        have h3 := rises_len this
        have h4 := HMN.out
        have h5 := HOK.out.2.1
        simp only at h3 h4 h5
        omega
      have hlc4 : n3 ≤ c3 := hlc3
      rw [← hxz] at hgz
      have HXZ := Lib.hid hxz
      clear boX t8 bo bx HR HQ hO3 hlo bq hxz
      go_upto_region 6 with fail
      rw [← hX, ← h8]
      clear hX h8
      obtain ⟨q0, q1, q2, q3, q4, q5⟩ := (KP.out _ S0.out.2.2.1).2.1.six
      go_wp2_with fail
      clear q0 q1 q2 q3 q4 q5
      go_loopw [29] (fun kk wr => ∃ k : Nat, k ≤ m ∧ kk = .int .i64 (k : Int) ∧ Hid (BO wr lo g8 gB pv (markBs bs (bad.take k)) ∧ Rw wr g8 67 #[.int .i64 d, .int .i64 b, .int .i64 p, .slice (some ⟨gB, 0, none⟩) n3 c3, .int .i64 fu, .int .i64 ke, .bool off, .int .i64 op] ∧ Below (w.heap.size + 3) W0 wr ∧ wr.heap.size = xz)) (fun kk _ => m - (intOf kk).toNat)
      case atStart => exact ⟨0, by omega, rfl, S0⟩
      case round =>
        clear S0
        obtain ⟨k, hk, rfl, S1⟩ := hrel
        obtain ⟨q0, q1, q2, q3, q4, q5⟩ := (KP.out _ S1.out.2.2.1).2.1.six
        by_cases hlt : k < m
        · have hki : (k : Int) < (m : Int) := by omega
          obtain ⟨pb, po, rfl, hcell⟩ := HHI.out _ (KP.out _ S1.out.2.2.1).2.2.2 k hlt
          have hx := HM.out k hlt
          obtain ⟨x, hxx⟩ : ∃ x : Nat, bad.getD k 0 = (x : Int) := ⟨(bad.getD k 0).toNat, by omega⟩
          have HTA := Lib.hid (show markBs bs (bad.take (k + 1)) = markOne (markBs bs (bad.take k)) (x : Int) by rw [markBs_take bs bad k (by have := HMN.out; omega), hxx])
          rw [hxx] at hcell hx
          have hxn : x < n3 := by omega
          have hxI : (x : Int) < (n3 : Int) := by omega
          have hx0 : (0 : Int) ≤ (x : Int) := by omega
          clear hxx hx
          obtain ⟨t0, t1, t2, t3, t4, t5, t6, t7⟩ := S1.out.2.1.eight
          have hlx : x < (markBs bs (bad.take k)).length := by rw [markBs_length]; have := HN3.out; omega
          have cB := (S1.out.1.row x hlx).2.2.1
          have fB := S1.out.1.free (x * 4 + 2)
          have boN := S1.out.1.store (c := 2) hlx (.bool true) (.inr (.inr ⟨rfl, _, rfl⟩))
          have tN := S1.out.2.1.farA (g' := gB) (k := x * 4 + 2) (by omega) (.bool true)
          have bN := bset S1.out.2.2.1 (g := gB) (k := x * 4 + 2) (by omega) (.bool true)
          have zN : (wr.setCell ⟨gB, x * 4 + 2, none⟩ (.bool true)).heap.size = xz := by simpa using S1.out.2.2.2
          have SN := Lib.hid (And.intro (show BO (wr.setCell ⟨gB, x * 4 + 2, none⟩ (.bool true)) lo g8 gB pv (markBs bs (bad.take (k + 1))) from by rw [HTA.out]; unfold markOne; simpa using boN) (And.intro tN (And.intro bN zN)))
          clear hlx boN tN bN zN HTA
          go_wp2
          go_roundw
          case rel => exact ⟨k + 1, by omega, by go_num, SN⟩
          case measure => simp [intOf]; omega
        · obtain rfl : k = m := by omega
          have S2 := Lib.hid (show BO wr lo g8 gB pv (markBs bs bad) from by have := S1.out.1; rwa [List.take_of_length_le (by have := HMN.out; omega)] at this)
          obtain ⟨t0, t1, t2, t3, t4, t5, t6, t7⟩ := S1.out.2.1.eight
          have R9 := Lib.hid (KP.out _ S1.out.2.2.1).2.2.1
          have L9 := Lib.hid (KP.out _ S1.out.2.2.1).2.2.2
          have HZW := Lib.hid S1.out.2.2.2
          obtain ⟨d0, d1, d2, d3, d4, d5, d6, d7⟩ := R9.out.eight
          obtain ⟨f0, f1, f2, f3, f4, f5, f6, f7⟩ := R9.out.frees
          clear hlt
          go_wp2
          refine bodyPost_ret (results_row_tmp Try.results65 _ _ _ _ #[.int .i64 d, .int .i64 b, .int .i64 p, .slice (some ⟨gB, 0, none⟩) n3 c3, .int .i64 fu, .int .i64 ke, .bool off, .int .i64 op] _ _ rfl ((((((((R9.out.set_ 0 _).set_ 1 _).set_ 2 _).set_ 3 _).set_ 4 _).set_ 5 _).set_ 6 _).set_ 7 _) Try.underlying67 rfl infoFl) rfl ⟨_, rfl, ?_, ?_⟩
          · rw [HGG.out]
            refine ⟨.slice (some ⟨gB, 0, none⟩) n3 c3, rfl, _, _, _, rfl, hlc4, hcm3, by show (markBs bs bad).length = n3; rw [markBs_length]; exact HN3.out, fun _ => ⟨gB, pv, rfl, ?_⟩⟩
            refine BO.wide (lo := lo) (hi := g8) ?_ (by omega) (by have := HZW.out; simp; omega)
            refine S2.out.same (fun j h1 h2 => ?_)
            repeat rw [Below.heap_setCell _ ⟨_, _, none⟩ _ j (by simp; omega)]
          · repeat refine bset ?_ (by omega) _
            exact L9.out
end Go.Proofs.Ytainlanblpccjaa
/- Sizes of a marked array; names for a world. -/
namespace Go.Proofs.Ytainlanblpccjaa
open Go.RowKit
set_option linter.unusedVariables false
theorem nameW {P : World → Prop} {W : World} (h : P W) : ∃ v, v = W := ⟨W, rfl⟩
theorem FxIn.wid {w : World} {hi hi' : Nat} {v : Value} {F : Fl} (h : FxIn w hi v F) (hh : hi ≤ hi') : FxIn w hi' v F := FlIn.wide h (Nat.le_refl _) hh
theorem FxOwn.wid {w : World} {lo hi lo' hi' : Nat} {v : Value} {F : Fl} (h : FxOwn w lo hi v F) (hl : lo' ≤ lo) (hh : hi ≤ hi') : FxOwn w lo' hi' v F := FlOwn.wide h hl hh
theorem szB_mark (L : List Blk) (l : List Int) : szB (markBs L l) = szB L := by
  have h : ∀ L M : List Blk, L.length = M.length → (∀ i, (L.getD i Blk.zero).pg = (M.getD i Blk.zero).pg) → szB L = szB M := by
    intro L
    induction L with
    | nil => intro M hl _; cases M with
      | nil => rfl
      | cons y M => simp at hl
    | cons x L ih =>
      intro M hl hp
      cases M with
      | nil => simp at hl
      | cons y M =>
        have h0 := hp 0
        have hr := ih M (by simpa using hl) (fun i => by have := hp (i + 1); simpa using this)
        simp only [List.getD_cons_zero] at h0
        unfold szB
        rw [h0, hr]
  exact h _ _ (markBs_length L l) (markBs_pg L l)
theorem mbIs_sz {F : Fl} {T : Tb} {r q : Bool} {G : Fl} {c : Int} (h : MbIs F T r q G c) (z : FxSz F) : FxSz G := by
  unfold FxSz at *
  rcases h with ⟨_, rfl, _⟩ | ⟨_, _, rfl, _⟩ | ⟨_, _, _, rfl, _⟩ | ⟨_, _, _, rfl, _⟩
  · simp [Fl.zero, szB]
  · simp [Fl.zero, szB]
  · simp [Fl.zero, szB]
  · show (markBs F.bs T.bad).length + szB (markBs F.bs T.bad) ≤ _
    rw [markBs_length, szB_mark]; exact z
end Go.Proofs.Ytainlanblpccjaa
