/- The proof's own lemmas, part 53: FlW. -/
import Derived.Test.YtainlanblpccjaaProg
import Derived.Test.YtainlanblpccjaaMg51
import Derived.Deep.RegionHeld3
import Derived.Test.YtainlanblpccjaaMg13
/- Valid arrays, in the model and in the program: the contracts. -/
namespace Go.Proofs.Ytainlanblpccjaa
open Go.RowKit
set_option linter.unusedVariables false
set_option linter.unusedSimpArgs false

/-- Not too many blocks and pages. -/
def FlLen (F : Fl) : Prop := F.bs.length ≤ 1048576 ∧ ∀ i, i < F.bs.length → (F.blk i).pg.length ≤ 1048576
theorem FlOk.lens {F : Fl} (h : FlOk F) : FlLen F := ⟨by have := h.len; omega, fun i hi => by have := h.plen hi; omega⟩
def GateOk (F : Fl) : Prop := GeoOk F.d F.b F.p ∧ (F.bs.length : Int) = F.d * F.b ∧ (-1 ≤ F.fu ∧ F.fu ≤ 1000000) ∧ (0 ≤ F.ke ∧ F.ke ≤ 91) ∧ 0 ≤ F.op
theorem flOk_iff (F : Fl) : FlOk F ↔ GateOk F ∧ ∀ i, i < F.bs.length → BlkOk F.p (F.blk i) := by
  unfold FlOk GateOk
  constructor
  · rintro ⟨a, b, c, d, e, f⟩; exact ⟨⟨a, b, d, e, f⟩, c⟩
  · rintro ⟨⟨a, b, d, e, f⟩, c⟩; exact ⟨a, b, c, d, e, f⟩
theorem prop_dec (P : Prop) : ∃ b : Bool, b = true ↔ P := by
  by_cases h : P
  · exact ⟨true, by simp [h]⟩
  · exact ⟨false, by simp [h]⟩
set_option maxRecDepth 100000 in
theorem specValid_any (v : Value) (F : Fl) (r : Bool) (w : World) (lo hi : Nat) (h : FlIn w lo hi v F) (hh : hi ≤ w.heap.size) (hr : r = true ↔ FlOk F) (hl : FlLen F) :
    Calls Try.prog 117 #[v] w (BoolPost r w) := by
  obtain ⟨u, rfl, h⟩ := h
  rw [flOk_iff] at hr
  obtain ⟨d, b, p, bs, fu, ke, off, op⟩ := F
  obtain ⟨A, n, cap, rfl, hlc, hcm, hlen, hA⟩ := h
  obtain ⟨hl1, hl2⟩ := hl
  unfold flc
  simp only at hl1 hl2 hlen hA
  rw [hlen] at hl1
  have hnm : (n : Int) ≤ 1048576 := by omega
  have r0 := Rw.new w 67 #[.int .i64 d, .int .i64 b, .int .i64 p, .slice A n cap, .int .i64 fu, .int .i64 ke, .bool off, .int .i64 op]
  have hb0 := (Below.refl w.heap.size w).alloc (Nat.le_refl _) (.cells #[.int .i64 d, .int .i64 b, .int .i64 p, .slice A n cap, .int .i64 fu, .int .i64 ke, .bool off, .int .i64 op] 67)
  have HB0 := Lib.hid hb0
  obtain ⟨hy, hn⟩ := bool_of r hr
  obtain ⟨rg, hrg⟩ := prop_dec (GeoOk d b p)
  have HG := Lib.hid (fun (W : World) => specGeo_any d b p rg W hrg)
  have hsz0 : (w.alloc (.cells #[.int .i64 d, .int .i64 b, .int .i64 p, .slice A n cap, .int .i64 fu, .int .i64 ke, .bool off, .int .i64 op] 67)).heap.size = w.heap.size + 1 := by simp
  have R0 := Lib.hid r0
  by_cases hg : GeoOk d b p
  case neg =>
    obtain rfl : rg = false := (bool_of rg hrg).2 hg
    obtain rfl : r = false := hn (fun k => hg k.1.1)
    clear hr hy hn hrg hA hl2 hb0 r0
    go_enter Try.func117, Try.ntmps117
    go_wp2_with fail
    refine (HG.out _).mono ?_
    rintro e w1 ⟨rfl, b1⟩
    have HB1 := Lib.hid (HB0.out.trans (b1.mono (by simp)))
    obtain ⟨c0, c1, c2, c3, c4, c5, c6, c7⟩ := (R0.out.below b1 (by simp)).eight
    clear b1
    go_wp2
    go_ret
    exact ⟨rfl, HB1.out⟩
  obtain rfl : rg = true := (bool_of rg hrg).1 hg
  obtain ⟨m1, m2⟩ := hg.mul
  have HGE := Lib.hid hg
  generalize hq : d * b = q at *
  by_cases gate : (n : Int) = q ∧ (-1 ≤ fu ∧ fu ≤ 1000000) ∧ (0 ≤ ke ∧ ke ≤ 91) ∧ 0 ≤ op
  case neg =>
    obtain rfl : r = false := hn (fun k => gate ⟨by have := k.1.2.1; simp only at this; rw [hlen, hq] at this; exact this, k.1.2.2⟩)
    clear hr hy hn hrg hA hl2 hb0 r0
    go_enter Try.func117, Try.ntmps117
    go_wp2_with fail
    refine (HG.out _).mono ?_
    rintro e w1 ⟨rfl, b1⟩
    have HB1 := Lib.hid (HB0.out.trans (b1.mono (by simp)))
    obtain ⟨c0, c1, c2, c3, c4, c5, c6, c7⟩ := (R0.out.below b1 (by simp)).eight
    clear b1
    by_cases g1 : (n : Int) = q
    · have e1 : ((n : Int) != q) = false := by simp [g1]
      by_cases g2 : -1 ≤ fu ∧ fu ≤ 1000000
      · have k2 := Lib.hid (fun (W : World) => inr_yes fu (-1) 1000000 W g2.1 g2.2)
        by_cases g3 : 0 ≤ ke ∧ ke ≤ 91
        · have k3 := Lib.hid (fun (W : World) => inr_yes ke 0 91 W g3.1 g3.2)
          have g4 : op < 0 := by
            by_cases k : op < 0
            · exact k
            · exact absurd ⟨g1, g2, g3, by omega⟩ gate
          clear gate g2 g3
          go_wp2_with fail
          refine (k2.out _).mono ?_
          rintro e w2 ⟨rfl, rfl⟩
          go_wp2_with fail
          refine (k3.out _).mono ?_
          rintro e w2 ⟨rfl, rfl⟩
          go_wp2
          go_ret
          exact ⟨rfl, HB1.out⟩
        · have k3 := Lib.hid (fun (W : World) => inr_no ke 0 91 W g3)
          clear gate g2 g3
          go_wp2_with fail
          refine (k2.out _).mono ?_
          rintro e w2 ⟨rfl, rfl⟩
          go_wp2_with fail
          refine (k3.out _).mono ?_
          rintro e w2 ⟨rfl, rfl⟩
          go_wp2
          go_ret
          exact ⟨rfl, HB1.out⟩
      · have k2 := Lib.hid (fun (W : World) => inr_no fu (-1) 1000000 W g2)
        clear gate g2
        go_wp2_with fail
        refine (k2.out _).mono ?_
        rintro e w2 ⟨rfl, rfl⟩
        go_wp2
        go_ret
        exact ⟨rfl, HB1.out⟩
    · have e1 : ((n : Int) != q) = true := bne_iff_ne.2 g1
      clear gate
      go_wp2
      go_ret
      exact ⟨rfl, HB1.out⟩
  obtain ⟨g1, g2, g3, g4⟩ := gate
  have HR := Lib.hid (show r = true ↔ ∀ i, i < n → BlkOk p (bs.getD i Blk.zero) from by
    rw [hr]
    constructor
    · rintro ⟨_, k⟩ i hi
      exact k i (by show i < bs.length; omega)
    · intro k
      exact ⟨⟨HGE.out, by show (bs.length : Int) = d * b; rw [hlen, hq]; exact g1, g2, g3, g4⟩, fun i hi => k i (by have : i < bs.length := hi; omega)⟩)
  have k2 := Lib.hid (fun (W : World) => inr_yes fu (-1) 1000000 W g2.1 g2.2)
  have k3 := Lib.hid (fun (W : World) => inr_yes ke 0 91 W g3.1 g3.2)
  have e1 : ((n : Int) != q) = false := by simp [g1]
  have hn0 : 0 < n := by omega
  obtain ⟨g, o, rfl, hg1, hg2, hx⟩ := hA hn0
  have HX := Lib.hid hx
  have HL2 := Lib.hid (show ∀ i, i < n → (bs.getD i Blk.zero).pg.length ≤ 1048576 from fun i hi => hl2 i (by show i < bs.length; omega))
  have g5 : ¬ op < 0 := by omega
  clear hr hy hn hrg hA hl2 hb0 r0 hx g2 g3 hg
  go_enter Try.func117, Try.ntmps117
  go_wp2_with fail
  refine (HG.out _).mono ?_
  rintro e w1 ⟨rfl, b1⟩
  have HB1 := Lib.hid (HB0.out.trans (b1.mono (by simp)))
  have R1 := Lib.hid (R0.out.below b1 (by simp))
  obtain ⟨c0, c1, c2, c3, c4, c5, c6, c7⟩ := R1.out.eight
  clear b1
  go_wp2_with fail
  refine (k2.out _).mono ?_
  rintro e w2 ⟨rfl, rfl⟩
  go_wp2_with fail
  refine (k3.out _).mono ?_
  rintro e w2 ⟨rfl, rfl⟩
  go_wp2_with fail
  go_loopw [3] (fun i wr => ∃ k : Nat, k ≤ n ∧ i = .int .i64 k ∧ Hid (∀ j, j < k → BlkOk p (bs.getD j Blk.zero)) ∧ Below w.heap.size w wr ∧ Hid (Rw wr w.heap.size 67 #[.int .i64 d, .int .i64 b, .int .i64 p, .slice (some ⟨g, o, none⟩) n cap, .int .i64 fu, .int .i64 ke, .bool off, .int .i64 op])) (fun i _ => n - (intOf i).toNat)
  case atStart => exact ⟨0, by omega, rfl, Lib.hid (fun j hj => by omega), HB1.out, R1⟩
  case round =>
    clear c0 c1 c2 c3 c4 c5 c6 c7
    obtain ⟨k, hk, rfl, HA, hb, RR⟩ := hrel
    obtain ⟨c0, c1, c2, c3, c4, c5, c6, c7⟩ := RR.out.eight
    by_cases hlt : k < n
    · have hki : (k : Int) < (n : Int) := by omega
      obtain ⟨pu, ⟨d0, d1, d2, d3⟩, hpu⟩ := HX.out k hlt
      have q0 := (hb.cell (p := ⟨g, o + k * 4, none⟩) (by simp; omega)).trans d0
      have q1 := (hb.cell (p := ⟨g, o + k * 4 + 1, none⟩) (by simp; omega)).trans d1
      have q2 := (hb.cell (p := ⟨g, o + k * 4 + 2, none⟩) (by simp; omega)).trans d2
      have q3 := (hb.cell (p := ⟨g, o + k * 4 + 3, none⟩) (by simp; omega)).trans d3
      have HU := Lib.hid (hpu.same (sm hb lo hh))
      have hsz := hb.size
      have HQ := HL2.out k hlt
      have HB := Lib.hid hb
      have HY := Lib.hid (show ∀ y, y = bs.getD k Blk.zero → BlkOk p y → ∀ j, j < k + 1 → BlkOk p (bs.getD j Blk.zero) from fun y hy ho j hj => by
        by_cases e : j = k
        · rw [e, ← hy]; exact ho
        · exact HA.out j (by omega))
      have HZ := Lib.hid (show ∀ y, y = bs.getD k Blk.zero → ¬ BlkOk p y → r = false from fun y hy ho => by
        cases r with
        | false => rfl
        | true => exact absurd (HR.out.1 rfl k hlt) (by rw [← hy]; exact ho))
      generalize bs.getD k Blk.zero = y at *
      obtain ⟨rb, hrb⟩ := prop_dec (BlkOk p y)
      have HC := Lib.hid (fun (W : World) (a : PgIn W lo hi pu y.pg) (c : hi ≤ W.heap.size) => specBlk_any y pu p rb W lo hi a c hrb HQ)
      by_cases hbk : BlkOk p y
      · obtain rfl : rb = true := hrb.2 hbk
        have HD := Lib.hid (HY.out y rfl hbk)
        clear d0 d1 d2 d3 hpu hb hrb hbk HZ HY
        go_wp2_with fail
        go_still_tail 8, (by kernel_rfl)
        change wpList _ _ _ _ _ wr.drew
        go_wp2_with fail
        refine (HC.out _ (show PgIn wr.drew lo hi pu y.pg from HU.out) (by simp; omega)).mono ?_
        rintro e w2 ⟨rfl, b2⟩
        have HB2 := Lib.hid (HB.out.drew.trans (b2.mono (by simpa using hsz)))
        have R2 := Lib.hid (Rw.below (show Rw wr.drew _ _ _ from RR.out) b2 RR.out.lt)
        clear b2 HB RR c0 c1 c2 c3 c4 c5 c6 c7 q0 q1 q2 q3
        go_wp2
        go_roundw
        case rel => exact ⟨k + 1, by omega, by go_num, HD, HB2.out, R2⟩
        case measure => simp [intOf]; omega
      · obtain rfl : rb = false := (bool_of rb hrb).2 hbk
        have HF := Lib.hid (HZ.out y rfl hbk)
        clear d0 d1 d2 d3 hpu hb hrb hbk HZ HY
        go_wp2_with fail
        go_still_tail 8, (by kernel_rfl)
        change wpList _ _ _ _ _ wr.drew
        go_wp2_with fail
        refine (HC.out _ (show PgIn wr.drew lo hi pu y.pg from HU.out) (by simp; omega)).mono ?_
        rintro e w2 ⟨rfl, b2⟩
        have HB2 := Lib.hid (HB.out.drew.trans (b2.mono (by simpa using hsz)))
        clear b2 HB RR c0 c1 c2 c3 c4 c5 c6 c7 q0 q1 q2 q3
        go_wp2
        go_ret
        exact ⟨by rw [HF.out]; rfl, HB2.out⟩
    · obtain rfl : k = n := by omega
      have HT := Lib.hid (HR.out.2 HA.out)
      go_wp2
      go_ret
      exact ⟨by rw [HT.out]; rfl, hb⟩
theorem validFuse_any (k : Int) (b : Bool) (w : World) (hb : b = true ↔ (-1 ≤ k ∧ k ≤ 1000000)) : Calls Try.prog 185 #[.int .i64 k] w fun e w' => e = .returned (.bool b) ∧ w = w' := by
  by_cases h1 : -1 ≤ k
  · have d1 : decide (-1 ≤ k) = true := by simp; omega
    have d2 : decide (k ≥ -1) = true := by simp; omega
    go_enter Try.func185, Try.ntmps185
    go_wp2
    go_ret
    exact ⟨ret_bool (by rw [Bool.eq_iff_iff, hb]; simp; omega), rfl⟩
  · have d1 : decide (-1 ≤ k) = false := by simp; omega
    have d2 : decide (k ≥ -1) = false := by simp; omega
    go_enter Try.func185, Try.ntmps185
    go_wp2
    go_ret
    exact ⟨ret_bool (by rw [Bool.eq_iff_iff, hb]; simp; omega), rfl⟩
set_option maxRecDepth 100000 in
set_option maxHeartbeats 4000000 in
theorem implValid_any (v : Value) (F : Fl) (r : Bool) (w : World) (lo hi : Nat) (h : FlIn w lo hi v F) (hh : hi ≤ w.heap.size) (hr : r = true ↔ FlOk F) (hl : FlLen F) :
    Calls Try.prog 123 #[v] w (BoolPost r w) := by
  obtain ⟨u, rfl, h⟩ := h
  rw [flOk_iff] at hr
  obtain ⟨d, b, p, bs, fu, ke, off, op⟩ := F
  obtain ⟨A, n, cap, rfl, hlc, hcm, hlen, hA⟩ := h
  obtain ⟨hl1, hl2⟩ := hl
  unfold flc
  simp only at hl1 hl2 hlen hA
  rw [hlen] at hl1
  have hnm : (n : Int) ≤ 1048576 := by omega
  have r0 := Rw.new w 67 #[.int .i64 d, .int .i64 b, .int .i64 p, .slice A n cap, .int .i64 fu, .int .i64 ke, .bool off, .int .i64 op]
  have hb0 := (Below.refl w.heap.size w).alloc (Nat.le_refl _) (.cells #[.int .i64 d, .int .i64 b, .int .i64 p, .slice A n cap, .int .i64 fu, .int .i64 ke, .bool off, .int .i64 op] 67)
  have HB0 := Lib.hid hb0
  obtain ⟨hy, hn⟩ := bool_of r hr
  obtain ⟨rg, hrg⟩ := prop_dec (GeoOk d b p)
  have HG := Lib.hid (fun (W : World) => implGeo_any d b p rg W hrg)
  have R0 := Lib.hid r0
  obtain ⟨C, hC⟩ : ∃ C : World → Prop, C = fun W => Rw W w.heap.size 67 #[.int .i64 d, .int .i64 b, .int .i64 p, .slice A n cap, .int .i64 fu, .int .i64 ke, .bool off, .int .i64 op] ∧ Below w.heap.size w W := ⟨_, rfl⟩
  have HC1 := Lib.hid (fun (W : World) (h : C W) => show Rw W w.heap.size 67 #[.int .i64 d, .int .i64 b, .int .i64 p, .slice A n cap, .int .i64 fu, .int .i64 ke, .bool off, .int .i64 op] ∧ Below w.heap.size w W by rw [hC] at h; exact h)
  have HC3 := Lib.hid (fun (W W' : World) (h : C W) (b : Below W.heap.size W W') => show C W' by rw [hC] at h ⊢; exact ⟨h.1.below b h.1.lt, h.2.trans (b.mono h.2.size)⟩)
  have hc0 : C (w.alloc (.cells #[.int .i64 d, .int .i64 b, .int .i64 p, .slice A n cap, .int .i64 fu, .int .i64 ke, .bool off, .int .i64 op] 67)).drew := by rw [hC]; exact ⟨Rw.new w _ _, ((Below.refl w.heap.size w).alloc (Nat.le_refl _) _).drew⟩
  clear hC
  have HTOT := Lib.hid (fun (W : World) (hg : GeoOk d b p) => total_any d b p W hg)
  by_cases hg : GeoOk d b p
  case neg =>
    obtain rfl : rg = false := (bool_of rg hrg).2 hg
    have HF := Lib.hid (show r = false from hn (fun k => hg k.1.1))
    clear hr hy hn hrg hA hl2 hb0 r0
    go_enter Try.func123, Try.ntmps123
    go_wp2_with fail
    refine wp_region_own (by kernel_rfl) (by kernel_rfl) hc0 ?_
    repeat (first
      | go_big_quiet_skip
      | (go_big_quiet_want
         go_big_quiet_op
         first
           | go_big_quiet_on
           | (apply Exists.intro
              refine ⟨fun W hW => ?_, ?_⟩
              · (first
                  | rfl
                  | (go_at_call 135
                     refine (HG.out _).mono ?_
                     rintro e w1 ⟨rfl, b⟩
                     exact ⟨rfl, HC3.out _ _ hW b⟩)
                  | (obtain ⟨k0, k1, k2, k3, k4, k5, k6, k7⟩ := (HC1.out _ hW).1.eight
                     simp only [k0, k1, k2, k3, k4, k5, k6, k7, Result.andThen]
                     exact ⟨trivial, rfl⟩))
              go_big_quiet_on)))
    refine wpQuiet_nil ?_
    intro w1 hw1
    have HB1 := Lib.hid (HC1.out _ hw1).2
    clear hw1 hc0
    go_wp2
    go_ret
    exact ⟨ret_bool HF.out.symm, HB1.out⟩
  obtain rfl : rg = true := (bool_of rg hrg).1 hg
  obtain ⟨m1, m2⟩ := hg.mul
  have HGE := Lib.hid hg
  have HTOT' := Lib.hid (fun (W : World) => HTOT.out W hg)
  clear HTOT
  have HTOT := HTOT'
  clear HTOT'
  generalize hq : d * b = q at *
  by_cases g1 : (n : Int) = q
  case neg =>
    obtain rfl : r = false := hn (fun k => g1 (by have := k.1.2.1; simp only at this; rw [hlen, hq] at this; exact this))
    have e1 : ((n : Int) != q) = true := bne_iff_ne.2 g1
    clear hr hy hn hrg hA hl2 hb0 r0
    go_enter Try.func123, Try.ntmps123
    go_wp2_with fail
    refine wp_region_own (by kernel_rfl) (by kernel_rfl) hc0 ?_
    repeat (first
      | go_big_quiet_skip
      | (go_big_quiet_want
         go_big_quiet_op
         first
           | go_big_quiet_on
           | (apply Exists.intro
              refine ⟨fun W hW => ?_, ?_⟩
              · (first
                  | rfl
                  | (go_at_call 135
                     refine (HG.out _).mono ?_
                     rintro e w1 ⟨rfl, b⟩
                     exact ⟨rfl, HC3.out _ _ hW b⟩)
                  | (go_at_call 138
                     refine (HTOT.out _).mono ?_
                     rintro e w1 ⟨rfl, b⟩
                     exact ⟨rfl, HC3.out _ _ hW b⟩)
                  | (obtain ⟨k0, k1, k2, k3, k4, k5, k6, k7⟩ := (HC1.out _ hW).1.eight
                     simp only [k0, k1, k2, k3, k4, k5, k6, k7, Result.andThen]
                     exact ⟨trivial, rfl⟩))
              go_big_quiet_on)))
    refine wpQuiet_nil ?_
    intro w1 hw1
    have HB1 := Lib.hid (HC1.out _ hw1).2
    clear hw1 hc0
    go_wp2
    go_ret
    exact ⟨rfl, HB1.out⟩
  have HR := Lib.hid (show r = true ↔ ((-1 ≤ fu ∧ fu ≤ 1000000) ∧ (0 ≤ ke ∧ ke ≤ 91) ∧ 0 ≤ op) ∧ ∀ i, i < n → BlkOk p (bs.getD i Blk.zero) from by
    rw [hr]
    constructor
    · rintro ⟨k1, k⟩
      exact ⟨k1.2.2, fun i hi => k i (by show i < bs.length; omega)⟩
    · rintro ⟨k1, k⟩
      exact ⟨⟨HGE.out, by show (bs.length : Int) = d * b; rw [hlen, hq]; exact g1, k1⟩, fun i hi => k i (by have : i < bs.length := hi; omega)⟩)
  subst g1
  have e1 : ((n : Int) != (n : Int)) = false := by simp
  have hn0 : 0 < n := by omega
  obtain ⟨g, o, rfl, hg1, hg2, hx⟩ := hA hn0
  have HX := Lib.hid hx
  have HL2 := Lib.hid (show ∀ i, i < n → (bs.getD i Blk.zero).pg.length ≤ 1048576 from fun i hi => hl2 i (by show i < bs.length; omega))
  clear hr hy hn hrg hA hl2 hb0 r0 hx hg
  go_enter Try.func123, Try.ntmps123
  go_wp2_with fail
  refine wp_region_own (by kernel_rfl) (by kernel_rfl) hc0 ?_
  repeat (first
    | go_big_quiet_skip
    | (go_big_quiet_want
       go_big_quiet_op
       first
         | go_big_quiet_on
         | (apply Exists.intro
            refine ⟨fun W hW => ?_, ?_⟩
            · (first
                | rfl
                | (go_at_call 135
                   refine (HG.out _).mono ?_
                   rintro e w1 ⟨rfl, b⟩
                   exact ⟨rfl, HC3.out _ _ hW b⟩)
                | (go_at_call 138
                   refine (HTOT.out _).mono ?_
                   rintro e w1 ⟨rfl, b⟩
                   exact ⟨rfl, HC3.out _ _ hW b⟩)
                | (obtain ⟨k0, k1, k2, k3, k4, k5, k6, k7⟩ := (HC1.out _ hW).1.eight
                   simp only [k0, k1, k2, k3, k4, k5, k6, k7, Result.andThen]
                   exact ⟨trivial, rfl⟩))
            go_big_quiet_on)))
  refine wpQuiet_nil ?_
  intro w1 hw1
  have HB1 := Lib.hid (HC1.out _ hw1).2
  have R1 := Lib.hid (HC1.out _ hw1).1
  clear hw1 hc0
  obtain ⟨c0, c1, c2, c3, c4, c5, c6, c7⟩ := R1.out.eight
  go_wp2_with fail
  go_loopw [20] (fun i wr => ∃ k : Nat, k ≤ n ∧ i = .int .i64 k ∧ Hid (∀ j, j < k → BlkOk p (bs.getD j Blk.zero)) ∧ Below w.heap.size w wr ∧ Hid (Rw wr w.heap.size 67 #[.int .i64 d, .int .i64 b, .int .i64 p, .slice (some ⟨g, o, none⟩) n cap, .int .i64 fu, .int .i64 ke, .bool off, .int .i64 op])) (fun i _ => n - (intOf i).toNat)
  case atStart => exact ⟨0, by omega, rfl, Lib.hid (fun j hj => by omega), HB1.out, R1⟩
  case round =>
    clear c0 c1 c2 c3 c4 c5 c6 c7
    obtain ⟨k, hk, rfl, HA, hb, RR⟩ := hrel
    obtain ⟨c0, c1, c2, c3, c4, c5, c6, c7⟩ := RR.out.eight
    by_cases hlt : k < n
    · have hki : (k : Int) < (n : Int) := by omega
      obtain ⟨pu, hat, hpu⟩ := HX.out k hlt
      have hat2 := Lib.hid (hat.same (sm hb lo hh) hg1 hg2)
      have HU := Lib.hid (hpu.same (sm hb lo hh))
      have hsz := hb.size
      have HQ := HL2.out k hlt
      have HB := Lib.hid hb
      have HY := Lib.hid (show ∀ y, y = bs.getD k Blk.zero → BlkOk p y → ∀ j, j < k + 1 → BlkOk p (bs.getD j Blk.zero) from fun y hy ho j hj => by
        by_cases e : j = k
        · rw [e, ← hy]; exact ho
        · exact HA.out j (by omega))
      have HZ := Lib.hid (show ∀ y, y = bs.getD k Blk.zero → ¬ BlkOk p y → r = false from fun y hy ho => by
        cases r with
        | false => rfl
        | true => exact absurd ((HR.out.1 rfl).2 k hlt) (by rw [← hy]; exact ho))
      generalize bs.getD k Blk.zero = y at *
      obtain ⟨rb, hrb⟩ := prop_dec (BlkOk p y)
      have HC := Lib.hid (fun (W : World) (a : BkAt W g (o + k * 4) y pu) (a2 : PgIn W lo hi pu y.pg) (c : hi ≤ W.heap.size) => implBlk_any y pu g (o + k * 4) p rb W lo hi a a2 c hrb HQ)
      by_cases hbk : BlkOk p y
      · obtain rfl : rb = true := hrb.2 hbk
        have HD := Lib.hid (HY.out y rfl hbk)
        clear hat hpu hb hrb hbk HZ HY
        go_wp2_with fail
        go_still_tail 7, (by kernel_rfl)
        change wpList _ _ _ _ _ wr.drew
        go_wp2_with fail
        refine (HC.out _ (show BkAt wr.drew _ _ _ _ from hat2.out) (show PgIn wr.drew lo hi pu y.pg from HU.out) (by simp; omega)).mono ?_
        rintro e w2 ⟨rfl, b2⟩
        have HB2 := Lib.hid (HB.out.drew.trans (b2.mono (by simpa using hsz)))
        have R2 := Lib.hid (Rw.below (show Rw wr.drew _ _ _ from RR.out) b2 RR.out.lt)
        clear b2 HB RR c0 c1 c2 c3 c4 c5 c6 c7
        go_wp2
        go_roundw
        case rel => exact ⟨k + 1, by omega, by go_num, HD, HB2.out, R2⟩
        case measure => simp [intOf]; omega
      · obtain rfl : rb = false := (bool_of rb hrb).2 hbk
        have HF := Lib.hid (HZ.out y rfl hbk)
        clear hat hpu hb hrb hbk HZ HY
        go_wp2_with fail
        go_still_tail 7, (by kernel_rfl)
        change wpList _ _ _ _ _ wr.drew
        go_wp2_with fail
        refine (HC.out _ (show BkAt wr.drew _ _ _ _ from hat2.out) (show PgIn wr.drew lo hi pu y.pg from HU.out) (by simp; omega)).mono ?_
        rintro e w2 ⟨rfl, b2⟩
        have HB2 := Lib.hid (HB.out.drew.trans (b2.mono (by simpa using hsz)))
        clear b2 HB RR c0 c1 c2 c3 c4 c5 c6 c7
        go_wp2
        go_ret
        exact ⟨by rw [HF.out]; rfl, HB2.out⟩
    · obtain rfl : k = n := by omega
      have HB := Lib.hid hb
      clear hb
      by_cases f1 : -1 ≤ fu ∧ fu ≤ 1000000
      · have F1 := Lib.hid (fun (W : World) => validFuse_any fu true W (by simp; omega))
        by_cases f2 : 0 ≤ ke ∧ ke ≤ 91
        · have F2 := Lib.hid (fun (W : World) => validKeep_any ke true W (by simp; omega))
          by_cases f3 : 0 ≤ op
          · have HT := Lib.hid (HR.out.2 ⟨⟨f1, f2, f3⟩, HA.out⟩)
            clear f1 f2
            go_wp2_with fail
            refine (F1.out _).mono ?_
            rintro e w2 ⟨rfl, rfl⟩
            go_wp2_with fail
            refine (F2.out _).mono ?_
            rintro e w2 ⟨rfl, rfl⟩
            go_wp2
            go_ret
            exact ⟨by rw [HT.out]; rfl, HB.out⟩
          · have HT := Lib.hid (show r = false by
              cases r with
              | false => rfl
              | true => exact absurd (HR.out.1 rfl).1.2.2 f3)
            have f4 : decide (0 ≤ op) = false := by simp; omega
            have f5 : decide (op ≥ 0) = false := by simp; omega
            clear f1 f2
            go_wp2_with fail
            refine (F1.out _).mono ?_
            rintro e w2 ⟨rfl, rfl⟩
            go_wp2_with fail
            refine (F2.out _).mono ?_
            rintro e w2 ⟨rfl, rfl⟩
            go_wp2
            go_ret
            exact ⟨by rw [HT.out]; rfl, HB.out⟩
        · have F2 := Lib.hid (fun (W : World) => validKeep_any ke false W (by simp; omega))
          have HT := Lib.hid (show r = false by
            cases r with
            | false => rfl
            | true => exact absurd (HR.out.1 rfl).1.2.1 f2)
          clear f1 f2
          go_wp2_with fail
          refine (F1.out _).mono ?_
          rintro e w2 ⟨rfl, rfl⟩
          go_wp2_with fail
          refine (F2.out _).mono ?_
          rintro e w2 ⟨rfl, rfl⟩
          go_wp2
          go_ret
          exact ⟨by rw [HT.out]; rfl, HB.out⟩
      · have F1 := Lib.hid (fun (W : World) => validFuse_any fu false W (by simp; omega))
        have HT := Lib.hid (show r = false by
          cases r with
          | false => rfl
          | true => exact absurd (HR.out.1 rfl).1.1 f1)
        clear f1
        go_wp2_with fail
        refine (F1.out _).mono ?_
        rintro e w2 ⟨rfl, rfl⟩
        go_wp2
        go_ret
        exact ⟨by rw [HT.out]; rfl, HB.out⟩
end Go.Proofs.Ytainlanblpccjaa
