/- IsWiped, ValidWipe, in the program: the contracts. -/
import Derived.Test.YtgamoiagpglcmaaProg
import Derived.Test.YtgamoiagpglcmaaFlW
import Derived.Test.YtgamoiagpglcmaaWqN
import Derived.Test.YtgamoiagpglcmaaWpM
import Derived.Test.YtgamoiagpglcmaaEqI
import Derived.Test.YtgamoiagpglcmaaTbV
import Derived.Test.YtgamoiagpglcmaaLu
import Derived.Test.YtgamoiagpglcmaaHb
import Derived.Test.YtgamoiagpglcmaaOwnR
import Derived.Deep.RegionLaw
import Derived.StillTailTactics
namespace Go.Proofs.Ytgamoiagpglcmaa
open Go.RowKit
set_option linter.unusedVariables false
set_option linter.unusedSimpArgs false

set_option maxHeartbeats 4000000 in
set_option maxRecDepth 100000 in
theorem implIw_any (v : Value) (F : Fl) (bk : Int) (r q : Bool) (w : World) (hi : Nat) (h : FlIn w 0 hi v F) (hh : hi ≤ w.heap.size) (hr : r = true ↔ FlOk F) (hq : q = true ↔ WipedIs F r bk) (hl : FlLen F) :
    Calls Try.prog 58 #[v, .int .i64 bk] w fun e w' => e = .returned (.bool q) ∧ Below w.heap.size w w' := by
  have HV := Lib.hid (fun (W : World) (b : Below w.heap.size w W) => implValid_any v F r W 0 hi (h.same (sm b 0 hh)) (Nat.le_trans hh b.size) hr hl)
  obtain ⟨u, rfl, hb⟩ := h
  obtain ⟨A, n, cap, rfl, hlc, hcm, hlen, hA⟩ := hb
  have hl1 := hl.1
  rw [hlen] at hl1
  have hnm : (n : Int) ≤ 1048576 := by omega
  have HGE := Lib.hid (fun (e : r = true) => And.intro (hr.1 e).1 (hr.1 e).2.1)
  rw [hlen] at HGE
  have HQ := Lib.hid (show q = true ↔ r = true ∧ (0 ≤ bk ∧ bk < (n : Int)) ∧ (F.blk bk.toNat).nx = 0 by rw [hq, WipedIs, Exists_, hlen])
  obtain ⟨B, hB⟩ : ∃ B, B = F.blk := ⟨_, rfl⟩
  have hA' : 0 < n → ∃ g off, A = some ⟨g, off, none⟩ ∧ 0 ≤ g ∧ g < hi ∧ ∀ i, i < n → ∃ pv, BkAt w g (off + i * 4) (B i) pv ∧ PgIn w 0 hi pv (B i).pg := by rw [hB]; exact hA
  rw [← hB] at HQ
  obtain ⟨d, b, p, bs, fu, ke, off, op⟩ := F
  unfold flc at *
  simp only at *
  have r0 := Rw.new w 79 #[.int .i64 d, .int .i64 b, .int .i64 p, .slice A n cap, .int .i64 fu, .int .i64 ke, .bool off, .int .i64 op]
  have b0 := (Below.refl w.heap.size w).alloc (Nat.le_refl _) (.cells #[.int .i64 d, .int .i64 b, .int .i64 p, .slice A n cap, .int .i64 fu, .int .i64 ke, .bool off, .int .i64 op] 79)
  have R0 := Lib.hid r0
  have B0 := Lib.hid b0
  obtain ⟨c0, c1, c2, c3, c4, c5, c6, c7⟩ := r0.eight
  have HA := Lib.hid hA'
  have HH := Lib.hid hh
  clear hA hA' hh hr hl hl1 hlen r0 b0 hB hq
  go_enter Try.func58, Try.ntmps58
  go_wp2_with fail
  refine (HV.out _ B0.out).mono ?_
  rintro e w1 ⟨rfl, b1⟩
  have B1 := Lib.hid (B0.out.trans (b1.mono (by simp)))
  have R1 := Lib.hid (R0.out.below b1 (by simp))
  clear b1 c0 c1 c2 c3 c4 c5 c6 c7 HV R0 B0
  obtain ⟨c0, c1, c2, c3, c4, c5, c6, c7⟩ := R1.out.eight
  cases r with
  | false =>
    have HG := Lib.hid (show q = false from not_true HQ.out (fun e => by cases e.1))
    clear HQ HA HGE
    go_wp2
    go_ret
    exact ⟨ret_bool HG.out.symm, B1.out⟩
  | true =>
  obtain ⟨qe, hqe⟩ := prop_dec' (0 ≤ bk ∧ bk < d * b)
  have HEX := Lib.hid (fun (W : World) => geoBlock_any d b p bk qe W (HGE.out (by simp)).1 hqe)
  have HE := Lib.hid (show qe = true ↔ 0 ≤ bk ∧ bk < (n : Int) by rw [hqe, (HGE.out (by simp)).2])
  clear hqe HGE
  go_wp2_with fail
  refine (HEX.out _).mono ?_
  rintro e w2 ⟨rfl, b2⟩
  have B2 := Lib.hid (B1.out.trans (b2.mono B1.out.size))
  have R2 := Lib.hid (R1.out.below b2 R1.out.lt)
  clear b2 c0 c1 c2 c3 c4 c5 c6 c7 HEX R1 B1
  obtain ⟨c0, c1, c2, c3, c4, c5, c6, c7⟩ := R2.out.eight
  cases qe with
  | false =>
    have HG := Lib.hid (show q = false from not_true HQ.out (fun e => by have := HE.out.2 e.2.1; cases this))
    clear HQ HA
    go_wp2
    go_ret
    exact ⟨ret_bool HG.out.symm, B2.out⟩
  | true =>
  have hbk := HE.out.1 rfl
  obtain ⟨k, rfl⟩ : ∃ k : Nat, bk = (k : Int) := ⟨bk.toNat, by omega⟩
  have hki : (k : Int) < (n : Int) := hbk.2
  have hkn : k < n := by omega
  obtain ⟨g, o, rfl, _, hgl, hx⟩ := HA.out (by omega)
  obtain ⟨pv, ⟨e0, e1, e2, e3⟩, hp⟩ := hx k hkn
  have HQ2 := Lib.hid (show q = ((B k).nx == 0) by
    rw [Bool.eq_iff_iff, HQ.out, Int.toNat_natCast]
    simp only [beq_iff_eq]
    exact ⟨fun e => e.2.2, fun e => ⟨by simp, hbk, e⟩⟩)
  have f1 := (B2.out.cell (p := ⟨g, o + k * 4 + 1, none⟩) (by have := HH.out; show g < _; omega)).trans e1
  generalize (B k).nx = X at *
  clear hx e0 e1 e2 e3 hp hbk HQ HA HE
  go_wp2
  go_ret
  exact ⟨ret_bool HQ2.out.symm, B2.out⟩
set_option maxHeartbeats 4000000 in
set_option maxRecDepth 100000 in
theorem implVw_any (v z : Value) (F : Fl) (Z : Wp) (r q : Bool) (w : World) (hi hi2 : Nat) (h : FlIn w 0 hi v F) (hz : WpIn w hi2 z Z) (hh : hi ≤ w.heap.size) (hh2 : hi2 ≤ w.heap.size) (hr : r = true ↔ FlOk F) (hq : q = true ↔ VwIs F r Z) (hl : FlLen F) (hlz : WpSz Z) :
    Calls Try.prog 63 #[v, z] w fun e w' => e = .returned (.bool q) ∧ Below w.heap.size w w' := by
  have HV := Lib.hid (fun (W : World) (b : Below w.heap.size w W) => implValid_any v F r W 0 hi (h.same (sm b 0 hh)) (Nat.le_trans hh b.size) hr hl)
  obtain ⟨u, rfl, hb⟩ := h
  obtain ⟨A, n, cap, rfl, hlc, hcm, hlen, hA⟩ := hb
  have hl1 := hl.1
  rw [hlen] at hl1
  have hnm : (n : Int) ≤ 1048576 := by omega
  obtain ⟨a0, rfl, h1⟩ := hz
  obtain ⟨A2, m, cap2, rfl⟩ := h1.slice
  have hm : Z.b.length = m := h1.len_.1
  unfold WpSz at hlz
  have HGE := Lib.hid (fun (e : r = true) => And.intro (hr.1 e).1 (hr.1 e).2.1)
  rw [hlen] at HGE
  obtain ⟨qr, hqr⟩ := prop_dec' (Rises Z.b (n : Int))
  have HQ := Lib.hid (show q = true ↔ r = true ∧ qr = true ∧ 0 ≤ Z.d ∧ Z.d ≤ (m : Int) by rw [hq, VwIs, hlen, hm, hqr])
  have HRS := Lib.hid (fun (W : World) (B : Below w.heap.size w W) => increasing_any (.slice A2 m cap2) Z.b (n : Int) qr W hi2 (h1.below B hh2) hqr hlz)
  obtain ⟨bl, dn⟩ := Z
  obtain ⟨d, b, p, bs, fu, ke, off, op⟩ := F
  unfold flc wpc at *
  simp only at *
  have hmi : (m : Int) ≤ 1048576 := by omega
  obtain ⟨r0, r1, b0⟩ := Rw.two_new w 79 87 #[.int .i64 d, .int .i64 b, .int .i64 p, .slice A n cap, .int .i64 fu, .int .i64 ke, .bool off, .int .i64 op] #[.slice A2 m cap2, .int .i64 dn]
  obtain ⟨W1, hW1⟩ : ∃ W1, W1 = (w.alloc (.cells #[.int .i64 d, .int .i64 b, .int .i64 p, .slice A n cap, .int .i64 fu, .int .i64 ke, .bool off, .int .i64 op] 79)).alloc (.cells #[.slice A2 m cap2, .int .i64 dn] 87) := ⟨_, rfl⟩
  have hz0 : W1.heap.size = w.heap.size + 2 := by rw [hW1]; simp
  rw [← hW1] at r0 r1 b0
  obtain ⟨C, hC⟩ : ∃ C : World → Prop, C = fun W => Below (w.heap.size + 2) W1 W := ⟨_, rfl⟩
  have HC1 := Lib.hid (fun (W : World) (h : C W) => show W.cell? ⟨w.heap.size, 0, none⟩ = some (.int .i64 d) ∧ W.cell? ⟨w.heap.size, 1, none⟩ = some (.int .i64 b) ∧ W.cell? ⟨w.heap.size, 2, none⟩ = some (.int .i64 p) ∧ W.cell? ⟨w.heap.size, 3, none⟩ = some (.slice A n cap) ∧ W.cell? ⟨w.heap.size, 4, none⟩ = some (.int .i64 fu) ∧ W.cell? ⟨w.heap.size, 5, none⟩ = some (.int .i64 ke) ∧ W.cell? ⟨w.heap.size, 6, none⟩ = some (.bool off) ∧ W.cell? ⟨w.heap.size, 7, none⟩ = some (.int .i64 op) ∧ W.cell? ⟨w.heap.size + 1, 0, none⟩ = some (.slice A2 m cap2) ∧ W.cell? ⟨w.heap.size + 1, 1, none⟩ = some (.int .i64 dn) by
    rw [hC] at h
    obtain ⟨k0, k1, k2, k3, k4, k5, k6, k7⟩ := (r0.below h (by omega)).eight
    obtain ⟨k8, k9⟩ := (r1.below h (by omega)).two_
    exact ⟨k0, k1, k2, k3, k4, k5, k6, k7, k8, k9⟩)
  have HC3 := Lib.hid (fun (W W' : World) (h : C W) (b : Below W.heap.size W W') => show C W' by
    rw [hC] at h ⊢
    exact h.trans (b.mono (by have := h.size; omega)))
  have HC4 := Lib.hid (fun (W : World) (h : C W) => show Below w.heap.size w W by
    rw [hC] at h
    exact b0.trans (h.mono (by omega)))
  have hc0 : C W1.drew := by
    rw [hC]
    exact (Below.refl _ _).drew
  clear hA hh hr hl hl1 hlen r0 r1 b0 hq h1 hm hlz hh2 hC hz0
  cases r with
  | false =>
    have HG := Lib.hid (show q = false from not_true HQ.out (fun e => by cases e.1))
    clear HQ HGE hqr
    go_enter Try.func63, Try.ntmps63
    go_wp2_with fail
    rw [← hW1]
    clear hW1
    refine wp_region_own (by kernel_rfl) (by kernel_rfl) hc0 ?_
    repeat (first
      | go_big_quiet_skip
      | (go_big_quiet_want
         go_big_quiet_op
         first
           | go_big_quiet_on
           | (apply Exists.intro
              refine ⟨fun W hW => ?_, ?_⟩
              · (first
                  | rfl
                  | (go_at_call 127
                     refine (HV.out _ (HC4.out _ hW)).mono ?_
                     rintro e w1 ⟨rfl, b⟩
                     exact ⟨rfl, HC3.out _ _ hW b⟩)
                  | (go_at_call 133
                     fail
                     rintro e w1 ⟨rfl, b⟩
                     exact ⟨rfl, HC3.out _ _ hW b⟩)
                  | (go_at_call 132
                     refine (HRS.out _ (HC4.out _ hW)).mono ?_
                     rintro e w1 ⟨rfl, rfl⟩
                     exact ⟨rfl, hW⟩)
                  | (obtain ⟨k0, k1, k2, k3, k4, k5, k6, k7, k8, k9⟩ := (HC1.out _ hW)
                     simp only [k0, k1, k2, k3, k4, k5, k6, k7, k8, k9, Result.andThen]
                     exact ⟨trivial, rfl⟩))
              go_big_quiet_on)))
    refine wpQuiet_nil ?_
    intro w1 hw1
    have HW1 := Lib.hid (HC4.out _ hw1)
    clear hw1 hc0
    go_wp2
    go_ret
    exact ⟨ret_bool HG.out.symm, HW1.out⟩
  | true =>
  have HT := Lib.hid (fun (W : World) => show Calls Try.prog 133 #[.agg #[.int .i64 d, .int .i64 b, .int .i64 p]] W (fun e w' => e = .returned (.int .i64 (n : Int)) ∧ Below W.heap.size W w') from by rw [(HGE.out (by simp)).2]; exact total_any d b p W (HGE.out (by simp)).1)
  cases qr with
  | false =>
    have HG := Lib.hid (show q = false from not_true HQ.out (fun e => by cases e.2.1))
    clear HQ HGE hqr
    go_enter Try.func63, Try.ntmps63
    go_wp2_with fail
    rw [← hW1]
    clear hW1
    refine wp_region_own (by kernel_rfl) (by kernel_rfl) hc0 ?_
    repeat (first
      | go_big_quiet_skip
      | (go_big_quiet_want
         go_big_quiet_op
         first
           | go_big_quiet_on
           | (apply Exists.intro
              refine ⟨fun W hW => ?_, ?_⟩
              · (first
                  | rfl
                  | (go_at_call 127
                     refine (HV.out _ (HC4.out _ hW)).mono ?_
                     rintro e w1 ⟨rfl, b⟩
                     exact ⟨rfl, HC3.out _ _ hW b⟩)
                  | (go_at_call 133
                     refine (HT.out _).mono ?_
                     rintro e w1 ⟨rfl, b⟩
                     exact ⟨rfl, HC3.out _ _ hW b⟩)
                  | (go_at_call 132
                     refine (HRS.out _ (HC4.out _ hW)).mono ?_
                     rintro e w1 ⟨rfl, rfl⟩
                     exact ⟨rfl, hW⟩)
                  | (obtain ⟨k0, k1, k2, k3, k4, k5, k6, k7, k8, k9⟩ := (HC1.out _ hW)
                     simp only [k0, k1, k2, k3, k4, k5, k6, k7, k8, k9, Result.andThen]
                     exact ⟨trivial, rfl⟩))
              go_big_quiet_on)))
    refine wpQuiet_nil ?_
    intro w1 hw1
    have HW1 := Lib.hid (HC4.out _ hw1)
    clear hw1 hc0
    go_wp2
    go_ret
    exact ⟨ret_bool HG.out.symm, HW1.out⟩
  | true =>
  by_cases g0 : 0 ≤ dn
  case neg =>
    have HG := Lib.hid (show q = false from not_true HQ.out (fun e => g0 e.2.2.1))
    have e0 : decide (dn ≥ 0) = false := by simp; omega
    have e0' : decide (0 ≤ dn) = false := by simp; omega
    clear HQ HGE hqr g0
    go_enter Try.func63, Try.ntmps63
    go_wp2_with fail
    rw [← hW1]
    clear hW1
    refine wp_region_own (by kernel_rfl) (by kernel_rfl) hc0 ?_
    repeat (first
      | go_big_quiet_skip
      | (go_big_quiet_want
         go_big_quiet_op
         first
           | go_big_quiet_on
           | (apply Exists.intro
              refine ⟨fun W hW => ?_, ?_⟩
              · (first
                  | rfl
                  | (go_at_call 127
                     refine (HV.out _ (HC4.out _ hW)).mono ?_
                     rintro e w1 ⟨rfl, b⟩
                     exact ⟨rfl, HC3.out _ _ hW b⟩)
                  | (go_at_call 133
                     refine (HT.out _).mono ?_
                     rintro e w1 ⟨rfl, b⟩
                     exact ⟨rfl, HC3.out _ _ hW b⟩)
                  | (go_at_call 132
                     refine (HRS.out _ (HC4.out _ hW)).mono ?_
                     rintro e w1 ⟨rfl, rfl⟩
                     exact ⟨rfl, hW⟩)
                  | (obtain ⟨k0, k1, k2, k3, k4, k5, k6, k7, k8, k9⟩ := (HC1.out _ hW)
                     simp only [k0, k1, k2, k3, k4, k5, k6, k7, k8, k9, Result.andThen]
                     exact ⟨trivial, rfl⟩))
              go_big_quiet_on)))
    refine wpQuiet_nil ?_
    intro w1 hw1
    have HW1 := Lib.hid (HC4.out _ hw1)
    clear hw1 hc0
    go_wp2
    go_ret
    exact ⟨ret_bool HG.out.symm, HW1.out⟩
  have e0 : decide (dn ≥ 0) = true := by simp; omega
  have e0' : decide (0 ≤ dn) = true := by simp; omega
  have HG := Lib.hid (show q = decide (dn ≤ (m : Int)) by
    rw [Bool.eq_iff_iff, HQ.out]; simp only [decide_eq_true_eq]; exact ⟨fun e => e.2.2.2, fun e => ⟨by simp, by simp, g0, e⟩⟩)
  clear HQ HGE hqr g0
  go_enter Try.func63, Try.ntmps63
  go_wp2_with fail
  rw [← hW1]
  clear hW1
  refine wp_region_own (by kernel_rfl) (by kernel_rfl) hc0 ?_
  repeat (first
    | go_big_quiet_skip
    | (go_big_quiet_want
       go_big_quiet_op
       first
         | go_big_quiet_on
         | (apply Exists.intro
            refine ⟨fun W hW => ?_, ?_⟩
            · (first
                | rfl
                | (go_at_call 127
                   refine (HV.out _ (HC4.out _ hW)).mono ?_
                   rintro e w1 ⟨rfl, b⟩
                   exact ⟨rfl, HC3.out _ _ hW b⟩)
                | (go_at_call 133
                   refine (HT.out _).mono ?_
                   rintro e w1 ⟨rfl, b⟩
                   exact ⟨rfl, HC3.out _ _ hW b⟩)
                | (go_at_call 132
                   refine (HRS.out _ (HC4.out _ hW)).mono ?_
                   rintro e w1 ⟨rfl, rfl⟩
                   exact ⟨rfl, hW⟩)
                | (obtain ⟨k0, k1, k2, k3, k4, k5, k6, k7, k8, k9⟩ := (HC1.out _ hW)
                   simp only [k0, k1, k2, k3, k4, k5, k6, k7, k8, k9, Result.andThen]
                   exact ⟨trivial, rfl⟩))
            go_big_quiet_on)))
  refine wpQuiet_nil ?_
  intro w1 hw1
  have HW1 := Lib.hid (HC4.out _ hw1)
  clear hw1 hc0
  go_wp2
  go_ret
  exact ⟨ret_bool HG.out.symm, HW1.out⟩
end Go.Proofs.Ytgamoiagpglcmaa
