/- The greatest number of logical pages of a geometry, in the model and in the program: the contracts. -/
import Derived.Test.YtbdfdkhkamonpaaProg
import Derived.Test.YtbdfdkhkamonpaaGeo
import Derived.Test.YtbdfdkhkamonpaaMn
import Derived.Test.YtbdfdkhkamonpaaOwnR
namespace Go.Proofs.Ytbdfdkhkamonpaa
open Go.RowKit
set_option linter.unusedVariables false
set_option linter.unusedSimpArgs false
def capV (d b p : Int) (r : Bool) : Int := if r = true then min 48 (((d * b - 6) * p).tdiv 2) else 0
set_option maxHeartbeats 1000000 in
theorem specCap_any (d b p : Int) (r : Bool) (w : World) (hr : r = true ↔ GeoOk d b p) :
    Calls Try.prog 61 #[.agg #[.int .i64 d, .int .i64 b, .int .i64 p]] w fun e w' => e = .returned (.int .i64 (capV d b p r)) ∧ Below w.heap.size w w' := by
  have HS := Lib.hid (fun (W : World) => specGeo_any d b p r W hr)
  have HM := Lib.hid (fun (e : r = true) => show (8 ≤ d * b ∧ d * b ≤ 36) ∧ (0 ≤ (d * b - 6) * p ∧ (d * b - 6) * p ≤ 480) by
    have g := hr.1 e
    obtain ⟨m1, m2⟩ := g.mul
    obtain ⟨g1, g2, g3⟩ := g
    refine ⟨⟨m1, m2⟩, ?_⟩
    rcases g3 with rfl | rfl <;> omega)
  have HV := Lib.hid (show capV d b p r = if r = true then min 48 (((d * b - 6) * p).tdiv 2) else 0 from rfl)
  have HB0 := Lib.hid ((Below.refl w.heap.size w).alloc (Nat.le_refl _) (.cells #[.int .i64 d, .int .i64 b, .int .i64 p] 50))
  have R0 := Lib.hid (Rw.new w 50 #[.int .i64 d, .int .i64 b, .int .i64 p])
  clear hr
  cases r with
  | false =>
    have HG := Lib.hid (show capV d b p false = 0 by rw [HV.out]; rfl)
    clear HV HM
    go_enter Try.func61, Try.ntmps61
    go_wp2_with fail
    refine (HS.out _).mono ?_
    rintro e w1 ⟨rfl, b1⟩
    have HB1 := Lib.hid (HB0.out.trans (b1.mono (by simp)))
    clear b1
    go_wp2
    go_ret
    exact ⟨ret_int HG.out.symm, HB1.out⟩
  | true =>
    have hm := HM.out rfl
    obtain ⟨q, hq⟩ : ∃ q, q = d * b := ⟨_, rfl⟩
    rw [← hq] at hm
    have HG := Lib.hid (show capV d b p true = min 48 (((q - 6) * p).tdiv 2) by rw [HV.out, hq]; rfl)
    obtain ⟨s, hs⟩ : ∃ s, s = (q - 6) * p := ⟨_, rfl⟩
    rw [← hs] at hm HG
    have w1 : IntKind.i64.wrap (d * b) = q := by rw [← hq]; exact IntWalk.i64_in _ (by omega)
    have w2 : IntKind.i64.wrap (q - 6) = q - 6 := IntWalk.i64_in _ (by omega)
    have w3 : IntKind.i64.wrap ((q - 6) * p) = s := by rw [← hs]; exact IntWalk.i64_in _ (by omega)
    have w5 : s.tdiv 2 = s / 2 := Int.tdiv_eq_ediv_of_nonneg (by omega)
    have w4 : IntKind.i64.wrap (s / 2) = s / 2 := IntWalk.i64_in _ (by omega)
    have HN := Lib.hid (fun (W : World) => min_any 48 (s / 2) W)
    have HG2 := Lib.hid (show capV d b p true = min 48 (s / 2) by rw [HG.out, w5])
    generalize min 48 (s / 2) = y at *
    clear HV HM hm hq hs HG
    go_enter Try.func61, Try.ntmps61
    go_wp2_with fail
    refine (HS.out _).mono ?_
    rintro e w1 ⟨rfl, b1⟩
    have HB1 := Lib.hid (HB0.out.trans (b1.mono (by simp)))
    obtain ⟨c0, c1, c2⟩ := (R0.out.below b1 R0.out.lt).three
    clear b1
    go_wp2_with fail
    refine (HN.out _).mono ?_
    rintro e w2 ⟨rfl, rfl⟩
    go_wp2
    go_ret
    exact ⟨ret_int HG2.out.symm, HB1.out⟩
set_option maxHeartbeats 1000000 in
theorem implCap_any (d b p : Int) (r : Bool) (w : World) (hr : r = true ↔ GeoOk d b p) :
    Calls Try.prog 62 #[.agg #[.int .i64 d, .int .i64 b, .int .i64 p]] w fun e w' => e = .returned (.int .i64 (capV d b p r)) ∧ Below w.heap.size w w' := by
  have HS := Lib.hid (fun (W : World) => implGeo_any d b p r W hr)
  have HT := Lib.hid (fun (e : r = true) (W : World) => total_any d b p W (hr.1 e))
  have HM := Lib.hid (fun (e : r = true) => show (8 ≤ d * b ∧ d * b ≤ 36) ∧ (0 ≤ (d * b - 6) * p ∧ (d * b - 6) * p ≤ 480) by
    have g := hr.1 e
    obtain ⟨m1, m2⟩ := g.mul
    obtain ⟨g1, g2, g3⟩ := g
    refine ⟨⟨m1, m2⟩, ?_⟩
    rcases g3 with rfl | rfl <;> omega)
  have HV := Lib.hid (show capV d b p r = if r = true then min 48 (((d * b - 6) * p).tdiv 2) else 0 from rfl)
  have HB0 := Lib.hid ((Below.refl w.heap.size w).alloc (Nat.le_refl _) (.cells #[.int .i64 d, .int .i64 b, .int .i64 p] 50))
  have R0 := Lib.hid (Rw.new w 50 #[.int .i64 d, .int .i64 b, .int .i64 p])
  clear hr
  cases r with
  | false =>
    have HG := Lib.hid (show capV d b p false = 0 by rw [HV.out]; rfl)
    clear HV HM HT
    go_enter Try.func62, Try.ntmps62
    go_wp2_with fail
    refine (HS.out _).mono ?_
    rintro e w1 ⟨rfl, b1⟩
    have HB1 := Lib.hid (HB0.out.trans (b1.mono (by simp)))
    clear b1
    go_wp2
    go_ret
    exact ⟨ret_int HG.out.symm, HB1.out⟩
  | true =>
    have hm := HM.out rfl
    have HT1 := Lib.hid (HT.out rfl)
    obtain ⟨q, hq⟩ : ∃ q, q = d * b := ⟨_, rfl⟩
    rw [← hq] at hm HT1
    have HG := Lib.hid (show capV d b p true = min 48 (((q - 6) * p).tdiv 2) by rw [HV.out, hq]; rfl)
    obtain ⟨s, hs⟩ : ∃ s, s = (q - 6) * p := ⟨_, rfl⟩
    rw [← hs] at hm HG
    have w2 : IntKind.i64.wrap (q - 6) = q - 6 := IntWalk.i64_in _ (by omega)
    have w3 : IntKind.i64.wrap ((q - 6) * p) = s := by rw [← hs]; exact IntWalk.i64_in _ (by omega)
    have w5 : s.tdiv 2 = s / 2 := Int.tdiv_eq_ediv_of_nonneg (by omega)
    have w4 : IntKind.i64.wrap (s / 2) = s / 2 := IntWalk.i64_in _ (by omega)
    obtain ⟨x, hx⟩ : ∃ x, x = s / 2 := ⟨_, rfl⟩
    rw [← hx] at w5 w4
    have HG2 := Lib.hid (show capV d b p true = min 48 x by rw [HG.out, w5])
    clear HV HM hm hq hs HG HT hx
    go_enter Try.func62, Try.ntmps62
    go_wp2_with fail
    refine (HS.out _).mono ?_
    rintro e w1 ⟨rfl, b1⟩
    have R1 := R0.out.below b1 R0.out.lt
    have B1 := HB0.out.trans (b1.mono (by simp))
    obtain ⟨C, hC⟩ : ∃ C : World → Prop, C = fun W => Rw W w.heap.size 50 #[.int .i64 d, .int .i64 b, .int .i64 p] ∧ Below w.heap.size w W := ⟨_, rfl⟩
    have HC1 := Lib.hid (fun (W : World) (h : C W) => show Rw W w.heap.size 50 #[.int .i64 d, .int .i64 b, .int .i64 p] ∧ Below w.heap.size w W by rw [hC] at h; exact h)
    have HC3 := Lib.hid (fun (W W' : World) (h : C W) (b : Below W.heap.size W W') => show C W' by rw [hC] at h ⊢; exact ⟨h.1.below b h.1.lt, h.2.trans (b.mono h.2.size)⟩)
    have hc0 : C w1.drew := by rw [hC]; exact ⟨R1, B1.drew⟩
    clear hC b1 R1 B1
    go_wp2_with fail
    refine wp_region_own (by kernel_rfl) (by kernel_rfl) hc0 ?_
    repeat (first
      | go_big_quiet_skip
      | (go_big_quiet_want
         go_big_quiet_op
         first
           | go_big_quiet_on
           | (apply Exists.intro
              refine ⟨fun W hW => ?_, ?_⟩
              · (first
                  | rfl
                  | (go_at_call 85
                     refine (HT1.out _).mono ?_
                     rintro e w1 ⟨rfl, b⟩
                     exact ⟨rfl, HC3.out _ _ hW b⟩)
                  | (obtain ⟨k0, k1, k2⟩ := (HC1.out _ hW).1.three
                     simp only [k0, k1, k2, Result.andThen]
                     exact ⟨trivial, rfl⟩))
              go_big_quiet_on)))
    refine wpQuiet_nil ?_
    intro w2 hw2
    have HB2 := Lib.hid (HC1.out _ hw2).2
    clear hw2 hc0
    go_wp2
    all_goals
      go_ret
      exact ⟨ret_int (by rw [HG2.out]; omega), HB2.out⟩
end Go.Proofs.Ytbdfdkhkamonpaa
