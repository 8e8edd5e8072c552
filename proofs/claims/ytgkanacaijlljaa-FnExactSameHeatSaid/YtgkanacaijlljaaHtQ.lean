/- Write counters compared, in the model and in the program: the contracts. -/
import Derived.Test.YtgkanacaijlljaaProg
import Derived.Test.YtgkanacaijlljaaHtM
import Derived.Test.YtgkanacaijlljaaEqI
import Derived.Test.YtgkanacaijlljaaOwnR
namespace Go.Proofs.Ytgkanacaijlljaa
open Go.RowKit
set_option linter.unusedVariables false
set_option linter.unusedSimpArgs false
theorem ht_eq (a b : List Int) (x y : Int) : (⟨a, x⟩ : Ht) = ⟨b, y⟩ ↔ a = b ∧ x = y := by simp
set_option maxHeartbeats 2000000 in
set_option maxRecDepth 100000 in
theorem specSameHt_any (u v : Value) (M K : Ht) (r : Bool) (w : World) (hi hi' : Nat) (hu : HtIn w hi u M) (hv : HtIn w hi' v K) (h1 : hi ≤ w.heap.size) (h2 : hi' ≤ w.heap.size) (hr : r = true ↔ M = K) (hl : HtSz M) (hl' : HtSz K) :
    Calls Try.prog 20 #[u, v] w fun e w' => e = .returned (.bool r) ∧ Below w.heap.size w w' := by
  obtain ⟨u, rfl, hu⟩ := hu
  obtain ⟨v, rfl, hv⟩ := hv
  unfold HtSz at hl hl'
  obtain ⟨q, hq⟩ := prop_dec' (M.c = K.c)
  have HS := Lib.hid (fun (W : World) (a : NI W hi u M.c) (b : NI W hi' v K.c) (c : hi ≤ W.heap.size) (d : hi' ≤ W.heap.size) => specEqI_any u v M.c K.c q W hi hi' a b c d hq (by omega) (by omega))
  obtain ⟨A, n, c, rfl⟩ := hu.slice
  obtain ⟨A', n', c', rfl⟩ := hv.slice
  obtain ⟨L, x⟩ := M
  obtain ⟨L', y⟩ := K
  unfold htc
  rw [ht_eq] at hr
  simp only at *
  obtain ⟨r0, r1, b0⟩ := Rw.two_new w 27 27 #[.slice A n c, .int .i64 x] #[.slice A' n' c', .int .i64 y]
  obtain ⟨C, hC⟩ : ∃ C : World → Prop, C = fun W => Rw W w.heap.size 27 #[.slice A n c, .int .i64 x] ∧ Rw W (w.heap.size + 1) 27 #[.slice A' n' c', .int .i64 y] ∧ Below w.heap.size w W := ⟨_, rfl⟩
  have HC1 := Lib.hid (fun (W : World) (h : C W) => show Rw W w.heap.size 27 #[.slice A n c, .int .i64 x] ∧ Rw W (w.heap.size + 1) 27 #[.slice A' n' c', .int .i64 y] ∧ Below w.heap.size w W by rw [hC] at h; exact h)
  have HC2 := Lib.hid (fun (W : World) (a : Rw W w.heap.size 27 #[.slice A n c, .int .i64 x]) (a' : Rw W (w.heap.size + 1) 27 #[.slice A' n' c', .int .i64 y]) (b : Below w.heap.size w W) => show C W by rw [hC]; exact ⟨a, a', b⟩)
  have HC3 := Lib.hid (fun (W W' : World) (h : C W) (b : Below W.heap.size W W') => HC2.out W' ((HC1.out W h).1.below b (HC1.out W h).1.lt) ((HC1.out W h).2.1.below b (HC1.out W h).2.1.lt) ((HC1.out W h).2.2.trans (b.mono (HC1.out W h).2.2.size)))
  have HC4 := Lib.hid (fun (W : World) (h : C W) => show W.cell? ⟨w.heap.size, 0, none⟩ = some (.slice A n c) ∧ W.cell? ⟨w.heap.size, 1, none⟩ = some (.int .i64 x) ∧ W.cell? ⟨w.heap.size + 1, 0, none⟩ = some (.slice A' n' c') ∧ W.cell? ⟨w.heap.size + 1, 1, none⟩ = some (.int .i64 y) from
    ⟨(HC1.out W h).1.two.1, (HC1.out W h).1.two.2, (HC1.out W h).2.1.two.1, (HC1.out W h).2.1.two.2⟩)
  have hc0 := HC2.out _ r0 r1 b0
  have HB := Lib.hid b0
  have HSB := Lib.hid (fun (W : World) (b : Below w.heap.size w W) => HS.out W (hu.below b h1) (hv.below b h2) (Nat.le_trans h1 b.size) (Nat.le_trans h2 b.size))
  have HR := Lib.hid hr
  have HQ := Lib.hid hq
  clear hC hu hv hr hq r0 r1 b0 HS hl hl' h1 h2
  cases q with
  | false =>
    obtain rfl : r = false := not_true HR.out (fun e => Bool.false_ne_true (HQ.out.2 e.1))
    clear HR HQ
    go_enter Try.func20, Try.ntmps20
    obtain ⟨k0, k1, k2, k3⟩ := HC4.out _ hc0
    go_wp2_with (first
      | (go_at_call 62
         refine (HSB.out _ HB.out).mono ?_
         rintro e w1 ⟨rfl, b⟩
         obtain ⟨j0, j1, j2, j3⟩ := HC4.out _ (HC3.out _ _ hc0 b)
         have HW1 := Lib.hid (HB.out.trans (b.mono HB.out.size))
         clear b))
    go_ret
    first | exact ⟨rfl, HW1.out⟩ | exact ⟨rfl, HB.out⟩
  | true =>
    obtain rfl : r = decide (x = y) := by
      rw [Bool.eq_iff_iff, HR.out]; simp only [decide_eq_true_eq]; exact ⟨fun e => e.2, fun e => ⟨HQ.out.1 rfl, e⟩⟩
    have hxy : (x == y) = decide (x = y) := by by_cases h : x = y <;> simp [h]
    have hxz : decide (x = y) = decide (x = y) := rfl
    generalize decide (x = y) = d at *
    clear HR HQ
    go_enter Try.func20, Try.ntmps20
    obtain ⟨k0, k1, k2, k3⟩ := HC4.out _ hc0
    go_wp2_with (first
      | (go_at_call 62
         refine (HSB.out _ HB.out).mono ?_
         rintro e w1 ⟨rfl, b⟩
         obtain ⟨j0, j1, j2, j3⟩ := HC4.out _ (HC3.out _ _ hc0 b)
         have HW1 := Lib.hid (HB.out.trans (b.mono HB.out.size))
         clear b))
    go_ret
    first | exact ⟨rfl, HW1.out⟩ | exact ⟨rfl, HB.out⟩
set_option maxHeartbeats 2000000 in
set_option maxRecDepth 100000 in
theorem implSameHt_any (u v : Value) (M K : Ht) (r : Bool) (w : World) (hi hi' : Nat) (hu : HtIn w hi u M) (hv : HtIn w hi' v K) (h1 : hi ≤ w.heap.size) (h2 : hi' ≤ w.heap.size) (hr : r = true ↔ M = K) (hl : HtSz M) (hl' : HtSz K) :
    Calls Try.prog 21 #[u, v] w fun e w' => e = .returned (.bool r) ∧ Below w.heap.size w w' := by
  obtain ⟨u, rfl, hu⟩ := hu
  obtain ⟨v, rfl, hv⟩ := hv
  unfold HtSz at hl hl'
  obtain ⟨q, hq⟩ := prop_dec' (M.c = K.c)
  have HS := Lib.hid (fun (W : World) (a : NI W hi u M.c) (b : NI W hi' v K.c) (c : hi ≤ W.heap.size) (d : hi' ≤ W.heap.size) => slEqI_any u v M.c K.c q W hi hi' a b c d hq (by omega) (by omega))
  obtain ⟨A, n, c, rfl⟩ := hu.slice
  obtain ⟨A', n', c', rfl⟩ := hv.slice
  obtain ⟨L, x⟩ := M
  obtain ⟨L', y⟩ := K
  unfold htc
  rw [ht_eq] at hr
  simp only at *
  obtain ⟨r0, r1, b0⟩ := Rw.two_new w 27 27 #[.slice A n c, .int .i64 x] #[.slice A' n' c', .int .i64 y]
  obtain ⟨C, hC⟩ : ∃ C : World → Prop, C = fun W => Rw W w.heap.size 27 #[.slice A n c, .int .i64 x] ∧ Rw W (w.heap.size + 1) 27 #[.slice A' n' c', .int .i64 y] ∧ Below w.heap.size w W := ⟨_, rfl⟩
  have HC1 := Lib.hid (fun (W : World) (h : C W) => show Rw W w.heap.size 27 #[.slice A n c, .int .i64 x] ∧ Rw W (w.heap.size + 1) 27 #[.slice A' n' c', .int .i64 y] ∧ Below w.heap.size w W by rw [hC] at h; exact h)
  have HC2 := Lib.hid (fun (W : World) (a : Rw W w.heap.size 27 #[.slice A n c, .int .i64 x]) (a' : Rw W (w.heap.size + 1) 27 #[.slice A' n' c', .int .i64 y]) (b : Below w.heap.size w W) => show C W by rw [hC]; exact ⟨a, a', b⟩)
  have HC3 := Lib.hid (fun (W W' : World) (h : C W) (b : Below W.heap.size W W') => HC2.out W' ((HC1.out W h).1.below b (HC1.out W h).1.lt) ((HC1.out W h).2.1.below b (HC1.out W h).2.1.lt) ((HC1.out W h).2.2.trans (b.mono (HC1.out W h).2.2.size)))
  have HC4 := Lib.hid (fun (W : World) (h : C W) => show W.cell? ⟨w.heap.size, 0, none⟩ = some (.slice A n c) ∧ W.cell? ⟨w.heap.size, 1, none⟩ = some (.int .i64 x) ∧ W.cell? ⟨w.heap.size + 1, 0, none⟩ = some (.slice A' n' c') ∧ W.cell? ⟨w.heap.size + 1, 1, none⟩ = some (.int .i64 y) from
    ⟨(HC1.out W h).1.two.1, (HC1.out W h).1.two.2, (HC1.out W h).2.1.two.1, (HC1.out W h).2.1.two.2⟩)
  have hc0 := HC2.out _ r0 r1 b0
  have HB := Lib.hid b0
  have HSB := Lib.hid (fun (W : World) (b : Below w.heap.size w W) => HS.out W (hu.below b h1) (hv.below b h2) (Nat.le_trans h1 b.size) (Nat.le_trans h2 b.size))
  have HR := Lib.hid hr
  have HQ := Lib.hid hq
  clear hC hu hv hr hq r0 r1 b0 HS hl hl' h1 h2
  by_cases hxy : x = y
  case neg =>
    obtain rfl : r = false := not_true HR.out (fun e => hxy e.2)
    have hx : (x == y) = false := by simpa using hxy
    clear HR HQ hxy
    go_enter Try.func21, Try.ntmps21
    obtain ⟨k0, k1, k2, k3⟩ := HC4.out _ hc0
    go_wp2_with (first
      | (go_at_call 63
         refine (HSB.out _ HB.out).mono ?_
         rintro e w1 ⟨rfl, b⟩
         obtain ⟨j0, j1, j2, j3⟩ := HC4.out _ (HC3.out _ _ hc0 b)
         have HW1 := Lib.hid (HB.out.trans (b.mono HB.out.size))
         clear b))
    go_ret
    first | exact ⟨rfl, HW1.out⟩ | exact ⟨rfl, HB.out⟩
  case pos =>
    obtain rfl : r = q := by rw [Bool.eq_iff_iff, HR.out, HQ.out]; exact ⟨fun e => e.1, fun e => ⟨e, hxy⟩⟩
    have hx : (x == y) = true := by simpa using hxy
    clear HR HQ hxy
    go_enter Try.func21, Try.ntmps21
    obtain ⟨k0, k1, k2, k3⟩ := HC4.out _ hc0
    go_wp2_with (first
      | (go_at_call 63
         refine (HSB.out _ HB.out).mono ?_
         rintro e w1 ⟨rfl, b⟩
         obtain ⟨j0, j1, j2, j3⟩ := HC4.out _ (HC3.out _ _ hc0 b)
         have HW1 := Lib.hid (HB.out.trans (b.mono HB.out.size))
         clear b))
    go_ret
    first | exact ⟨rfl, HW1.out⟩ | exact ⟨rfl, HB.out⟩
end Go.Proofs.Ytgkanacaijlljaa
