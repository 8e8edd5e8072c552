/- Which lists of found pages are valid, in the model: the contract. -/
import Derived.Test.YtfnccbanmgfkeaaProg
import Derived.Test.YtfnccbanmgfkeaaFdV
import Derived.Test.YtfnccbanmgfkeaaMtS
namespace Go.Proofs.Ytfnccbanmgfkeaa
open Go.RowKit
set_option linter.unusedVariables false
set_option linter.unusedSimpArgs false
set_option maxHeartbeats 8000000 in
set_option maxRecDepth 100000 in
theorem specFound_any (v : Value) (L : List Fd) (r : Bool) (w : World) (hi : Nat) (h : FdIn w hi v L) (hh : hi ≤ w.heap.size) (hr : r = true ↔ FsOk L) (hl : L.length ≤ 1048576) :
    Calls Try.prog 48 #[v] w fun e w' => e = .returned (.bool r) ∧ Below w.heap.size w w' := by
  have hlong : ¬ L.length ≤ 640 → r = false := fun e => not_true hr (fun f => e f.long)
  obtain ⟨A, c, rfl⟩ := h.slice
  obtain ⟨n, hn⟩ : ∃ n, n = L.length := ⟨_, rfl⟩
  rw [← hn] at h ⊢
  obtain ⟨_, hA⟩ := h.elem
  have HA := Lib.hid hA
  have HN := Lib.hid hn
  have HH := Lib.hid hh
  have HR := Lib.hid (show r = true ↔ ∀ i, i < n → StepOk L i by rw [hr, FsOk, ← hn])
  have hnm : (n : Int) ≤ 1048576 := by omega
  by_cases hbig : (640 : Int) < (n : Int)
  · have d0 : decide ((n : Int) > 640) = true := by simp; omega
    have d0' : decide ((640 : Int) < (n : Int)) = true := by simp; omega
    obtain rfl := hlong (by omega)
    clear h hA hn hh hr hl hlong HR HA HN hbig
    go_enter Try.func48, Try.ntmps48
    go_wp2
    go_ret
    exact ⟨rfl, Below.refl _ _⟩
  have d0 : decide ((n : Int) > 640) = false := by simp; omega
  have d0' : decide ((640 : Int) < (n : Int)) = false := by simp; omega
  clear h hA hn hh hr hl hlong
  go_enter Try.func48, Try.ntmps48
  go_wp2
  clear d0 d0'
  go_loopw [3] (fun i wr => ∃ k : Nat, k ≤ n ∧ i = .int .i64 (k : Int) ∧ Hid (∀ i, i < k → StepOk L i) ∧ Hid (Below w.heap.size w wr)) (fun i _ => n - (intOf i).toNat)
  case atStart => exact ⟨0, by omega, rfl, Lib.hid (fun i hi => by omega), Lib.hid (Below.refl _ _)⟩
  case round =>
    obtain ⟨k, hk, rfl, HE, HB⟩ := hrel
    by_cases hlt : k < n
    · have hki : (k : Int) < (n : Int) := by omega
      obtain ⟨pb, po, rfl, hp2, hpx⟩ := HA.out (by omega)
      have hsz := HB.out.size
      have HALL := Lib.hid (show ∀ i, i < n → True from fun _ _ => trivial)
      have HCELL := Lib.hid (fun (W : World) (hb : Below w.heap.size w W) (i : Nat) (hi : i < n) => show W.cell? ⟨pb, po + i * 6, none⟩ = some (.int .i64 (L.getD i Fd.zero).ph) ∧ W.cell? ⟨pb, po + i * 6 + 1, none⟩ = some (.int .i64 (L.getD i Fd.zero).k) ∧ W.cell? ⟨pb, po + i * 6 + 2, none⟩ = some (.int .i64 (L.getD i Fd.zero).l) ∧ W.cell? ⟨pb, po + i * 6 + 3, none⟩ = some (.int .i64 (L.getD i Fd.zero).s) ∧ W.cell? ⟨pb, po + i * 6 + 4, none⟩ = some (.int .i64 (L.getD i Fd.zero).f) ∧ W.cell? ⟨pb, po + i * 6 + 5, none⟩ = some (.int .i64 (L.getD i Fd.zero).c) from by
        obtain ⟨c0, c1, c2, c3, c4, c5⟩ := hpx i hi
        have hlb : pb < w.heap.size := by have := HH.out; omega
        exact ⟨(hb.cell (p := ⟨pb, _, none⟩) hlb).trans c0, (hb.cell (p := ⟨pb, _, none⟩) hlb).trans c1, (hb.cell (p := ⟨pb, _, none⟩) hlb).trans c2, (hb.cell (p := ⟨pb, _, none⟩) hlb).trans c3, (hb.cell (p := ⟨pb, _, none⟩) hlb).trans c4, (hb.cell (p := ⟨pb, _, none⟩) hlb).trans c5⟩)
      clear hpx
      rcases Nat.eq_zero_or_pos k with hk0 | hk0
      · have HK0 := Lib.hid hk0
        clear hk0
        have HSTEP := Lib.hid (HALL.out k hlt)
        obtain ⟨x0, hx0⟩ : ∃ x, x = (L.getD k Fd.zero).ph := ⟨_, rfl⟩
        obtain ⟨x1, hx1⟩ : ∃ x, x = (L.getD k Fd.zero).k := ⟨_, rfl⟩
        obtain ⟨x2, hx2⟩ : ∃ x, x = (L.getD k Fd.zero).l := ⟨_, rfl⟩
        obtain ⟨x3, hx3⟩ : ∃ x, x = (L.getD k Fd.zero).s := ⟨_, rfl⟩
        obtain ⟨x4, hx4⟩ : ∃ x, x = (L.getD k Fd.zero).f := ⟨_, rfl⟩
        obtain ⟨x5, hx5⟩ : ∃ x, x = (L.getD k Fd.zero).c := ⟨_, rfl⟩
        obtain ⟨a0, a1, a2, a3, a4, a5⟩ := HCELL.out wr HB.out k hlt
        rw [← hx0] at a0; rw [← hx1] at a1; rw [← hx2] at a2; rw [← hx3] at a3; rw [← hx4] at a4; rw [← hx5] at a5
        have d3 : decide ((0 : Int) < (k : Int)) = false := by have := HK0.out; simp; omega
        have d3' : decide ((k : Int) > 0) = false := by have := HK0.out; simp; omega
        have d3n : decide (0 < k) = false := by have := HK0.out; simp; omega
        have HST := Lib.hid (show StepOk L k ↔ (((0 ≤ x0 ∧ x0 ≤ 639) ∧ MetaOk x1 x2 x3 x4 x5 ∧ x1 ≠ 4)) from by
          rw [hx0, hx1, hx2, hx3, hx4, hx5]
          unfold StepOk FdOk
          exact ⟨fun e => e.1, fun e => ⟨e, fun q => absurd HK0.out (by omega)⟩⟩)
        clear hx0 hx1 hx2 hx3 hx4 hx5
        have HF := Lib.hid (fun (e : ¬ StepOk L k) => not_true HR.out (fun f => e (f _ hlt)))
        have HY := Lib.hid (fun (e : StepOk L k) => show ∀ i, i < k + 1 → StepOk L i from fun i hi => by
          by_cases f : i = k
          · subst f; exact e
          · exact HE.out i (by omega))
        obtain ⟨C, hC⟩ : ∃ C : World → Prop, C = fun W => Below (wr.heap.size + 1) (wr.alloc (.cells #[.int .i64 x0, .int .i64 x1, .int .i64 x2, .int .i64 x3, .int .i64 x4, .int .i64 x5] 89)) W := ⟨_, rfl⟩
        have hz : (wr.alloc (.cells #[.int .i64 x0, .int .i64 x1, .int .i64 x2, .int .i64 x3, .int .i64 x4, .int .i64 x5] 89)).heap.size = wr.heap.size + 1 := by simp
        have RA := Lib.hid (Rw.new wr 89 #[.int .i64 x0, .int .i64 x1, .int .i64 x2, .int .i64 x3, .int .i64 x4, .int .i64 x5])
        have HB0 := Lib.hid (HB.out.alloc HB.out.size (.cells #[.int .i64 x0, .int .i64 x1, .int .i64 x2, .int .i64 x3, .int .i64 x4, .int .i64 x5] 89))
        have HC1 := Lib.hid (fun (W : World) (h : C W) => show (W.cell? ⟨wr.heap.size, 0, none⟩ = some (.int .i64 x0) ∧ W.cell? ⟨wr.heap.size, 1, none⟩ = some (.int .i64 x1) ∧ W.cell? ⟨wr.heap.size, 2, none⟩ = some (.int .i64 x2) ∧ W.cell? ⟨wr.heap.size, 3, none⟩ = some (.int .i64 x3) ∧ W.cell? ⟨wr.heap.size, 4, none⟩ = some (.int .i64 x4) ∧ W.cell? ⟨wr.heap.size, 5, none⟩ = some (.int .i64 x5)) from by
          rw [hC] at h
          obtain ⟨k0, k1, k2, k3, k4, k5⟩ := (RA.out.below h (by omega)).six
          exact ⟨k0, k1, k2, k3, k4, k5⟩)
        have HC3 := Lib.hid (fun (W W' : World) (h : C W) (b : Below W.heap.size W W') => show C W' by
          rw [hC] at h ⊢
          exact h.trans (b.mono (by have := h.size; omega)))
        have HC4 := Lib.hid (fun (W : World) (h : C W) => show Below w.heap.size w W by
          rw [hC] at h
          exact HB0.out.trans (h.mono (by have := HB.out.size; omega)))
        have hc0 : C (wr.alloc (.cells #[.int .i64 x0, .int .i64 x1, .int .i64 x2, .int .i64 x3, .int .i64 x4, .int .i64 x5] 89)).drew := by
          rw [hC]
          exact (Below.refl _ _).drew
        clear hC hz RA HSTEP
        by_cases h1 : 0 ≤ x0 ∧ x0 ≤ 639
        case neg =>
          have HG := Lib.hid (HF.out (fun e => h1 (HST.out.1 e).1))
          have HI := Lib.hid (fun (W : World) => inr_no x0 0 639 W h1)
          clear HF HY HST h1 HR
          go_wp2_with fail
          refine wp_region_own (by kernel_rfl) (by kernel_rfl) hc0 ?_
          repeat (first
            | go_big_quiet_skip
            | (go_big_quiet_want
               go_big_quiet_op
               first
                 | go_big_quiet_on
                 | (apply Exists.intro
                    refine ⟨fun W hW => ?_, ?_⟩
                    · (first
                        | rfl
                        | (go_at_call 70
                           refine (HI.out _).mono ?_
                           rintro e w1 ⟨rfl, rfl⟩
                           exact ⟨rfl, hW⟩)
                        | (obtain ⟨k0, k1, k2, k3, k4, k5⟩ := (HC1.out _ hW)
                           simp only [k0, k1, k2, k3, k4, k5, Result.andThen]
                           exact ⟨trivial, rfl⟩))
                    go_big_quiet_on)))
          refine wpQuiet_nil ?_
          intro w1 hw1
          have HW1 := Lib.hid (HC4.out _ hw1)
          clear hw1 hc0
          go_wp2
          go_ret
          exact ⟨ret_bool HG.out.symm, HW1.out⟩
        have HI := Lib.hid (fun (W : World) => inr_yes x0 0 639 W h1.1 h1.2)
        obtain ⟨rm, hrm⟩ := prop_dec' (MetaOk x1 x2 x3 x4 x5)
        have HM := Lib.hid (fun (W : World) => specMeta_any x1 x2 x3 x4 x5 rm W hrm)
        have HRM := Lib.hid hrm
        have HH1 := Lib.hid h1
        clear h1 hrm
        cases rm with
        | false =>
          have HG := Lib.hid (HF.out (fun e => by have := HRM.out.2 (HST.out.1 e).2.1; cases this))
          clear HF HY HST HRM HR
          go_wp2_with fail
          refine wp_region_own (by kernel_rfl) (by kernel_rfl) hc0 ?_
          repeat (first
            | go_big_quiet_skip
            | (go_big_quiet_want
               go_big_quiet_op
               first
                 | go_big_quiet_on
                 | (apply Exists.intro
                    refine ⟨fun W hW => ?_, ?_⟩
                    · (first
                        | rfl
                        | (go_at_call 70
                           refine (HI.out _).mono ?_
                           rintro e w1 ⟨rfl, rfl⟩
                           exact ⟨rfl, hW⟩)
                        | (go_at_call 44
                           refine (HM.out _).mono ?_
                           rintro e w1 ⟨rfl, b⟩
                           exact ⟨rfl, HC3.out _ _ hW b⟩)
                        | (obtain ⟨k0, k1, k2, k3, k4, k5⟩ := (HC1.out _ hW)
                           simp only [k0, k1, k2, k3, k4, k5, Result.andThen]
                           exact ⟨trivial, rfl⟩))
                    go_big_quiet_on)))
          refine wpQuiet_nil ?_
          intro w1 hw1
          have HW1 := Lib.hid (HC4.out _ hw1)
          clear hw1 hc0
          go_wp2
          go_ret
          exact ⟨ret_bool HG.out.symm, HW1.out⟩
        | true =>
          by_cases h4 : x1 = 4
          · have d5 : (x1 == 4) = true := by simpa using h4
            have HG := Lib.hid (HF.out (fun e => (HST.out.1 e).2.2 h4))
            clear HF HY HST HRM HR h4
            go_wp2_with fail
            refine wp_region_own (by kernel_rfl) (by kernel_rfl) hc0 ?_
            repeat (first
              | go_big_quiet_skip
              | (go_big_quiet_want
                 go_big_quiet_op
                 first
                   | go_big_quiet_on
                   | (apply Exists.intro
                      refine ⟨fun W hW => ?_, ?_⟩
                      · (first
                          | rfl
                          | (go_at_call 70
                             refine (HI.out _).mono ?_
                             rintro e w1 ⟨rfl, rfl⟩
                             exact ⟨rfl, hW⟩)
                          | (go_at_call 44
                             refine (HM.out _).mono ?_
                             rintro e w1 ⟨rfl, b⟩
                             exact ⟨rfl, HC3.out _ _ hW b⟩)
                          | (obtain ⟨k0, k1, k2, k3, k4, k5⟩ := (HC1.out _ hW)
                             simp only [k0, k1, k2, k3, k4, k5, Result.andThen]
                             exact ⟨trivial, rfl⟩))
                      go_big_quiet_on)))
            refine wpQuiet_nil ?_
            intro w1 hw1
            have HW1 := Lib.hid (HC4.out _ hw1)
            clear hw1 hc0
            go_wp2
            go_ret
            exact ⟨ret_bool HG.out.symm, HW1.out⟩
          · have d5 : (x1 == 4) = false := by simpa using h4
            have HE2 := Lib.hid (HY.out (HST.out.2 ⟨HH1.out, HRM.out.1 rfl, h4⟩))
            clear HF HY HST HRM HR h4
            go_wp2_with fail
            refine wp_region_own (by kernel_rfl) (by kernel_rfl) hc0 ?_
            repeat (first
              | go_big_quiet_skip
              | (go_big_quiet_want
                 go_big_quiet_op
                 first
                   | go_big_quiet_on
                   | (apply Exists.intro
                      refine ⟨fun W hW => ?_, ?_⟩
                      · (first
                          | rfl
                          | (go_at_call 70
                             refine (HI.out _).mono ?_
                             rintro e w1 ⟨rfl, rfl⟩
                             exact ⟨rfl, hW⟩)
                          | (go_at_call 44
                             refine (HM.out _).mono ?_
                             rintro e w1 ⟨rfl, b⟩
                             exact ⟨rfl, HC3.out _ _ hW b⟩)
                          | (obtain ⟨k0, k1, k2, k3, k4, k5⟩ := (HC1.out _ hW)
                             simp only [k0, k1, k2, k3, k4, k5, Result.andThen]
                             exact ⟨trivial, rfl⟩))
                      go_big_quiet_on)))
            refine wpQuiet_nil ?_
            intro w1 hw1
            have HW1 := Lib.hid (HC4.out _ hw1)
            clear hw1 hc0
            go_wp2
            go_roundw
            case rel => exact ⟨k + 1, by omega, by go_num, HE2, HW1⟩
            case measure => simp [intOf]; omega
      · obtain ⟨j, rfl⟩ : ∃ j, k = j + 1 := ⟨k - 1, by omega⟩
        have HSTEP := Lib.hid (HALL.out (j + 1) hlt)
        obtain ⟨x0, hx0⟩ : ∃ x, x = (L.getD ((j + 1)) Fd.zero).ph := ⟨_, rfl⟩
        obtain ⟨x1, hx1⟩ : ∃ x, x = (L.getD ((j + 1)) Fd.zero).k := ⟨_, rfl⟩
        obtain ⟨x2, hx2⟩ : ∃ x, x = (L.getD ((j + 1)) Fd.zero).l := ⟨_, rfl⟩
        obtain ⟨x3, hx3⟩ : ∃ x, x = (L.getD ((j + 1)) Fd.zero).s := ⟨_, rfl⟩
        obtain ⟨x4, hx4⟩ : ∃ x, x = (L.getD ((j + 1)) Fd.zero).f := ⟨_, rfl⟩
        obtain ⟨x5, hx5⟩ : ∃ x, x = (L.getD ((j + 1)) Fd.zero).c := ⟨_, rfl⟩
        obtain ⟨a0, a1, a2, a3, a4, a5⟩ := HCELL.out wr HB.out (j + 1) hlt
        rw [← hx0] at a0; rw [← hx1] at a1; rw [← hx2] at a2; rw [← hx3] at a3; rw [← hx4] at a4; rw [← hx5] at a5
        obtain ⟨pz, hpz⟩ : ∃ x, x = (L.getD j Fd.zero).ph := ⟨_, rfl⟩
        have ap := (HCELL.out wr HB.out j (by omega)).1
        rw [← hpz] at ap
        have hji : (j : Int) < (n : Int) := by omega
        have d3 : decide ((0 : Int) < (j : Int) + 1) = true := by simp <;> omega
        have HST := Lib.hid (show StepOk L (j + 1) ↔ (((0 ≤ x0 ∧ x0 ≤ 639) ∧ MetaOk x1 x2 x3 x4 x5 ∧ x1 ≠ 4) ∧ pz < x0) from by
          rw [hx0, hx1, hx2, hx3, hx4, hx5, hpz]
          unfold StepOk FdOk
          rw [Nat.add_sub_cancel]
          exact ⟨fun e => ⟨e.1, e.2 (by omega)⟩, fun e => ⟨e.1, fun _ => e.2⟩⟩)
        clear hx0 hx1 hx2 hx3 hx4 hx5 hpz
        have HF := Lib.hid (fun (e : ¬ StepOk L (j + 1)) => not_true HR.out (fun f => e (f _ hlt)))
        have HY := Lib.hid (fun (e : StepOk L (j + 1)) => show ∀ i, i < (j + 1) + 1 → StepOk L i from fun i hi => by
          by_cases f : i = (j + 1)
          · subst f; exact e
          · exact HE.out i (by omega))
        obtain ⟨C, hC⟩ : ∃ C : World → Prop, C = fun W => Below (wr.heap.size + 1) (wr.alloc (.cells #[.int .i64 x0, .int .i64 x1, .int .i64 x2, .int .i64 x3, .int .i64 x4, .int .i64 x5] 89)) W := ⟨_, rfl⟩
        have hz : (wr.alloc (.cells #[.int .i64 x0, .int .i64 x1, .int .i64 x2, .int .i64 x3, .int .i64 x4, .int .i64 x5] 89)).heap.size = wr.heap.size + 1 := by simp
        have RA := Lib.hid (Rw.new wr 89 #[.int .i64 x0, .int .i64 x1, .int .i64 x2, .int .i64 x3, .int .i64 x4, .int .i64 x5])
        have HB0 := Lib.hid (HB.out.alloc HB.out.size (.cells #[.int .i64 x0, .int .i64 x1, .int .i64 x2, .int .i64 x3, .int .i64 x4, .int .i64 x5] 89))
        have HC1 := Lib.hid (fun (W : World) (h : C W) => show (W.cell? ⟨wr.heap.size, 0, none⟩ = some (.int .i64 x0) ∧ W.cell? ⟨wr.heap.size, 1, none⟩ = some (.int .i64 x1) ∧ W.cell? ⟨wr.heap.size, 2, none⟩ = some (.int .i64 x2) ∧ W.cell? ⟨wr.heap.size, 3, none⟩ = some (.int .i64 x3) ∧ W.cell? ⟨wr.heap.size, 4, none⟩ = some (.int .i64 x4) ∧ W.cell? ⟨wr.heap.size, 5, none⟩ = some (.int .i64 x5)) ∧ W.cell? ⟨pb, po + j * 6, none⟩ = some (.int .i64 pz) from by
          rw [hC] at h
          obtain ⟨k0, k1, k2, k3, k4, k5⟩ := (RA.out.below h (by omega)).six
          exact ⟨⟨k0, k1, k2, k3, k4, k5⟩, (h.cell (p := ⟨pb, po + j * 6, none⟩) (by have := HB.out.size; have := HH.out; show pb < _; omega)).trans ((World.cell?_alloc_lt _ _ _ (by have := HB.out.size; have := HH.out; show pb < _; omega)).trans ap)⟩)
        have HC3 := Lib.hid (fun (W W' : World) (h : C W) (b : Below W.heap.size W W') => show C W' by
          rw [hC] at h ⊢
          exact h.trans (b.mono (by have := h.size; omega)))
        have HC4 := Lib.hid (fun (W : World) (h : C W) => show Below w.heap.size w W by
          rw [hC] at h
          exact HB0.out.trans (h.mono (by have := HB.out.size; omega)))
        have hc0 : C (wr.alloc (.cells #[.int .i64 x0, .int .i64 x1, .int .i64 x2, .int .i64 x3, .int .i64 x4, .int .i64 x5] 89)).drew := by
          rw [hC]
          exact (Below.refl _ _).drew
        clear hC hz RA HSTEP
        by_cases h1 : 0 ≤ x0 ∧ x0 ≤ 639
        case neg =>
          have HG := Lib.hid (HF.out (fun e => h1 (HST.out.1 e).1.1))
          have HI := Lib.hid (fun (W : World) => inr_no x0 0 639 W h1)
          clear HF HY HST h1 HR
          go_wp2_with fail
          refine wp_region_own (by kernel_rfl) (by kernel_rfl) hc0 ?_
          repeat (first
            | go_big_quiet_skip
            | (go_big_quiet_want
               go_big_quiet_op
               first
                 | go_big_quiet_on
                 | (apply Exists.intro
                    refine ⟨fun W hW => ?_, ?_⟩
                    · (first
                        | rfl
                        | (go_at_call 70
                           refine (HI.out _).mono ?_
                           rintro e w1 ⟨rfl, rfl⟩
                           exact ⟨rfl, hW⟩)
                        | (obtain ⟨⟨k0, k1, k2, k3, k4, k5⟩, k6⟩ := (HC1.out _ hW)
                           simp only [k0, k1, k2, k3, k4, k5, k6, Result.andThen]
                           exact ⟨trivial, rfl⟩))
                    go_big_quiet_on)))
          refine wpQuiet_nil ?_
          intro w1 hw1
          have HW1 := Lib.hid (HC4.out _ hw1)
          clear hw1 hc0
          go_wp2
          go_ret
          exact ⟨ret_bool HG.out.symm, HW1.out⟩
        have HI := Lib.hid (fun (W : World) => inr_yes x0 0 639 W h1.1 h1.2)
        by_cases h2 : x0 ≤ pz
        case pos =>
          have d4 : decide (pz ≥ x0) = true := by simpa using h2
          have d4' : decide (x0 ≤ pz) = true := by simpa using h2
          have HG := Lib.hid (HF.out (fun e => by have := (HST.out.1 e).2; omega))
          clear HF HY HST h1 h2 HR
          go_wp2_with fail
          refine wp_region_own (by kernel_rfl) (by kernel_rfl) hc0 ?_
          repeat (first
            | go_big_quiet_skip
            | (go_big_quiet_want
               go_big_quiet_op
               first
                 | go_big_quiet_on
                 | (apply Exists.intro
                    refine ⟨fun W hW => ?_, ?_⟩
                    · (first
                        | rfl
                        | (go_at_call 70
                           refine (HI.out _).mono ?_
                           rintro e w1 ⟨rfl, rfl⟩
                           exact ⟨rfl, hW⟩)
                        | (obtain ⟨⟨k0, k1, k2, k3, k4, k5⟩, k6⟩ := (HC1.out _ hW)
                           simp only [k0, k1, k2, k3, k4, k5, k6, Result.andThen]
                           exact ⟨trivial, rfl⟩))
                    go_big_quiet_on)))
          refine wpQuiet_nil ?_
          intro w1 hw1
          have HW1 := Lib.hid (HC4.out _ hw1)
          clear hw1 hc0
          go_wp2
          go_ret
          exact ⟨ret_bool HG.out.symm, HW1.out⟩
        have d4 : decide (pz ≥ x0) = false := by simp; omega
        have d4' : decide (x0 ≤ pz) = false := by simp; omega
        obtain ⟨rm, hrm⟩ := prop_dec' (MetaOk x1 x2 x3 x4 x5)
        have HM := Lib.hid (fun (W : World) => specMeta_any x1 x2 x3 x4 x5 rm W hrm)
        have HRM := Lib.hid hrm
        have HH1 := Lib.hid h1
        have HH2 := Lib.hid (show pz < x0 by omega)
        clear h2
        clear h1 hrm
        cases rm with
        | false =>
          have HG := Lib.hid (HF.out (fun e => by have := HRM.out.2 (HST.out.1 e).1.2.1; cases this))
          clear HF HY HST HRM HR
          go_wp2_with fail
          refine wp_region_own (by kernel_rfl) (by kernel_rfl) hc0 ?_
          repeat (first
            | go_big_quiet_skip
            | (go_big_quiet_want
               go_big_quiet_op
               first
                 | go_big_quiet_on
                 | (apply Exists.intro
                    refine ⟨fun W hW => ?_, ?_⟩
                    · (first
                        | rfl
                        | (go_at_call 70
                           refine (HI.out _).mono ?_
                           rintro e w1 ⟨rfl, rfl⟩
                           exact ⟨rfl, hW⟩)
                        | (go_at_call 44
                           refine (HM.out _).mono ?_
                           rintro e w1 ⟨rfl, b⟩
                           exact ⟨rfl, HC3.out _ _ hW b⟩)
                        | (obtain ⟨⟨k0, k1, k2, k3, k4, k5⟩, k6⟩ := (HC1.out _ hW)
                           simp only [k0, k1, k2, k3, k4, k5, k6, Result.andThen]
                           exact ⟨trivial, rfl⟩))
                    go_big_quiet_on)))
          refine wpQuiet_nil ?_
          intro w1 hw1
          have HW1 := Lib.hid (HC4.out _ hw1)
          clear hw1 hc0
          go_wp2
          go_ret
          exact ⟨ret_bool HG.out.symm, HW1.out⟩
        | true =>
          by_cases h4 : x1 = 4
          · have d5 : (x1 == 4) = true := by simpa using h4
            have HG := Lib.hid (HF.out (fun e => (HST.out.1 e).1.2.2 h4))
            clear HF HY HST HRM HR h4
            go_wp2_with fail
            refine wp_region_own (by kernel_rfl) (by kernel_rfl) hc0 ?_
            repeat (first
              | go_big_quiet_skip
              | (go_big_quiet_want
                 go_big_quiet_op
                 first
                   | go_big_quiet_on
                   | (apply Exists.intro
                      refine ⟨fun W hW => ?_, ?_⟩
                      · (first
                          | rfl
                          | (go_at_call 70
                             refine (HI.out _).mono ?_
                             rintro e w1 ⟨rfl, rfl⟩
                             exact ⟨rfl, hW⟩)
                          | (go_at_call 44
                             refine (HM.out _).mono ?_
                             rintro e w1 ⟨rfl, b⟩
                             exact ⟨rfl, HC3.out _ _ hW b⟩)
                          | (obtain ⟨⟨k0, k1, k2, k3, k4, k5⟩, k6⟩ := (HC1.out _ hW)
                             simp only [k0, k1, k2, k3, k4, k5, k6, Result.andThen]
                             exact ⟨trivial, rfl⟩))
                      go_big_quiet_on)))
            refine wpQuiet_nil ?_
            intro w1 hw1
            have HW1 := Lib.hid (HC4.out _ hw1)
            clear hw1 hc0
            go_wp2
            go_ret
            exact ⟨ret_bool HG.out.symm, HW1.out⟩
          · have d5 : (x1 == 4) = false := by simpa using h4
            have HE2 := Lib.hid (HY.out (HST.out.2 ⟨⟨HH1.out, HRM.out.1 rfl, h4⟩, HH2.out⟩))
            clear HF HY HST HRM HR h4
            go_wp2_with fail
            refine wp_region_own (by kernel_rfl) (by kernel_rfl) hc0 ?_
            repeat (first
              | go_big_quiet_skip
              | (go_big_quiet_want
                 go_big_quiet_op
                 first
                   | go_big_quiet_on
                   | (apply Exists.intro
                      refine ⟨fun W hW => ?_, ?_⟩
                      · (first
                          | rfl
                          | (go_at_call 70
                             refine (HI.out _).mono ?_
                             rintro e w1 ⟨rfl, rfl⟩
                             exact ⟨rfl, hW⟩)
                          | (go_at_call 44
                             refine (HM.out _).mono ?_
                             rintro e w1 ⟨rfl, b⟩
                             exact ⟨rfl, HC3.out _ _ hW b⟩)
                          | (obtain ⟨⟨k0, k1, k2, k3, k4, k5⟩, k6⟩ := (HC1.out _ hW)
                             simp only [k0, k1, k2, k3, k4, k5, k6, Result.andThen]
                             exact ⟨trivial, rfl⟩))
                      go_big_quiet_on)))
            refine wpQuiet_nil ?_
            intro w1 hw1
            have HW1 := Lib.hid (HC4.out _ hw1)
            clear hw1 hc0
            go_wp2
            go_roundw
            case rel => exact ⟨j + 1 + 1, by omega, by go_num, HE2, HW1⟩
            case measure => simp [intOf]; omega
    · obtain rfl : k = n := by omega
      obtain rfl : r = true := HR.out.2 HE.out
      go_wp2
      go_ret
      exact ⟨rfl, HB.out⟩
end Go.Proofs.Ytfnccbanmgfkeaa
