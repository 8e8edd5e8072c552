/- Which cells are valid, in the program: the contracts. -/
import Derived.Test.YtmbgagkpabepcaaProg
import Derived.Test.YtmbgagkpabepcaaCeM
import Derived.Test.YtmbgagkpabepcaaCxN
import Derived.Test.YtmbgagkpabepcaaEqI
namespace Go.Proofs.Ytmbgagkpabepcaa
open Go.RowKit
set_option linter.unusedVariables false
set_option linter.unusedSimpArgs false
theorem outC_any (x : Int) (r : Bool) (w : World) (hr : r = true ↔ ¬ (0 ≤ x ∧ x ≤ 255)) : Calls Try.prog 59 #[.int .i64 x] w fun e w' => e = .returned (.bool r) ∧ w = w' := by
  by_cases h1 : 0 ≤ x
  case neg =>
    obtain rfl : r = true := hr.2 (fun e => h1 e.1)
    have d1 : decide (x < 0) = true := by simp; omega
    clear hr
    go_enter Try.func59, Try.ntmps59
    go_wp2
    go_ret
    exact ⟨rfl, rfl⟩
  have d1 : decide (x < 0) = false := by simp; omega
  obtain rfl : r = decide (x > 255) := by
    rw [Bool.eq_iff_iff, hr]; simp only [decide_eq_true_eq]; omega
  clear hr
  go_enter Try.func59, Try.ntmps59
  go_wp2
  go_ret
  exact ⟨rfl, rfl⟩
set_option maxRecDepth 100000 in
theorem idxVc_any (p : Int → Prop) (v : Value) (cs : List Int) (r : Bool) (w : World) (hi : Nat) (hv : NI w hi v cs) (hh : hi ≤ w.heap.size) (HC : ∀ (W : World) (y : Int) (q : Bool), Below w.heap.size w W → 0 < cs.length → (q = true ↔ p y) → Calls Try.prog 59 #[.int .i64 y] W fun e w' => e = .returned (.bool q) ∧ W = w') (hr : r = true ↔ ∃ i, i < cs.length ∧ p (cs.getD i 0)) (hl : cs.length ≤ 1048576) :
    Calls Try.prog 87 #[v, .func (.func 59) #[] #[]] w fun e w' => ∃ x : Int, e = .returned (.int .i64 x) ∧ (r = true ↔ 0 ≤ x) ∧ Below w.heap.size w w' := by
  obtain ⟨A, n, c, rfl, _, _, hn, hA⟩ := hv
  have HR := Lib.hid hr
  have HA := Lib.hid hA
  have HN := Lib.hid hn
  have HH := Lib.hid hh
  have HO := Lib.hid HC
  have hnm : (n : Int) ≤ 1048576 := by omega
  clear hA hr hn hl hh HC
  go_enter Try.func87, Try.ntmps87
  go_wp2
  go_loopw [5, 8] (fun i0 i wr => ∃ k : Nat, k ≤ n ∧ i = .int .i64 k ∧ Hid (∀ j, j < k → ¬ p (cs.getD j 0)) ∧ Hid (Below w.heap.size w wr)) (fun _ i _ => n - (intOf i).toNat)
  case atStart => exact ⟨0, by omega, rfl, Lib.hid (fun j hj => by omega), Lib.hid (Below.refl _ _)⟩
  case round =>
    obtain ⟨k, hk, rfl, HE, HB⟩ := hrel
    by_cases hlt : k < n
    · have hki : (k : Int) < (n : Int) := by omega
      obtain ⟨pb, po, rfl, hp2, hpx⟩ := HA.out (by omega)
      have e1 := (HB.out.cell (p := ⟨pb, po + k, none⟩) (by have := HH.out; show pb < _; omega)).trans (hpx k hlt)
      obtain ⟨q, hq⟩ := prop_dec' (p (cs.getD k 0))
      have HO1 := Lib.hid (fun (W : World) (B : Below w.heap.size w W) => HO.out W (cs.getD k 0) q B (by rw [HN.out]; omega) hq)
      have HF := Lib.hid (fun (e : q = true) => HR.out.2 ⟨k, by rw [HN.out]; exact hlt, hq.1 e⟩)
      have HY := Lib.hid (fun (e : q = false) => show ∀ j, j < k + 1 → ¬ p (cs.getD j 0) from fun j hj => by
        by_cases f : j = k
        · subst f
          intro h
          have := hq.2 h; rw [e] at this; cases this
        · exact HE.out j (by omega))
      clear hq hpx hp2 HR HE
      generalize cs.getD k 0 = y at *
      go_wp2_with fail
      refine (HO1.out _ HB.out).mono ?_
      rintro e w1 ⟨rfl, rfl⟩
      cases q with
      | true =>
        have HG := Lib.hid (HF.out rfl)
        clear HF HY
        go_wp2
        go_ret
        exact ⟨_, rfl, ⟨fun _ => by omega, fun _ => HG.out⟩, HB.out⟩
      | false =>
        have HG := Lib.hid (HY.out rfl)
        clear HF HY
        go_wp2
        go_roundw
        case rel => exact ⟨k + 1, by omega, by go_num, HG, HB⟩
        case measure => simp [intOf]; omega
    · obtain rfl : k = n := by omega
      have HG := Lib.hid (not_true HR.out (fun ⟨i, hi, e⟩ => HE.out i (by rw [HN.out] at hi; exact hi) e))
      clear HR HE
      go_wp2
      go_ret
      exact ⟨_, rfl, ⟨fun e => absurd (HG.out.symm.trans e) (by decide), fun e => by omega⟩, HB.out⟩
theorem hasVc_any (p : Int → Prop) (v : Value) (cs : List Int) (r : Bool) (w : World) (hi : Nat) (hv : NI w hi v cs) (hh : hi ≤ w.heap.size) (HC : ∀ (W : World) (y : Int) (q : Bool), Below w.heap.size w W → 0 < cs.length → (q = true ↔ p y) → Calls Try.prog 59 #[.int .i64 y] W fun e w' => e = .returned (.bool q) ∧ W = w') (hr : r = true ↔ ∃ i, i < cs.length ∧ p (cs.getD i 0)) (hl : cs.length ≤ 1048576) :
    Calls Try.prog 60 #[v, .func (.func 59) #[] #[]] w fun e w' => e = .returned (.bool r) ∧ Below w.heap.size w w' := by
  obtain ⟨A, n, c, rfl⟩ := hv.slice
  have HI := Lib.hid (idxVc_any p _ cs r w hi hv hh HC hr hl)
  clear hv hr hl hh HC
  go_enter Try.func60, Try.ntmps60
  go_wp2_with fail
  refine HI.out.mono ?_
  rintro e w1 ⟨x, rfl, hx, b⟩
  have HB := Lib.hid b
  have HX := Lib.hid hx
  clear b hx
  go_wp2
  go_ret
  exact ⟨ret_bool (by rw [Bool.eq_iff_iff, HX.out]; simp), HB.out⟩
set_option maxHeartbeats 2000000 in
set_option maxRecDepth 100000 in
theorem implCeOk_any (u : Value) (M : Ce) (r : Bool) (w : World) (hi : Nat) (h : CeIn w hi u M) (hh : hi ≤ w.heap.size) (hr : r = true ↔ CeOk M) (hl : CeSz M) :
    Calls Try.prog 18 #[u] w fun e w' => e = .returned (.bool r) ∧ Below w.heap.size w w' := by
  obtain ⟨a, rfl, h1⟩ := h
  obtain ⟨A, n, c, rfl⟩ := h1.slice
  obtain ⟨cs⟩ := M
  unfold cec
  unfold CeSz at hl
  simp only at *
  obtain ⟨qo, hqo⟩ := prop_dec' (∃ i, i < cs.length ∧ ¬ (0 ≤ cs.getD i 0 ∧ cs.getD i 0 ≤ 255))
  have hn : cs.length = n := by
    obtain ⟨X1, X2, X3, e', _, _, hn, _⟩ := h1
    injection e' with e1 e2 e3
    subst e2; exact hn
  have hnm : (n : Int) ≤ 1048576 := by omega
  have HR := Lib.hid (show r = true ↔ (n ≤ 64 ∧ qo = false) by
    rw [hr, CeOk]
    simp only [hn]
    refine ⟨fun ⟨a, c⟩ => ⟨a, not_true hqo (fun ⟨i, hi, e⟩ => e (c i (by rw [hn] at hi; exact hi)))⟩, fun ⟨a, c⟩ => ⟨a, fun i hi => ?_⟩⟩
    rcases Classical.em (ChOk cs i) with h | h
    · exact h
    · have := hqo.2 ⟨i, by rw [hn]; exact hi, h⟩; rw [c] at this; cases this)
  have r0 := Rw.new w 27 #[.slice A n c]
  have b0 := (Below.refl w.heap.size w).alloc (Nat.le_refl _) (.cells #[.slice A n c] 27)
  have q0 := r0.one
  have B0 := Lib.hid b0
  have HO := Lib.hid (hasVc_any (fun y => ¬ (0 ≤ y ∧ y ≤ 255)) (.slice A n c) cs qo _ hi (h1.below b0 hh) (by simp; omega) (fun W y q _ _ hq => outC_any y q W hq) hqo hl)
  clear h1 hr hl r0 b0 hh hn hqo
  by_cases h2 : n ≤ 64
  case neg =>
    have d2 : decide ((n : Int) ≤ 64) = false := by simp; omega
    obtain rfl : r = false := not_true HR.out (fun e => h2 e.1)
    clear HR h2 HO
    go_enter Try.func18, Try.ntmps18
    go_wp2
    go_ret
    exact ⟨rfl, B0.out⟩
  have d2 : decide ((n : Int) ≤ 64) = true := by simp; omega
  have HG := Lib.hid (show r = !qo by rw [Bool.eq_iff_iff, HR.out]; simp; exact fun _ => h2)
  clear HR h2
  go_enter Try.func18, Try.ntmps18
  go_wp2_with fail
  refine HO.out.mono ?_
  rintro e w1 ⟨rfl, b⟩
  have B1 := Lib.hid (B0.out.trans (b.mono (by simp)))
  clear b
  go_wp2
  go_ret
  exact ⟨ret_bool HG.out.symm, B1.out⟩
end Go.Proofs.Ytmbgagkpabepcaa
