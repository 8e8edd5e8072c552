/- Which write counters are valid, in the program: the contracts. -/
import Derived.Test.YtgkanacaijlljaaProg
import Derived.Test.YtgkanacaijlljaaHtM
import Derived.Test.YtgkanacaijlljaaEqI
import Derived.Test.YtgkanacaijlljaaOwnR
namespace Go.Proofs.Ytgkanacaijlljaa
open Go.RowKit
set_option linter.unusedVariables false
set_option linter.unusedSimpArgs false
theorem validLogical_any (n : Int) (r : Bool) (w : World) (hr : r = true ↔ (1 ≤ n ∧ n ≤ 48)) : Calls Try.prog 59 #[.int .i64 n] w fun e w' => e = .returned (.bool r) ∧ w = w' := by
  by_cases h1 : 1 ≤ n
  case neg =>
    obtain rfl : r = false := not_true hr (fun e => h1 e.1)
    have d1 : decide (1 ≤ n) = false := by simp; omega
    have d1' : decide (n ≥ 1) = false := by simp; omega
    clear hr
    go_enter Try.func59, Try.ntmps59
    go_wp2
    go_ret
    exact ⟨rfl, rfl⟩
  have d1 : decide (1 ≤ n) = true := by simp; omega
  have d1' : decide (n ≥ 1) = true := by simp; omega
  obtain rfl : r = decide (n ≤ 48) := by
    rw [Bool.eq_iff_iff, hr]; simp only [decide_eq_true_eq]; exact ⟨fun e => e.2, fun e => ⟨h1, e⟩⟩
  clear hr
  go_enter Try.func59, Try.ntmps59
  go_wp2
  go_ret
  exact ⟨rfl, rfl⟩
theorem heatPages_any (g : Nat) (A : Option Addr) (n c : Nat) (x : Int) (w : World) (hR : Rw w g 27 #[.slice A n c, .int .i64 x]) (hn : (n : Int) ≤ 9223372036854775807) :
    Calls Try.prog 60 #[.pointer (some ⟨g, 0, none⟩)] w fun e w' => e = .returned (.int .i64 n) ∧ w = w' := by
  obtain ⟨q0, q1⟩ := hR.two
  clear hR
  go_enter Try.func60, Try.ntmps60
  go_wp2
  go_ret
  exact ⟨rfl, rfl⟩
theorem outside_any (x : Int) (r : Bool) (w : World) (hr : r = true ↔ ¬ (0 ≤ x ∧ x ≤ 1000000)) : Calls Try.prog 58 #[.int .i64 x] w fun e w' => e = .returned (.bool r) ∧ w = w' := by
  by_cases h1 : 0 ≤ x
  case neg =>
    obtain rfl : r = true := hr.2 (fun e => h1 e.1)
    have d1 : decide (x < 0) = true := by simp; omega
    clear hr
    go_enter Try.func58, Try.ntmps58
    go_wp2
    go_ret
    exact ⟨rfl, rfl⟩
  have d1 : decide (x < 0) = false := by simp; omega
  obtain rfl : r = decide (x > 1000000) := by
    rw [Bool.eq_iff_iff, hr]; simp only [decide_eq_true_eq]; omega
  clear hr
  go_enter Try.func58, Try.ntmps58
  go_wp2
  go_ret
  exact ⟨rfl, rfl⟩
set_option maxRecDepth 100000 in
/-- The first count outside its bounds. -/
theorem idxOut_any (v : Value) (cs : List Int) (r : Bool) (w : World) (hi : Nat) (hv : NI w hi v cs) (hh : hi ≤ w.heap.size) (hr : r = true ↔ ∃ i, i < cs.length ∧ ¬ CntOk cs i) (hl : cs.length ≤ 1048576) :
    Calls Try.prog 92 #[v, .func (.func 58) #[] #[]] w fun e w' => ∃ x : Int, e = .returned (.int .i64 x) ∧ (r = true ↔ 0 ≤ x) ∧ Below w.heap.size w w' := by
  obtain ⟨A, n, c, rfl, _, _, hn, hA⟩ := hv
  have HR := Lib.hid hr
  have HA := Lib.hid hA
  have HN := Lib.hid hn
  have HH := Lib.hid hh
  have hnm : (n : Int) ≤ 1048576 := by omega
  clear hA hr hn hl hh
  go_enter Try.func92, Try.ntmps92
  go_wp2
  go_loopw [5, 8] (fun i0 i wr => ∃ k : Nat, k ≤ n ∧ i = .int .i64 k ∧ Hid (∀ j, j < k → CntOk cs j) ∧ Hid (Below w.heap.size w wr)) (fun _ i _ => n - (intOf i).toNat)
  case atStart => exact ⟨0, by omega, rfl, Lib.hid (fun j hj => by omega), Lib.hid (Below.refl _ _)⟩
  case round =>
    obtain ⟨k, hk, rfl, HE, HB⟩ := hrel
    by_cases hlt : k < n
    · have hki : (k : Int) < (n : Int) := by omega
      obtain ⟨pb, po, rfl, hp2, hpx⟩ := HA.out (by omega)
      have e1 := (HB.out.cell (p := ⟨pb, po + k, none⟩) (by have := HH.out; show pb < _; omega)).trans (hpx k hlt)
      obtain ⟨q, hq⟩ := prop_dec' (¬ (0 ≤ cs.getD k 0 ∧ cs.getD k 0 ≤ 1000000))
      have HO := Lib.hid (fun (W : World) => outside_any (cs.getD k 0) q W hq)
      have HQ0 := Lib.hid (show q = true → ¬ CntOk cs k from fun e => hq.1 e)
      have HQ1 := Lib.hid (show ¬ CntOk cs k → q = true from fun e => hq.2 e)
      clear hq
      generalize cs.getD k 0 = y at *
      have HF := Lib.hid (fun (e : q = true) => HR.out.2 ⟨k, by rw [HN.out]; exact hlt, HQ0.out e⟩)
      have HY := Lib.hid (fun (e : q = false) => show ∀ j, j < k + 1 → CntOk cs j from fun j hj => by
        by_cases f : j = k
        · subst f
          rcases Classical.em (CntOk cs j) with h | h
          · exact h
          · have := HQ1.out h; rw [e] at this; cases this
        · exact HE.out j (by omega))
      clear hpx hp2 HR HE HQ0 HQ1
      go_wp2_with fail
      refine (HO.out _).mono ?_
      rintro e w1 ⟨rfl, rfl⟩
      cases q with
      | true =>
        have HG := Lib.hid (HF.out rfl)
        clear HF HY
        go_wp2
        go_ret
        exact ⟨_, rfl, ⟨fun _ => by omega, fun _ => HG.out⟩, HB.out⟩
      | false =>
        have HG := Lib.hid (HY.out rfl)
        clear HF HY
        go_wp2
        go_roundw
        case rel => exact ⟨k + 1, by omega, by go_num, HG, HB⟩
        case measure => simp [intOf]; omega
    · obtain rfl : k = n := by omega
      have HG := Lib.hid (not_true HR.out (fun ⟨i, hi, e⟩ => e (HE.out i (by rw [HN.out] at hi; exact hi))))
      clear HR HE
      go_wp2
      go_ret
      exact ⟨_, rfl, ⟨fun e => absurd (HG.out.symm.trans e) (by decide), fun e => by omega⟩, HB.out⟩
theorem anyOut_any (v : Value) (cs : List Int) (r : Bool) (w : World) (hi : Nat) (hv : NI w hi v cs) (hh : hi ≤ w.heap.size) (hr : r = true ↔ ∃ i, i < cs.length ∧ ¬ CntOk cs i) (hl : cs.length ≤ 1048576) :
    Calls Try.prog 61 #[v, .func (.func 58) #[] #[]] w fun e w' => e = .returned (.bool r) ∧ Below w.heap.size w w' := by
  obtain ⟨A, n, c, rfl⟩ := hv.slice
  have HI := Lib.hid (idxOut_any _ cs r w hi hv hh hr hl)
  clear hv hr hl hh
  go_enter Try.func61, Try.ntmps61
  go_wp2_with fail
  refine HI.out.mono ?_
  rintro e w1 ⟨x, rfl, hx, b⟩
  have HB := Lib.hid b
  have HX := Lib.hid hx
  clear b hx
  go_wp2
  go_ret
  exact ⟨ret_bool (by rw [Bool.eq_iff_iff, HX.out]; simp), HB.out⟩
set_option maxHeartbeats 2000000 in
set_option maxRecDepth 100000 in
theorem implHtOk_any (u : Value) (M : Ht) (r : Bool) (w : World) (hi : Nat) (h : HtIn w hi u M) (hh : hi ≤ w.heap.size) (hr : r = true ↔ HtOk M) (hl : HtSz M) :
    Calls Try.prog 18 #[u] w fun e w' => e = .returned (.bool r) ∧ Below w.heap.size w w' := by
  obtain ⟨a, rfl, h1⟩ := h
  obtain ⟨A, n, c, rfl⟩ := h1.slice
  obtain ⟨cs, x⟩ := M
  unfold htc
  simp only at *
  obtain ⟨qv, hqv⟩ := prop_dec' (1 ≤ (n : Int) ∧ (n : Int) ≤ 48)
  obtain ⟨qo, hqo⟩ := prop_dec' (∃ i, i < cs.length ∧ ¬ CntOk cs i)
  have hn : cs.length = n := by
    obtain ⟨X1, X2, X3, e', _, _, hn, _⟩ := h1
    injection e' with e1 e2 e3
    subst e2; exact hn
  unfold HtSz at hl
  simp only at hl
  have hnm : (n : Int) ≤ 1048576 := by omega
  have HR := Lib.hid (show r = true ↔ (qv = true ∧ (0 ≤ x ∧ x ≤ 15) ∧ qo = false) by
    rw [hr, HtOk, hqv]
    simp only [hn]
    refine ⟨fun ⟨a, b, c⟩ => ⟨by omega, b, not_true hqo (fun ⟨i, hi, e⟩ => e (c i (by rw [hn] at hi; exact hi)))⟩, fun ⟨a, b, c⟩ => ⟨by omega, b, fun i hi => ?_⟩⟩
    rcases Classical.em (CntOk cs i) with h | h
    · exact h
    · have := hqo.2 ⟨i, by rw [hn]; exact hi, h⟩; rw [c] at this; cases this)
  have r0 := Rw.new w 27 #[.slice A n c, .int .i64 x]
  have b0 := (Below.refl w.heap.size w).alloc (Nat.le_refl _) (.cells #[.slice A n c, .int .i64 x] 27)
  obtain ⟨q0, q1⟩ := r0.two
  have B0 := Lib.hid b0
  have HP := Lib.hid (heatPages_any w.heap.size A n c x _ r0 (by omega))
  have HV := Lib.hid (fun (W : World) => validLogical_any (n : Int) qv W hqv)
  have HO := Lib.hid (anyOut_any (.slice A n c) cs qo _ hi (h1.below b0 hh) (by simp; omega) hqo hl)
  clear h1 hr hl r0 b0 hh hn hqv hqo
  cases qv with
  | false =>
    obtain rfl : r = false := not_true HR.out (fun e => Bool.false_ne_true e.1)
    clear HR HO
    go_enter Try.func18, Try.ntmps18
    go_wp2_with fail
    refine HP.out.mono ?_
    rintro e w1 ⟨rfl, rfl⟩
    go_wp2_with fail
    refine (HV.out _).mono ?_
    rintro e w1 ⟨rfl, rfl⟩
    go_wp2
    go_ret
    exact ⟨rfl, B0.out⟩
  | true =>
  have HD := Lib.hid (show r = (decide (0 ≤ x) && decide (x ≤ 15) && !qo) by
    rw [Bool.eq_iff_iff, HR.out]; simp)
  go_enter Try.func18, Try.ntmps18
  go_wp2_with fail
  refine HP.out.mono ?_
  rintro e w1 ⟨rfl, rfl⟩
  go_wp2_with fail
  refine (HV.out _).mono ?_
  rintro e w1 ⟨rfl, rfl⟩
  by_cases h0 : 0 ≤ x
  case neg =>
    have d0 : decide (0 ≤ x) = false := by simp; omega
    have d0' : decide (x ≥ 0) = false := by simp; omega
    have HG := Lib.hid (show r = false by rw [HD.out, d0]; try rfl)
    clear HD HR h0
    go_wp2
    go_ret
    exact ⟨ret_bool HG.out.symm, B0.out⟩
  have d0 : decide (0 ≤ x) = true := by simp; omega
  have d0' : decide (x ≥ 0) = true := by simp; omega
  by_cases h2 : x < 16
  case neg =>
    have d2 : decide (x < 16) = false := by simp; omega
    have HG := Lib.hid (show r = false by rw [HD.out, d0, show decide (x ≤ 15) = false by simp; omega]; rfl)
    clear HD HR h0 h2
    go_wp2
    go_ret
    exact ⟨ret_bool HG.out.symm, B0.out⟩
  have d2 : decide (x < 16) = true := by simp; omega
  have HG := Lib.hid (show r = !qo by rw [HD.out, d0, show decide (x ≤ 15) = true by simp; omega]; rfl)
  clear HD HR h0 h2
  go_wp2_with fail
  refine HO.out.mono ?_
  rintro e w1 ⟨rfl, b⟩
  have B1 := Lib.hid (B0.out.trans (b.mono (by simp)))
  clear b
  go_wp2
  go_ret
  exact ⟨ret_bool HG.out.symm, B1.out⟩
end Go.Proofs.Ytgkanacaijlljaa
