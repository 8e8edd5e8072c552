/- Which write counters are valid, in the model: the contracts. -/
import Derived.Test.YtgkanacaijlljaaProg
import Derived.Test.YtgkanacaijlljaaHtM
import Derived.Test.YtgkanacaijlljaaEqI
namespace Go.Proofs.Ytgkanacaijlljaa
open Go.RowKit
set_option linter.unusedVariables false
set_option linter.unusedSimpArgs false
set_option maxHeartbeats 4000000 in
set_option maxRecDepth 100000 in
theorem specOkH_any (g : Nat) (cs : List Int) (x : Int) (u : Value) (r : Bool) (w : World) (hi : Nat) (hR : Rw w g 27 #[u, .int .i64 x]) (hu : NI w hi u cs) (hh : hi ≤ w.heap.size) (hr : r = true ↔ HtOk ⟨cs, x⟩) (hl : cs.length ≤ 1048576) :
    Calls Try.prog 56 #[.pointer (some ⟨g, 0, none⟩)] w fun e w' => e = .returned (.bool r) ∧ Below w.heap.size w w' := by
  obtain ⟨A, n, c, rfl, _, _, hn, hA⟩ := hu
  obtain ⟨q0, q1⟩ := hR.two
  have hg := hR.lt
  have R0 := Lib.hid hR
  have B0 := Lib.hid (Below.refl w.heap.size w)
  have HR := Lib.hid (show r = true ↔ ((1 ≤ n ∧ n ≤ 48) ∧ (0 ≤ x ∧ x ≤ 15) ∧ ∀ i, i < n → CntOk cs i) by rw [hr, HtOk]; simp only [hn])
  have HA := Lib.hid hA
  have HN := Lib.hid hn
  have HH := Lib.hid hh
  have hnm : (n : Int) ≤ 1048576 := by omega
  clear hR hA hr hn hl hh
  by_cases g0 : n = 0
  · subst g0
    obtain rfl : r = false := not_true HR.out (fun e => by have := e.1; omega)
    clear HR HA
    go_enter Try.func56, Try.ntmps56
    go_wp2
    go_ret
    exact ⟨rfl, B0.out⟩
  have d0 : decide ((n : Int) < 1) = false := by simp; omega
  have d0' : decide (n < 1) = false := by simp; omega
  have d0'' : decide (n = 0) = false := by simp; omega
  by_cases g1 : n ≤ 48
  case neg =>
    obtain rfl : r = false := not_true HR.out (fun e => g1 e.1.2)
    have d1 : decide (48 < (n : Int)) = true := by simp; omega
    have d1' : decide (48 < n) = true := by simp; omega
    have d1'' : decide ((n : Int) > 48) = true := by simp; omega
    clear HR HA g0 g1
    go_enter Try.func56, Try.ntmps56
    go_wp2
    go_ret
    exact ⟨rfl, B0.out⟩
  have d1 : decide (48 < (n : Int)) = false := by simp; omega
  have d1' : decide (48 < n) = false := by simp; omega
  have d1'' : decide ((n : Int) > 48) = false := by simp; omega
  by_cases g2 : 0 ≤ x ∧ x ≤ 15
  case neg =>
    obtain rfl : r = false := not_true HR.out (fun e => g2 e.2.1)
    have HI := Lib.hid (fun (W : World) => inr_no x 0 15 W g2)
    clear HR HA g0 g1 g2
    go_enter Try.func56, Try.ntmps56
    go_wp2_with fail
    refine (HI.out _).mono ?_
    rintro e w1 ⟨rfl, rfl⟩
    go_wp2
    go_ret
    exact ⟨rfl, B0.out⟩
  have HI := Lib.hid (fun (W : World) => inr_yes x 0 15 W g2.1 g2.2)
  have HG := Lib.hid (show (1 ≤ n ∧ n ≤ 48) ∧ (0 ≤ x ∧ x ≤ 15) from ⟨⟨by omega, g1⟩, g2⟩)
  clear g0 g1 g2
  go_enter Try.func56, Try.ntmps56
  go_wp2_with fail
  refine (HI.out _).mono ?_
  rintro e w1 ⟨rfl, rfl⟩
  go_wp2
  clear HI d0 d0' d0'' d1 d1' d1''
  go_loopw [3] (fun i wr => ∃ k : Nat, k ≤ n ∧ i = .int .i64 k ∧ Hid (∀ j, j < k → CntOk cs j) ∧ Hid (Below w.heap.size w wr)) (fun i _ => n - (intOf i).toNat)
  case atStart => exact ⟨0, by omega, rfl, Lib.hid (fun j hj => by omega), B0⟩
  case round =>
    obtain ⟨k, hk, rfl, HE, HB⟩ := hrel
    clear q0 q1
    obtain ⟨q0, q1⟩ := (R0.out.below HB.out hg).two
    by_cases hlt : k < n
    · have hki : (k : Int) < (n : Int) := by omega
      obtain ⟨pb, po, rfl, hp2, hpx⟩ := HA.out (by omega)
      have e1 := (HB.out.cell (p := ⟨pb, po + k, none⟩) (by have := HH.out; show pb < _; omega)).trans (hpx k hlt)
      have HF := Lib.hid (fun (e : ¬ CntOk cs k) => not_true HR.out (fun f => e (f.2.2 k hlt)))
      have HY := Lib.hid (fun (e : CntOk cs k) => show ∀ j, j < k + 1 → CntOk cs j from fun j hj => by
        by_cases f : j = k
        · subst f; exact e
        · exact HE.out j (by omega))
      unfold CntOk at HF HY
      generalize cs.getD k 0 = y at *
      clear hpx hp2
      by_cases hin : 0 ≤ y ∧ y ≤ 1000000
      case neg =>
        have HG2 := Lib.hid (HF.out hin)
        have HI := Lib.hid (fun (W : World) => inr_no y 0 1000000 W hin)
        clear HF HY HR HA hin HG HE
        go_wp2_with fail
        refine (HI.out _).mono ?_
        rintro e w1 ⟨rfl, rfl⟩
        go_wp2
        go_ret
        exact ⟨ret_bool HG2.out.symm, HB.out⟩
      have HI := Lib.hid (fun (W : World) => inr_yes y 0 1000000 W hin.1 hin.2)
      have HY2 := Lib.hid (HY.out hin)
      clear HF HY HR HA hin HG HE
      go_wp2_with fail
      refine (HI.out _).mono ?_
      rintro e w1 ⟨rfl, rfl⟩
      go_wp2
      go_roundw
      case rel => exact ⟨k + 1, by omega, by go_num, HY2, HB⟩
      case measure => simp [intOf]; omega
    · obtain rfl : k = n := by omega
      have hf : r = true := HR.out.2 ⟨HG.out.1, HG.out.2, HE.out⟩
      subst hf
      clear HR HA HG HE
      go_wp2
      go_ret
      exact ⟨rfl, HB.out⟩
theorem specHtOk_any (u : Value) (M : Ht) (r : Bool) (w : World) (hi : Nat) (h : HtIn w hi u M) (hh : hi ≤ w.heap.size) (hr : r = true ↔ HtOk M) (hl : HtSz M) :
    Calls Try.prog 16 #[u] w fun e w' => e = .returned (.bool r) ∧ Below w.heap.size w w' := by
  obtain ⟨a, rfl, h1⟩ := h
  obtain ⟨A, n, c, rfl⟩ := h1.slice
  obtain ⟨cs, x⟩ := M
  unfold htc
  simp only at *
  have r0 := Rw.new w 27 #[.slice A n c, .int .i64 x]
  have b0 := (Below.refl w.heap.size w).alloc (Nat.le_refl _) (.cells #[.slice A n c, .int .i64 x] 27)
  have HS := Lib.hid (specOkH_any w.heap.size cs x _ r _ hi r0 (h1.below b0 hh) (by simp; omega) hr (by unfold HtSz at hl; simpa using hl))
  have B0 := Lib.hid b0
  clear h1 hr hl r0 b0
  go_enter Try.func16, Try.ntmps16
  go_wp2_with fail
  refine HS.out.mono ?_
  rintro e w1 ⟨rfl, b1⟩
  have B1 := Lib.hid (B0.out.trans (b1.mono (by simp)))
  clear b1
  go_wp2
  go_ret
  exact ⟨rfl, B1.out⟩
end Go.Proofs.Ytgkanacaijlljaa
