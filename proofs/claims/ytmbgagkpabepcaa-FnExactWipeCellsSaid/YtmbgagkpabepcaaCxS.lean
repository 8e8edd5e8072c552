/- Which cells are valid, in the model: the contracts. -/
import Derived.Test.YtmbgagkpabepcaaProg
import Derived.Test.YtmbgagkpabepcaaCeM
import Derived.Test.YtmbgagkpabepcaaCxN
import Derived.Test.YtmbgagkpabepcaaEqI
namespace Go.Proofs.Ytmbgagkpabepcaa
open Go.RowKit
set_option linter.unusedVariables false
set_option linter.unusedSimpArgs false
set_option maxHeartbeats 4000000 in
set_option maxRecDepth 100000 in
theorem specCeOk_any (u : Value) (M : Ce) (r : Bool) (w : World) (hi : Nat) (h : CeIn w hi u M) (hh : hi ≤ w.heap.size) (hr : r = true ↔ CeOk M) (hl : CeSz M) :
    Calls Try.prog 16 #[u] w fun e w' => e = .returned (.bool r) ∧ Below w.heap.size w w' := by
  obtain ⟨a, rfl, h1⟩ := h
  obtain ⟨A, n, c, rfl, _, _, hn, hA⟩ := h1
  obtain ⟨cs⟩ := M
  unfold cec
  unfold CeSz at hl
  simp only at *
  have r0 := Rw.new w 27 #[.slice A n c]
  have b0 := (Below.refl w.heap.size w).alloc (Nat.le_refl _) (.cells #[.slice A n c] 27)
  have q0 := r0.one
  have R0 := Lib.hid r0
  have B0 := Lib.hid b0
  have HR := Lib.hid (show r = true ↔ (n ≤ 64 ∧ ∀ i, i < n → ChOk cs i) by rw [hr, CeOk]; simp only [hn])
  have HA := Lib.hid hA
  have HN := Lib.hid hn
  have HH := Lib.hid hh
  have hnm : (n : Int) ≤ 1048576 := by omega
  clear r0 b0 hA hr hn hl hh
  by_cases g1 : n ≤ 64
  case neg =>
    obtain rfl : r = false := not_true HR.out (fun e => g1 e.1)
    have d1 : decide ((n : Int) > 64) = true := by simp; omega
    have d1' : decide (64 < (n : Int)) = true := by simp; omega
    clear HR HA g1
    go_enter Try.func16, Try.ntmps16
    go_wp2
    go_ret
    exact ⟨rfl, B0.out⟩
  have d1 : decide ((n : Int) > 64) = false := by simp; omega
  have d1' : decide (64 < (n : Int)) = false := by simp; omega
  have HG := Lib.hid g1
  go_enter Try.func16, Try.ntmps16
  go_wp2
  clear d1 d1'
  go_loopw [3] (fun i wr => ∃ k : Nat, k ≤ n ∧ i = .int .i64 k ∧ Hid (∀ j, j < k → ChOk cs j) ∧ Hid (Below w.heap.size w wr) ∧ Hid (Rw wr w.heap.size 27 #[.slice A n c])) (fun i _ => n - (intOf i).toNat)
  case atStart => exact ⟨0, by omega, rfl, Lib.hid (fun j hj => by omega), B0, R0⟩
  case round =>
    obtain ⟨k, hk, rfl, HE, HB, HRw⟩ := hrel
    clear q0
    have q0 := HRw.out.one
    by_cases hlt : k < n
    · have hki : (k : Int) < (n : Int) := by omega
      obtain ⟨pb, po, rfl, hp2, hpx⟩ := HA.out (by omega)
      have e1 := (HB.out.cell (p := ⟨pb, po + k, none⟩) (by have := HH.out; show pb < _; omega)).trans (hpx k hlt)
      have HF := Lib.hid (fun (e : ¬ ChOk cs k) => not_true HR.out (fun f => e (f.2 k hlt)))
      have HY := Lib.hid (fun (e : ChOk cs k) => show ∀ j, j < k + 1 → ChOk cs j from fun j hj => by
        by_cases f : j = k
        · subst f; exact e
        · exact HE.out j (by omega))
      unfold ChOk at HF HY
      generalize cs.getD k 0 = y at *
      clear hpx hp2
      by_cases hin : 0 ≤ y ∧ y ≤ 255
      case neg =>
        have HG2 := Lib.hid (HF.out hin)
        have HI := Lib.hid (fun (W : World) => inr_no y 0 255 W hin)
        clear HF HY HR HA hin HG HE
        go_wp2_with fail
        refine (HI.out _).mono ?_
        rintro e w1 ⟨rfl, rfl⟩
        go_wp2
        go_ret
        exact ⟨ret_bool HG2.out.symm, HB.out⟩
      have HI := Lib.hid (fun (W : World) => inr_yes y 0 255 W hin.1 hin.2)
      have HY2 := Lib.hid (HY.out hin)
      clear HF HY HR HA hin HG HE
      go_wp2_with fail
      refine (HI.out _).mono ?_
      rintro e w1 ⟨rfl, rfl⟩
      go_wp2
      go_roundw
      case rel => exact ⟨k + 1, by omega, by go_num, HY2, HB, HRw⟩
      case measure => simp [intOf]; omega
    · obtain rfl : k = n := by omega
      have hf : r = true := HR.out.2 ⟨HG.out, HE.out⟩
      subst hf
      clear HR HA HG HE
      go_wp2
      go_ret
      exact ⟨rfl, HB.out⟩
end Go.Proofs.Ytmbgagkpabepcaa
