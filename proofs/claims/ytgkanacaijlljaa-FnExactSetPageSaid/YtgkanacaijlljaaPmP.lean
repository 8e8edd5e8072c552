/- PhysOf, in the program and in the model: the contracts. -/
import Derived.Test.YtgkanacaijlljaaProg
import Derived.Test.YtgkanacaijlljaaPmL
namespace Go.Proofs.Ytgkanacaijlljaa
open Go.RowKit
set_option linter.unusedVariables false
set_option linter.unusedSimpArgs false
/-- What PhysOf answers. -/
def PhIs (M : Pm) (r : Bool) (l v : Int) (ok : Bool) : Prop :=
  (∃ k : Nat, r = true ∧ k < M.mp.length ∧ l = k ∧ M.mp.getD k 0 ≠ -1 ∧ M.tr.getD k false = false ∧ v = M.mp.getD k 0 ∧ ok = true) ∨
  (∃ k : Nat, r = true ∧ k < M.mp.length ∧ l = k ∧ (M.mp.getD k 0 = -1 ∨ (M.mp.getD k 0 ≠ -1 ∧ M.tr.getD k false = true)) ∧ v = 0 ∧ ok = false) ∨
  (r = true ∧ ¬ (0 ≤ l ∧ l < M.mp.length) ∧ v = 0 ∧ ok = false) ∨ (r = false ∧ v = 0 ∧ ok = false)
theorem phIs (M : Pm) (r : Bool) (l : Int) : ∃ v ok, PhIs M r l v ok := by
  cases r
  · exact ⟨0, false, .inr (.inr (.inr ⟨rfl, rfl, rfl⟩))⟩
  · by_cases h : 0 ≤ l ∧ l < M.mp.length
    · obtain ⟨k, rfl⟩ : ∃ k : Nat, l = k := ⟨l.toNat, by omega⟩
      have hk : k < M.mp.length := by omega
      by_cases e : M.mp.getD k 0 = -1
      · exact ⟨0, false, .inr (.inl ⟨k, rfl, hk, rfl, .inl e, rfl, rfl⟩)⟩
      · cases t : M.tr.getD k false
        · exact ⟨_, true, .inl ⟨k, rfl, hk, rfl, e, t, rfl, rfl⟩⟩
        · exact ⟨0, false, .inr (.inl ⟨k, rfl, hk, rfl, .inr ⟨e, t⟩, rfl, rfl⟩)⟩
    · exact ⟨0, false, .inr (.inr (.inl ⟨rfl, h, rfl, rfl⟩))⟩
theorem hasLogical_any (b p l : Int) (A A' : Option Addr) (n c n' c' : Nat) (r : Bool) (w : World) (hn : (n : Int) ≤ 9223372036854775807) (hr : r = true ↔ (0 ≤ l ∧ l < n)) :
    Calls Try.prog 84 #[.agg #[.int .i64 b, .int .i64 p, .slice A n c, .slice A' n' c'], .int .i64 l] w fun e w' => e = .returned (.bool r) ∧ Below w.heap.size w w' := by
  have B0 := Lib.hid ((Below.refl w.heap.size w).alloc (Nat.le_refl _) (.cells #[.int .i64 b, .int .i64 p, .slice A n c, .slice A' n' c'] 59))
  have HR := Lib.hid hr
  have HL := Lib.hid (fun (W : World) => logicalPages_any b p A A' n c n' c' W hn)
  clear hr
  by_cases h1 : 0 ≤ l
  case neg =>
    have d1 : decide (0 ≤ l) = false := by simp; omega
    have d2 : decide (l ≥ 0) = false := by simp; omega
    obtain rfl : r = false := not_true HR.out (fun e => h1 e.1)
    clear HR h1
    go_enter Try.func84, Try.ntmps84
    go_wp2
    go_ret
    exact ⟨rfl, B0.out⟩
  have d1 : decide (0 ≤ l) = true := by simp; omega
  have d2 : decide (l ≥ 0) = true := by simp; omega
  obtain rfl : r = decide (l < (n : Int)) := by
    rw [Bool.eq_iff_iff, HR.out]; simp; omega
  clear HR h1
  go_enter Try.func84, Try.ntmps84
  go_wp2_with fail
  refine (HL.out _).mono ?_
  rintro e w1 ⟨rfl, b1⟩
  have B1 := Lib.hid (B0.out.trans (b1.mono (by simp)))
  go_wp2
  go_ret
  exact ⟨rfl, B1.out⟩
end Go.Proofs.Ytgkanacaijlljaa
