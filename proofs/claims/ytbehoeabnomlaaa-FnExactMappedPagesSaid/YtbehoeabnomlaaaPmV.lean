/- Which maps are valid, in the program and in the model: the small contracts. -/
import Derived.Test.YtbehoeabnomlaaaProg
import Derived.Test.YtbehoeabnomlaaaPmM
import Derived.Test.YtbehoeabnomlaaaOwnR
import Derived.Test.YtbehoeabnomlaaaEqI
import Derived.Test.YtbehoeabnomlaaaVl
namespace Go.Proofs.Ytbehoeabnomlaaa
open Go.RowKit
set_option linter.unusedVariables false
set_option linter.unusedSimpArgs false
theorem sizeOk_div {b p : Int} (hb : 1 ≤ b) (hp : 1 ≤ p) : (b ≤ 640 / p) ↔ ((1 ≤ b ∧ b ≤ 640) ∧ (1 ≤ p ∧ p ≤ 640) ∧ b * p ≤ 640) := by
  rw [Int.le_ediv_iff_mul_le (by omega)]
  constructor
  · intro h
    have h1 : b * 1 ≤ b * p := Int.mul_le_mul_of_nonneg_left hp (by omega)
    have h2 : 1 * p ≤ b * p := Int.mul_le_mul_of_nonneg_right hb (by omega)
    exact ⟨⟨hb, by omega⟩, ⟨hp, by omega⟩, h⟩
  · exact fun h => h.2.2
theorem implSizes_any (l b p : Int) (r : Bool) (w : World) (hr : r = true ↔ SizeOk l b p) :
    Calls Try.prog 58 #[.int .i64 l, .int .i64 b, .int .i64 p] w fun e w' => e = .returned (.bool r) ∧ Below w.heap.size w w' := by
  have B0 := Lib.hid (Below.refl w.heap.size w)
  have HR := Lib.hid hr
  obtain ⟨q, hq⟩ := prop_dec' (1 ≤ l ∧ l ≤ 48)
  have HV := Lib.hid (fun (W : World) => validLogical_any l q W hq)
  clear hr
  cases q with
  | false =>
    obtain rfl : r = false := not_true HR.out (fun e => by have := hq.2 e.1; cases this)
    clear HR hq
    go_enter Try.func58, Try.ntmps58
    go_wp2_with fail
    refine (HV.out _).mono ?_
    rintro e w1 ⟨rfl, rfl⟩
    go_wp2
    go_ret
    exact ⟨rfl, B0.out⟩
  | true =>
  have hl := hq.1 rfl
  clear hq
  by_cases h3 : 1 ≤ b
  case neg =>
    have d3 : decide (1 ≤ b) = false := by simp; omega
    have d3' : decide (b ≥ 1) = false := by simp; omega
    obtain rfl : r = false := not_true HR.out (fun e => h3 e.2.1.1)
    clear HR h3
    go_enter Try.func58, Try.ntmps58
    go_wp2_with fail
    refine (HV.out _).mono ?_
    rintro e w1 ⟨rfl, rfl⟩
    go_wp2
    go_ret
    exact ⟨rfl, B0.out⟩
  have d3 : decide (1 ≤ b) = true := by simp; omega
  have d3' : decide (b ≥ 1) = true := by simp; omega
  by_cases h4 : 1 ≤ p
  case neg =>
    have d4 : decide (1 ≤ p) = false := by simp; omega
    have d4' : decide (p ≥ 1) = false := by simp; omega
    obtain rfl : r = false := not_true HR.out (fun e => h4 e.2.2.1.1)
    clear HR h3 h4
    go_enter Try.func58, Try.ntmps58
    go_wp2_with fail
    refine (HV.out _).mono ?_
    rintro e w1 ⟨rfl, rfl⟩
    go_wp2
    go_ret
    exact ⟨rfl, B0.out⟩
  have d4 : decide (1 ≤ p) = true := by simp; omega
  have d4' : decide (p ≥ 1) = true := by simp; omega
  have ht : (640 : Int).tdiv p = 640 / p := Int.tdiv_eq_ediv_of_nonneg (by omega)
  have h0 : p ≠ 0 := by omega
  have q1 : 640 / p ≤ 640 := Int.ediv_le_self _ (by omega)
  have q2 : 0 ≤ 640 / p := Int.ediv_nonneg (by omega) (by omega)
  obtain rfl : r = decide (b ≤ 640 / p) := by
    rw [Bool.eq_iff_iff, HR.out]
    simp only [decide_eq_true_eq]
    rw [sizeOk_div h3 h4]
    unfold SizeOk
    constructor
    · exact fun e => e.2
    · exact fun e => ⟨hl, e⟩
  generalize 640 / p = q at *
  have w1 : IntKind.i64.wrap q = q := IntWalk.i64_in _ (by omega)
  clear HR h3 h4 hl
  go_enter Try.func58, Try.ntmps58
  go_wp2_with fail
  refine (HV.out _).mono ?_
  rintro e w1 ⟨rfl, rfl⟩
  go_wp2
  go_ret
  exact ⟨rfl, B0.out⟩
theorem logicalPages_any (b p : Int) (A A' : Option Addr) (n c n' c' : Nat) (w : World) (hn : (n : Int) ≤ 9223372036854775807) :
    Calls Try.prog 59 #[.agg #[.int .i64 b, .int .i64 p, .slice A n c, .slice A' n' c']] w fun e w' => e = .returned (.int .i64 n) ∧ Below w.heap.size w w' := by
  have B0 := Lib.hid ((Below.refl w.heap.size w).alloc (Nat.le_refl _) (.cells #[.int .i64 b, .int .i64 p, .slice A n c, .slice A' n' c'] 28))
  go_enter Try.func59, Try.ntmps59
  go_wp2
  go_ret
  exact ⟨rfl, B0.out⟩
end Go.Proofs.Ytbehoeabnomlaaa
