/- The register's functions, in the model and in the program: their contracts. -/
import Derived.Test.YtfnhnekemjnliaaDoorProg
import Derived.Test.YtfnhnekemjnliaaDoorBits
import Derived.WalkKit
import Derived.Lib.Hide
import Derived.ProofKit
namespace Go.Proofs.YtfnhnekemjnliaaDoor
open Go.RowKit


theorem l00In_any (n lo hi : Int) (w : World) :
    Calls Tryd.prog 24 #[.int .i64 n, .int .i64 lo, .int .i64 hi] w fun e w' => e = .returned (.bool (decide (lo ≤ n ∧ n ≤ hi))) ∧ w = w' := by
  by_cases h1 : lo ≤ n
  all_goals by_cases h2 : n ≤ hi
  all_goals
    go_enter Tryd.func24, Tryd.ntmps24
    go_wp2
    go_ret
    exact ⟨ret_bool (by simp [h1, h2]), rfl⟩

theorem nextState_any (s : Nat) (w : World) (h : s < 65536) :
    Calls Tryd.prog 42 #[.int .u16 s] w fun e w' => e = .returned (.int .u16 (stepN s)) ∧ w = w' := by
  have h1 : (s : Int) ≤ 65535 := by omega
  have ha := and1_u16 s h
  have hx := xor_step_u16 s h
  by_cases ho : s % 2 = 1
  · have hb : (bits .and .u16 (s : Int) 1 == 1) = true := by rw [ha, ho]; rfl
    have hX := Lib.hid hx; clear hx ha
    go_enter Tryd.func42, Tryd.ntmps42
    go_wp2
    go_ret
    exact ⟨ret_int (by rw [hX.out, stepN_odd ho]), rfl⟩
  · have hb : (bits .and .u16 (s : Int) 1 == 1) = false := by rw [ha]; simp; omega
    clear hx ha
    go_enter Tryd.func42, Tryd.ntmps42
    go_wp2
    go_ret
    exact ⟨ret_int (by rw [stepN_even ho]; simp), rfl⟩
theorem l02Step_any (s : Nat) (w : World) (h : s < 65536) :
    Calls Tryd.prog 67 #[.int .i64 s] w fun e w' => e = .returned (.int .i64 (stepN s)) ∧ w = w' := by
  have h1 : (s : Int) ≤ 65535 := by omega
  have ha := and1_i64 s (by omega)
  have hx := xor_step_i64 s h
  by_cases ho : s % 2 = 1
  · have hb : (bits .and .i64 (s : Int) 1 == 1) = true := by rw [ha, ho]; rfl
    have hX := Lib.hid hx; clear hx ha
    go_enter Tryd.func67, Tryd.ntmps67
    go_wp2
    go_ret
    exact ⟨ret_int (by rw [hX.out, stepN_odd ho]), rfl⟩
  · have hb : (bits .and .i64 (s : Int) 1 == 1) = false := by rw [ha]; simp; omega
    clear hx ha
    go_enter Tryd.func67, Tryd.ntmps67
    go_wp2
    go_ret
    exact ⟨ret_int (by rw [stepN_even ho]; simp), rfl⟩

theorem l00In_yes (n lo hi : Int) (w : World) (h1 : lo ≤ n) (h2 : n ≤ hi) :
    Calls Tryd.prog 24 #[.int .i64 n, .int .i64 lo, .int .i64 hi] w fun e w' => e = .returned (.bool true) ∧ w = w' :=
  (l00In_any n lo hi w).mono fun _ _ ⟨he, hw⟩ => ⟨by rw [he]; exact ret_bool (by simp [h1, h2]), hw⟩
theorem l00In_no (n lo hi : Int) (w : World) (h : n < lo ∨ hi < n) :
    Calls Tryd.prog 24 #[.int .i64 n, .int .i64 lo, .int .i64 hi] w fun e w' => e = .returned (.bool false) ∧ w = w' :=
  (l00In_any n lo hi w).mono fun _ _ ⟨he, hw⟩ => ⟨by rw [he]; exact ret_bool (by simp; omega), hw⟩
theorem implValid_yes (n : Int) (w : World) (h1 : 1 ≤ n) (h2 : n ≤ 65535) :
    Calls Tryd.prog 41 #[.int .i64 n] w fun e w' => e = .returned (.bool true) ∧ w = w' := by
  go_enter Tryd.func41, Tryd.ntmps41
  go_wp2
  go_ret
  exact ⟨ret_bool (by first | rfl | (simp; done) | (simp; omega)), rfl⟩
theorem implValid_no (n : Int) (w : World) (h : n < 1 ∨ 65535 < n) :
    Calls Tryd.prog 41 #[.int .i64 n] w fun e w' => e = .returned (.bool false) ∧ w = w' := by
  by_cases h1 : 1 ≤ n
  all_goals
    go_enter Tryd.func41, Tryd.ntmps41
    go_wp2
    go_ret
    exact ⟨ret_bool (by first | rfl | (simp; omega)), rfl⟩
theorem implSeed_yes (n : Int) (w : World) (h0 : 0 ≤ n) (h : n ≤ 65534) :
    Calls Tryd.prog 27 #[.int .i64 n] w fun e w' => e = .returned (.int .i64 (n + 1)) ∧ w = w' := by
  go_enter Tryd.func27, Tryd.ntmps27
  go_wp2
  go_ret
  exact ⟨rfl, rfl⟩
theorem implSeed_no (n : Int) (w : World) (h : n < 0 ∨ 65534 < n) :
    Calls Tryd.prog 27 #[.int .i64 n] w fun e w' => e = .returned (.int .i64 0) ∧ w = w' := by
  by_cases h1 : n < 0
  all_goals
    go_enter Tryd.func27, Tryd.ntmps27
    go_wp2
    go_ret
    exact ⟨rfl, rfl⟩
end Go.Proofs.YtfnhnekemjnliaaDoor
