/- The register's functions, in the model and in the program: their contracts. -/
import Derived.Test.YthenilomgbnpeaaDoorProg
import Derived.Test.YthenilomgbnpeaaDoorBits
import Derived.WalkKit
import Derived.Lib.Hide
import Derived.ProofKit
namespace Go.Proofs.YthenilomgbnpeaaDoor
open Go.RowKit



theorem nextState_any (s : Nat) (w : World) (h : s < 65536) :
    Calls Tryd.prog 35 #[.int .u16 s] w fun e w' => e = .returned (.int .u16 (stepN s)) ∧ w = w' := by
  have h1 : (s : Int) ≤ 65535 := by omega
  have ha := and1_u16 s h
  have hx := xor_step_u16 s h
  by_cases ho : s % 2 = 1
  · have hb : (bits .and .u16 (s : Int) 1 == 1) = true := by rw [ha, ho]; rfl
    have hX := Lib.hid hx; clear hx ha
    go_enter Tryd.func35, Tryd.ntmps35
    go_wp2
    go_ret
    exact ⟨ret_int (by rw [hX.out, stepN_odd ho]), rfl⟩
  · have hb : (bits .and .u16 (s : Int) 1 == 1) = false := by rw [ha]; simp; omega
    clear hx ha
    go_enter Tryd.func35, Tryd.ntmps35
    go_wp2
    go_ret
    exact ⟨ret_int (by rw [stepN_even ho]; simp), rfl⟩

theorem implValid_yes (n : Int) (w : World) (h1 : 1 ≤ n) (h2 : n ≤ 65535) :
    Calls Tryd.prog 34 #[.int .i64 n] w fun e w' => e = .returned (.bool true) ∧ w = w' := by
  go_enter Tryd.func34, Tryd.ntmps34
  go_wp2
  go_ret
  exact ⟨ret_bool (by first | rfl | (simp; done) | (simp; omega)), rfl⟩
theorem implValid_no (n : Int) (w : World) (h : n < 1 ∨ 65535 < n) :
    Calls Tryd.prog 34 #[.int .i64 n] w fun e w' => e = .returned (.bool false) ∧ w = w' := by
  by_cases h1 : 1 ≤ n
  all_goals
    go_enter Tryd.func34, Tryd.ntmps34
    go_wp2
    go_ret
    exact ⟨ret_bool (by first | rfl | (simp; omega)), rfl⟩
theorem implSeed_yes (n : Int) (w : World) (h0 : 0 ≤ n) (h : n ≤ 65534) :
    Calls Tryd.prog 23 #[.int .i64 n] w fun e w' => e = .returned (.int .i64 (n + 1)) ∧ w = w' := by
  go_enter Tryd.func23, Tryd.ntmps23
  go_wp2
  go_ret
  exact ⟨rfl, rfl⟩
theorem implSeed_no (n : Int) (w : World) (h : n < 0 ∨ 65534 < n) :
    Calls Tryd.prog 23 #[.int .i64 n] w fun e w' => e = .returned (.int .i64 0) ∧ w = w' := by
  by_cases h1 : n < 0
  all_goals
    go_enter Tryd.func23, Tryd.ntmps23
    go_wp2
    go_ret
    exact ⟨rfl, rfl⟩
end Go.Proofs.YthenilomgbnpeaaDoor
