/- The laws' helpers c2Big and c2At. -/
import Derived.Test.YtgkanacaijlljabProg
import Derived.Test.YtgkanacaijlljabArg
namespace Go.Proofs.Ytgkanacaijlljab
open Go.RowKit
theorem big_no (a0 a1 : Option Addr) (len0 cap0 len1 cap1 : Nat) (w : World) (h0 : len0 ≤ 1048576) (h1 : len1 ≤ 1048576) :
    Calls Try.prog 38 #[.slice a0 len0 cap0, .slice a1 len1 cap1] w fun e w' => e = .returned (.bool false) ∧ w = w' := by
  have hd : decide (1048576 < (len0 : Int)) = false := by simp; omega
  have hd1 : decide (1048576 < (len1 : Int)) = false := by simp; omega
  go_enter Try.func38, Try.ntmps38
  go_wp2
  go_ret
  exact ⟨ret_bool (by first | rfl | simp | (simp; omega)), rfl⟩
theorem big_yes (a0 a1 : Option Addr) (len0 cap0 len1 cap1 : Nat) (w : World) (b0 : len0 ≤ 9223372036854775807) (b1 : len1 ≤ 9223372036854775807) (h : ¬ (len0 ≤ 1048576 ∧ len1 ≤ 1048576)) :
    Calls Try.prog 38 #[.slice a0 len0 cap0, .slice a1 len1 cap1] w fun e w' => e = .returned (.bool true) ∧ w = w' := by
  by_cases h0 : 1048576 < len0
  · have hd : decide (1048576 < (len0 : Int)) = true := by simp; omega
    clear h
    go_enter Try.func38, Try.ntmps38
    go_wp2
    go_ret
    exact ⟨ret_bool (by first | rfl | simp | (simp; omega)), rfl⟩
  · have hd : decide (1048576 < (len0 : Int)) = false := by simp; omega
    have hd1 : decide (1048576 < (len1 : Int)) = true := by simp; omega
    clear h
    go_enter Try.func38, Try.ntmps38
    go_wp2
    go_ret
    exact ⟨ret_bool (by first | rfl | simp | (simp; omega)), rfl⟩

end Go.Proofs.Ytgkanacaijlljab
