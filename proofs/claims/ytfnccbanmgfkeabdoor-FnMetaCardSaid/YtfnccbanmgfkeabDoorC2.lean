/- The laws' helpers c2Big and c2At. -/
import Derived.Test.YtfnccbanmgfkeabDoorProg
import Derived.Test.YtfnccbanmgfkeabDoorArg
namespace Go.Proofs.YtfnccbanmgfkeabDoor
open Go.RowKit
theorem big_no (a0 a1 : Option Addr) (len0 cap0 len1 cap1 : Nat) (w : World) (h0 : len0 ≤ 1048576) (h1 : len1 ≤ 1048576) :
    Calls Tryd.prog 24 #[.slice a0 len0 cap0, .slice a1 len1 cap1] w fun e w' => e = .returned (.bool false) ∧ w = w' := by
  have hd : decide (1048576 < (len0 : Int)) = false := by simp; omega
  have hd1 : decide (1048576 < (len1 : Int)) = false := by simp; omega
  go_enter Tryd.func24, Tryd.ntmps24
  go_wp2
  go_ret
  exact ⟨ret_bool (by first | rfl | simp | (simp; omega)), rfl⟩
theorem big_yes (a0 a1 : Option Addr) (len0 cap0 len1 cap1 : Nat) (w : World) (b0 : len0 ≤ 9223372036854775807) (b1 : len1 ≤ 9223372036854775807) (h : ¬ (len0 ≤ 1048576 ∧ len1 ≤ 1048576)) :
    Calls Tryd.prog 24 #[.slice a0 len0 cap0, .slice a1 len1 cap1] w fun e w' => e = .returned (.bool true) ∧ w = w' := by
  by_cases h0 : 1048576 < len0
  · have hd : decide (1048576 < (len0 : Int)) = true := by simp; omega
    clear h
    go_enter Tryd.func24, Tryd.ntmps24
    go_wp2
    go_ret
    exact ⟨ret_bool (by first | rfl | simp | (simp; omega)), rfl⟩
  · have hd : decide (1048576 < (len0 : Int)) = false := by simp; omega
    have hd1 : decide (1048576 < (len1 : Int)) = true := by simp; omega
    clear h
    go_enter Tryd.func24, Tryd.ntmps24
    go_wp2
    go_ret
    exact ⟨ret_bool (by first | rfl | simp | (simp; omega)), rfl⟩

def CtPost (n : Int) (W : World) (e : Ending) (w' : World) : Prop := ∃ x : Int, e = .returned (.int .i64 x) ∧ 0 ≤ x ∧ x ≤ n - 1 ∧ W = w'
theorem c2At_any (B : Nat) (v : Value) (i : Nat) (n : Int) (w : World) (h : CodeIs w B v) (hi : i ≤ 100000000) (hn : 2 ≤ n) (hn2 : n ≤ 1000000000000) :
    Calls Tryd.prog 27 #[v, .int .i64 i, .int .i64 n] w (CtPost n w) := by
  have HF : Hid (∀ x : Int, 0 ≤ x % n ∧ x % n ≤ n - 1) := Lib.hid (fun x => ⟨Int.emod_nonneg x (by omega), by have := Int.emod_lt_of_pos x (show 0 < n by omega); omega⟩)
  obtain ⟨A, len, cap, rfl, hl, hc⟩ := h
  by_cases hlt : i < len
  · obtain ⟨b, off, rfl, _, hx⟩ := hc (by omega)
    obtain ⟨x, hcell, hx0, hx1⟩ := hx i hlt
    have hI : (i : Int) < (len : Int) := by omega
    clear hc hx
    go_enter Tryd.func27, Tryd.ntmps27
    go_wp2
    go_ret
    exact ⟨_, rfl, (HF.out x).1, (HF.out x).2, rfl⟩
  · have hI : ¬ (i : Int) < (len : Int) := by omega
    clear hc
    go_enter Tryd.func27, Tryd.ntmps27
    go_wp2
    go_ret
    exact ⟨_, rfl, (HF.out _).1, (HF.out _).2, rfl⟩
end Go.Proofs.YtfnccbanmgfkeabDoor
