/- Programming a page, by the model: the contracts. -/
import Derived.Test.YtbehoeabnomlaaaProg
import Derived.Test.YtbehoeabnomlaaaFlS
import Derived.Test.YtbehoeabnomlaaaFlD
namespace Go.Proofs.Ytbehoeabnomlaaa
open Go.RowKit
set_option linter.unusedVariables false
theorem same_drew (lo hi : Nat) (w : World) : Same lo hi w w.drew := fun _ _ _ => rfl
theorem Keep.drew {lo hi : Nat} {w w' : World} (h : Keep lo hi w w') : Keep lo hi w w'.drew := ⟨h.1.drew, fun j a b => h.2 j a b⟩
theorem spBlock_any (d b p fu ke op : Int) (off : Bool) (A : Option Addr) (n c : Nat) (block : Int) (r : Bool) (w : World) (hn : n ≤ 1000) (hr : r = true ↔ (0 ≤ block ∧ block < (n : Int))) :
    Calls Try.prog 89 #[.agg #[.int .i64 d, .int .i64 b, .int .i64 p, .slice A n c, .int .i64 fu, .int .i64 ke, .bool off, .int .i64 op], .int .i64 block] w fun e w' => e = .returned (.bool r) ∧ Below w.heap.size w w' := by
  have hni : (n : Int) ≤ 1000 := by omega
  have HI := Lib.hid (fun (W : World) => inr_any block 0 ((n : Int) - 1) W)
  have HB := Lib.hid ((Below.refl w.heap.size w).alloc (Nat.le_refl _) (.cells #[.int .i64 d, .int .i64 b, .int .i64 p, .slice A n c, .int .i64 fu, .int .i64 ke, .bool off, .int .i64 op] 54))
  go_enter Try.func89, Try.ntmps89
  go_wp2_with fail
  refine (HI.out _).mono ?_
  rintro e w' ⟨rfl, rfl⟩
  go_wp2
  go_ret
  exact ⟨ret_bool (by rw [Bool.eq_iff_iff, hr]; simp; omega), HB.out⟩
end Go.Proofs.Ytbehoeabnomlaaa
