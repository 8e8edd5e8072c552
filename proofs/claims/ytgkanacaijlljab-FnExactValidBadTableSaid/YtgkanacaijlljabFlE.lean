/- The laws' helper eqFlash: of what reads alike the answer is true. -/
import Derived.Test.YtgkanacaijlljabProg
import Derived.Test.YtgkanacaijlljabFlA
import Derived.StillTailTactics
namespace Go.Proofs.Ytgkanacaijlljab
open Go.RowKit
set_option linter.unusedVariables false

/-! Comparisons: of what reads alike the answer is true. -/
theorem eqGeometry_any (d b p : Int) (w : World) : Calls Try.prog 136 #[.agg #[.int .i64 d, .int .i64 b, .int .i64 p], .agg #[.int .i64 d, .int .i64 b, .int .i64 p]] w fun e w' => e = .returned (.bool true) ∧ Below w.heap.size w w' := by
  have n1 : (d != d) = false := by simp
  have n2 : (b != b) = false := by simp
  have n3 : (p != p) = false := by simp
  obtain ⟨_, _, b0⟩ := Rw.two_new w 104 104 #[.int .i64 d, .int .i64 b, .int .i64 p] #[.int .i64 d, .int .i64 b, .int .i64 p]
  have HB := Lib.hid b0
  clear b0
  go_enter Try.func136, Try.ntmps136
  go_wp2
  go_ret
  exact ⟨rfl, HB.out⟩
end Go.Proofs.Ytgkanacaijlljab
