/- The laws' helpers over headers: toHeader, eqHeader. -/
import Derived.Test.YtnobgapdidpafaaDoorProg
import Derived.Test.YtnobgapdidpafaaDoorHdN
namespace Go.Proofs.YtnobgapdidpafaaDoor
open Go.RowKit
set_option linter.unusedVariables false
set_option linter.unusedSimpArgs false
theorem infoHd6 : (Tryd.prog.info? 25).map (·.size) = some 6 := by kernel_rfl
theorem toHdr_any (k z r u i s : Int) (w : World) : Calls Tryd.prog 7 #[.agg #[.int .i64 k, .int .i64 z, .int .i64 r, .int .i64 u, .int .i64 i, .int .i64 s]] w fun x w' => x = .returned (.agg #[.int .i64 k, .int .i64 z, .int .i64 r, .int .i64 u, .int .i64 i, .int .i64 s]) ∧ Below w.heap.size w w' := by
  obtain ⟨_, r1, _, hb⟩ := Rw.three_new w 23 25 25 #[.int .i64 k, .int .i64 z, .int .i64 r, .int .i64 u, .int .i64 i, .int .i64 s] #[.int .i64 k, .int .i64 z, .int .i64 r, .int .i64 u, .int .i64 i, .int .i64 s] #[.int .i64 k, .int .i64 z, .int .i64 r, .int .i64 u, .int .i64 i, .int .i64 s]
  have R1 := Lib.hid r1
  have HB := Lib.hid hb
  clear r1 hb
  go_enter Tryd.func7, Tryd.ntmps7
  go_wp2
  exact bodyPost_ret (results_cell_row Tryd.results7 _ _ _ _ _ _ _ rfl R1.out Tryd.underlying25 rfl infoHd6) rfl ⟨rfl, HB.out⟩
theorem eqHdr_any (k z r u i s : Int) (w : World) : Calls Tryd.prog 11 #[.agg #[.int .i64 k, .int .i64 z, .int .i64 r, .int .i64 u, .int .i64 i, .int .i64 s], .agg #[.int .i64 k, .int .i64 z, .int .i64 r, .int .i64 u, .int .i64 i, .int .i64 s]] w fun x w' => x = .returned (.bool true) ∧ Below w.heap.size w w' := by
  have n0 : (k != k) = false := by simp
  have n1 : (z != z) = false := by simp
  have n2 : (r != r) = false := by simp
  have n3 : (u != u) = false := by simp
  have n4 : (i != i) = false := by simp
  have n5 : (s != s) = false := by simp
  obtain ⟨_, _, b0⟩ := Rw.two_new w 25 25 #[.int .i64 k, .int .i64 z, .int .i64 r, .int .i64 u, .int .i64 i, .int .i64 s] #[.int .i64 k, .int .i64 z, .int .i64 r, .int .i64 u, .int .i64 i, .int .i64 s]
  have HB := Lib.hid b0
  clear b0
  go_enter Tryd.func11, Tryd.ntmps11
  go_wp2
  go_ret
  exact ⟨rfl, HB.out⟩
end Go.Proofs.YtnobgapdidpafaaDoor
