/- The metadata of a page: which are valid; the laws' helpers over them. -/
import Derived.Test.YtfnccbanmgfkeabDoorProg
import Derived.Test.YtfnccbanmgfkeabDoorGeo
import Derived.Test.YtfnccbanmgfkeabDoorEqI
namespace Go.Proofs.YtfnccbanmgfkeabDoor
open Go.RowKit
set_option linter.unusedVariables false
/-- Kind, logical page, number, the group's first number and its count. -/
def MetaOk (k l s f c : Int) : Prop :=
  (k = 4 ∧ l = 0 ∧ s = 0 ∧ f = 0 ∧ c = 0) ∨ ((k = 1 ∨ k = 3) ∧ (0 ≤ l ∧ l ≤ 47) ∧ (1 ≤ s ∧ s ≤ 1000000) ∧ f = 0 ∧ c = 0) ∨
  (k = 2 ∧ (0 ≤ l ∧ l ≤ 47) ∧ (1 ≤ s ∧ s ≤ 1000000) ∧ (1 ≤ c ∧ c ≤ 4) ∧ (1 ≤ f ∧ f ≤ s) ∧ s - f < c)
theorem Rw.five {w : World} {g : Nat} {t : TypeId} {a b c d e : Value} (h : Rw w g t #[a, b, c, d, e]) : w.cell? ⟨g, 0, none⟩ = some a ∧ w.cell? ⟨g, 1, none⟩ = some b ∧ w.cell? ⟨g, 2, none⟩ = some c ∧ w.cell? ⟨g, 3, none⟩ = some d ∧ w.cell? ⟨g, 4, none⟩ = some e :=
  ⟨h.cell 0, h.cell 1, h.cell 2, h.cell 3, h.cell 4⟩
def mt5 (k l s f c : Int) : Value := .agg #[.int .i64 k, .int .i64 l, .int .i64 s, .int .i64 f, .int .i64 c]
theorem infoMt5 : (Tryd.prog.info? 25).map (·.size) = some 5 := by kernel_rfl
set_option maxHeartbeats 1000000 in
theorem toMeta_any (a b c d e : Int) (w : World) : Calls Tryd.prog 10 #[.agg #[.int .i64 a, .int .i64 b, .int .i64 c, .int .i64 d, .int .i64 e]] w fun x w' => x = .returned (.agg #[.int .i64 a, .int .i64 b, .int .i64 c, .int .i64 d, .int .i64 e]) ∧ Below w.heap.size w w' := by
  obtain ⟨_, r1, _, hb⟩ := Rw.three_new w 23 25 25 #[.int .i64 a, .int .i64 b, .int .i64 c, .int .i64 d, .int .i64 e] #[.int .i64 a, .int .i64 b, .int .i64 c, .int .i64 d, .int .i64 e] #[.int .i64 a, .int .i64 b, .int .i64 c, .int .i64 d, .int .i64 e]
  have R1 := Lib.hid r1
  have HB := Lib.hid hb
  clear r1 hb
  go_enter Tryd.func10, Tryd.ntmps10
  go_wp2
  exact bodyPost_ret (results_cell_row Tryd.results10 _ _ _ _ _ _ _ rfl R1.out Tryd.underlying25 rfl infoMt5) rfl ⟨rfl, HB.out⟩
theorem eqMeta_any (a b c d e : Int) (w : World) : Calls Tryd.prog 14 #[.agg #[.int .i64 a, .int .i64 b, .int .i64 c, .int .i64 d, .int .i64 e], .agg #[.int .i64 a, .int .i64 b, .int .i64 c, .int .i64 d, .int .i64 e]] w fun x w' => x = .returned (.bool true) ∧ Below w.heap.size w w' := by
  have n1 : (a != a) = false := by simp
  have n2 : (b != b) = false := by simp
  have n3 : (c != c) = false := by simp
  have n4 : (d != d) = false := by simp
  have n5 : (e != e) = false := by simp
  obtain ⟨_, _, b0⟩ := Rw.two_new w 25 25 #[.int .i64 a, .int .i64 b, .int .i64 c, .int .i64 d, .int .i64 e] #[.int .i64 a, .int .i64 b, .int .i64 c, .int .i64 d, .int .i64 e]
  have HB := Lib.hid b0
  clear b0
  go_enter Tryd.func14, Tryd.ntmps14
  go_wp2
  go_ret
  exact ⟨rfl, HB.out⟩
theorem metaNo {k l s f c : Int} {r : Bool} (hr : r = true ↔ MetaOk k l s f c) (h : ¬ MetaOk k l s f c) : r = false := not_true hr h
end Go.Proofs.YtfnccbanmgfkeabDoor
