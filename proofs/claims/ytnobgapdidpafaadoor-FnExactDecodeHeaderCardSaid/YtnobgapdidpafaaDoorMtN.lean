/- The metadata of a page: which are valid; the laws' helpers over them. -/
import Derived.Test.YtnobgapdidpafaaDoorProg
import Derived.Test.YtnobgapdidpafaaDoorGeo
import Derived.Test.YtnobgapdidpafaaDoorEqI
namespace Go.Proofs.YtnobgapdidpafaaDoor
open Go.RowKit
set_option linter.unusedVariables false
/-- Kind, logical page, number, the group's first number and its count. -/
def MetaOk (k l s f c : Int) : Prop :=
  (k = 4 ∧ l = 0 ∧ s = 0 ∧ f = 0 ∧ c = 0) ∨ ((k = 1 ∨ k = 3) ∧ (0 ≤ l ∧ l ≤ 47) ∧ (1 ≤ s ∧ s ≤ 1000000) ∧ f = 0 ∧ c = 0) ∨
  (k = 2 ∧ (0 ≤ l ∧ l ≤ 47) ∧ (1 ≤ s ∧ s ≤ 1000000) ∧ (1 ≤ c ∧ c ≤ 4) ∧ (1 ≤ f ∧ f ≤ s) ∧ s - f < c)
theorem Rw.five {w : World} {g : Nat} {t : TypeId} {a b c d e : Value} (h : Rw w g t #[a, b, c, d, e]) : w.cell? ⟨g, 0, none⟩ = some a ∧ w.cell? ⟨g, 1, none⟩ = some b ∧ w.cell? ⟨g, 2, none⟩ = some c ∧ w.cell? ⟨g, 3, none⟩ = some d ∧ w.cell? ⟨g, 4, none⟩ = some e :=
  ⟨h.cell 0, h.cell 1, h.cell 2, h.cell 3, h.cell 4⟩
def mt5 (k l s f c : Int) : Value := .agg #[.int .i64 k, .int .i64 l, .int .i64 s, .int .i64 f, .int .i64 c]
theorem metaNo {k l s f c : Int} {r : Bool} (hr : r = true ↔ MetaOk k l s f c) (h : ¬ MetaOk k l s f c) : r = false := not_true hr h
end Go.Proofs.YtnobgapdidpafaaDoor
