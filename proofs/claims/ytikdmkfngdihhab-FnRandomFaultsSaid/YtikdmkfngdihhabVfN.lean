/- Which faults are valid. No program in it. -/
import Derived.Test.YtikdmkfngdihhabFtN
namespace Go.Proofs.Ytikdmkfngdihhab
open Go.RowKit
set_option linter.unusedVariables false
/-- How many values each field of a fault of this kind has: q blocks, p pages. -/
def lim0 (q : Int) (k : Int) : Int := if k = 1 ∨ k = 2 ∨ k = 3 ∨ k = 4 then q else if k = 5 then 1 else 0
def lim1 (p : Int) (k : Int) : Int := if k = 1 ∨ k = 2 then p else if k = 3 ∨ k = 4 then 1 else if k = 5 then 1000001 else 0
def lim2 (k : Int) : Int := if k = 1 ∨ k = 2 ∨ k = 3 then 728 else if k = 4 then 1 else if k = 5 then 92 else 0
def FtIn (q p : Int) (x : Ft) : Prop := (0 ≤ x.b ∧ x.b < lim0 q x.k) ∧ (0 ≤ x.p ∧ x.p < lim1 p x.k) ∧ (0 ≤ x.t ∧ x.t < lim2 x.k)
def FtOk (d b p : Int) (x : Ft) : Prop := GeoOk d b p ∧ FtIn (d * b) p x
theorem kinds (k : Int) : k = 1 ∨ k = 2 ∨ k = 3 ∨ k = 4 ∨ k = 5 ∨ (k ≠ 1 ∧ k ≠ 2 ∧ k ≠ 3 ∧ k ≠ 4 ∧ k ≠ 5) := by omega
theorem FtIn.k1 {q p B P T : Int} : FtIn q p ⟨1, B, P, T⟩ ↔ (0 ≤ B ∧ B ≤ q - 1) ∧ (0 ≤ P ∧ P ≤ p - 1) ∧ (0 ≤ T ∧ T ≤ 727) := by simp [FtIn, lim0, lim1, lim2]; omega
theorem FtIn.k2 {q p B P T : Int} : FtIn q p ⟨2, B, P, T⟩ ↔ (0 ≤ B ∧ B ≤ q - 1) ∧ (0 ≤ P ∧ P ≤ p - 1) ∧ (0 ≤ T ∧ T ≤ 727) := by simp [FtIn, lim0, lim1, lim2]; omega
theorem FtIn.k3 {q p B P T : Int} : FtIn q p ⟨3, B, P, T⟩ ↔ (0 ≤ B ∧ B ≤ q - 1) ∧ (0 ≤ T ∧ T ≤ 727) ∧ P = 0 := by simp [FtIn, lim0, lim1, lim2]; omega
theorem FtIn.k4 {q p B P T : Int} : FtIn q p ⟨4, B, P, T⟩ ↔ (0 ≤ B ∧ B ≤ q - 1) ∧ P = 0 ∧ T = 0 := by simp [FtIn, lim0, lim1, lim2]; omega
theorem FtIn.k5 {q p B P T : Int} : FtIn q p ⟨5, B, P, T⟩ ↔ B = 0 ∧ (0 ≤ P ∧ P ≤ 1000000) ∧ (0 ≤ T ∧ T ≤ 91) := by simp [FtIn, lim0, lim1, lim2]; omega
theorem FtIn.kn {q p : Int} {x : Ft} (h : x.k ≠ 1 ∧ x.k ≠ 2 ∧ x.k ≠ 3 ∧ x.k ≠ 4 ∧ x.k ≠ 5) : ¬ FtIn q p x := by
  obtain ⟨h1, h2, h3, h4, h5⟩ := h
  simp [FtIn, lim0, h1, h2, h3, h4, h5]; omega
end Go.Proofs.Ytikdmkfngdihhab
