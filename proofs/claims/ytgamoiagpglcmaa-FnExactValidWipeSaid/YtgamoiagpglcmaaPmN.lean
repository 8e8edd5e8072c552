/- A map of logical pages as plain data. No program in it. -/
import Derived.Test.YtgamoiagpglcmaaTbN
namespace Go.Proofs.Ytgamoiagpglcmaa
open Go.RowKit
set_option linter.unusedVariables false
structure Pm where
  b : Int
  p : Int
  mp : List Int
  tr : List Bool
def Pm.zero : Pm := ⟨0, 0, [], []⟩
def Pm.at (M : Pm) (i : Nat) : Int := M.mp.getD i 0
def Pm.trim (M : Pm) (i : Nat) : Bool := M.tr.getD i false
def SizeOk (l b p : Int) : Prop := (1 ≤ l ∧ l ≤ 48) ∧ (1 ≤ b ∧ b ≤ 640) ∧ (1 ≤ p ∧ p ≤ 640) ∧ b * p ≤ 640
/-- Entry i: no record (then it is not trimmed), or a physical page that no earlier entry has. H: how many physical pages there are. -/
def EntOk (H : Int) (mp : List Int) (tr : List Bool) (i : Nat) : Prop :=
  (mp.getD i 0 = -1 ∧ tr.getD i false = false) ∨ ((0 ≤ mp.getD i 0 ∧ mp.getD i 0 < H) ∧ ¬ mp.getD i 0 ∈ mp.take i)
def PmOk (M : Pm) : Prop := SizeOk M.mp.length M.b M.p ∧ M.tr.length = M.mp.length ∧ ∀ i, i < M.mp.length → EntOk (M.b * M.p) M.mp M.tr i
/-- Entry i's record is data. -/
def Pm.has (M : Pm) (i : Nat) : Prop := M.at i ≠ -1 ∧ M.trim i = false
theorem SizeOk.le {l b p : Int} (h : SizeOk l b p) : 1 ≤ b * p := by
  obtain ⟨_, ⟨h1, _⟩, ⟨h3, _⟩, _⟩ := h
  have := Int.mul_le_mul h1 h3 (by omega) (by omega)
  omega
theorem mulBound {b p : Int} (h1 : 1 ≤ b) (h2 : b ≤ 640) (h3 : 1 ≤ p) (h4 : p ≤ 640) : 1 ≤ b * p ∧ b * p ≤ 409600 := by
  constructor
  · have := Int.mul_le_mul h1 h3 (by omega) (by omega); omega
  · have := Int.mul_le_mul h2 h4 (by omega) (by omega); omega
theorem mem_take_iff {l : List Int} {i : Nat} (hi : i ≤ l.length) {x : Int} : x ∈ l.take i ↔ ∃ k, k < i ∧ l.getD k 0 = x := by
  rw [mem_iff_getD]
  have e : ∀ k, k < i → (l.take i).getD k 0 = l.getD k 0 := fun k hk => by
    rw [List.getD_eq_getElem?_getD, List.getD_eq_getElem?_getD, List.getElem?_take, if_pos hk]
  have hl : (l.take i).length = i := by rw [List.length_take]; omega
  rw [hl]
  constructor
  · rintro ⟨k, h1, h2⟩; exact ⟨k, h1, by rw [← e k h1]; exact h2⟩
  · rintro ⟨k, h1, h2⟩; exact ⟨k, h1, by rw [e k h1]; exact h2⟩
end Go.Proofs.Ytgamoiagpglcmaa
