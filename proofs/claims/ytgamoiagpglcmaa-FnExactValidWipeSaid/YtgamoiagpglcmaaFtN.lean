/- Faults and lists of them as plain data. No program in it. -/
import Derived.Test.YtgamoiagpglcmaaFlN
namespace Go.Proofs.Ytgamoiagpglcmaa
open Go.RowKit
set_option linter.unusedVariables false
structure Ft where
  k : Int
  b : Int
  p : Int
  t : Int
def Ft.zero : Ft := ⟨0, 0, 0, 0⟩
def Ft.four (x : Ft) : List Int := [x.k, x.b, x.p, x.t]
def flat : List Ft → List Int
  | [] => []
  | x :: L => x.k :: x.b :: x.p :: x.t :: flat L
theorem flat_length : ∀ L : List Ft, (flat L).length = L.length * 4
  | [] => rfl
  | x :: L => by simp only [flat, List.length_cons, flat_length L]; omega
theorem flat_append : ∀ L M : List Ft, flat (L ++ M) = flat L ++ flat M
  | [], M => rfl
  | x :: L, M => by simp only [List.cons_append, flat, flat_append L M]
theorem flat_at : ∀ (L : List Ft) (i : Nat), i < L.length → (flat L).getD (i * 4) 0 = (L.getD i Ft.zero).k ∧ (flat L).getD (i * 4 + 1) 0 = (L.getD i Ft.zero).b ∧ (flat L).getD (i * 4 + 2) 0 = (L.getD i Ft.zero).p ∧ (flat L).getD (i * 4 + 3) 0 = (L.getD i Ft.zero).t
  | [], i, h => by simp at h
  | x :: L, 0, h => ⟨rfl, rfl, rfl, rfl⟩
  | x :: L, i + 1, h => by
    have ih := flat_at L i (by simpa using h)
    have e : ∀ c, (flat (x :: L)).getD ((i + 1) * 4 + c) 0 = (flat L).getD (i * 4 + c) 0 := fun c => by
      rw [show (i + 1) * 4 + c = i * 4 + c + 1 + 1 + 1 + 1 by omega]; rfl
    have e0 := e 0
    rw [Nat.add_zero, Nat.add_zero] at e0
    rw [e0, e 1, e 2, e 3]
    exact ih
theorem flat_inj {L M : List Ft} (h : flat L = flat M) : L = M := by
  induction L generalizing M with
  | nil => cases M with
    | nil => rfl
    | cons y M => simp [flat] at h
  | cons x L ih => cases M with
    | nil => simp [flat] at h
    | cons y M =>
      simp only [flat, List.cons.injEq] at h
      obtain ⟨h1, h2, h3, h4, h5⟩ := h
      rw [ih h5]
      obtain ⟨a, b, c, d⟩ := x
      obtain ⟨a', b', c', d'⟩ := y
      simp_all
end Go.Proofs.Ytgamoiagpglcmaa
