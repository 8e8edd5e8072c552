/- Found pages and lists of them as plain data. -/
import Derived.Test.YtfnccbanmgfkeaaFtN
namespace Go.Proofs.Ytfnccbanmgfkeaa
open Go.RowKit
set_option linter.unusedVariables false
structure Fd where
  ph : Int
  k : Int
  l : Int
  s : Int
  f : Int
  c : Int
def Fd.zero : Fd := ⟨0, 0, 0, 0, 0, 0⟩
def flat6 : List Fd → List Int
  | [] => []
  | x :: L => x.ph :: x.k :: x.l :: x.s :: x.f :: x.c :: flat6 L
theorem flat6_length : ∀ L : List Fd, (flat6 L).length = L.length * 6
  | [] => rfl
  | x :: L => by simp only [flat6, List.length_cons, flat6_length L]; omega
theorem flat6_at : ∀ (L : List Fd) (i : Nat), i < L.length → (flat6 L).getD (i * 6) 0 = (L.getD i Fd.zero).ph ∧ (flat6 L).getD (i * 6 + 1) 0 = (L.getD i Fd.zero).k ∧ (flat6 L).getD (i * 6 + 2) 0 = (L.getD i Fd.zero).l ∧ (flat6 L).getD (i * 6 + 3) 0 = (L.getD i Fd.zero).s ∧ (flat6 L).getD (i * 6 + 4) 0 = (L.getD i Fd.zero).f ∧ (flat6 L).getD (i * 6 + 5) 0 = (L.getD i Fd.zero).c
  | [], i, h => by simp at h
  | x :: L, 0, h => ⟨rfl, rfl, rfl, rfl, rfl, rfl⟩
  | x :: L, i + 1, h => by
    have ih := flat6_at L i (by simpa using h)
    have e : ∀ c, (flat6 (x :: L)).getD ((i + 1) * 6 + c) 0 = (flat6 L).getD (i * 6 + c) 0 := fun c => by
      rw [show (i + 1) * 6 + c = i * 6 + c + 1 + 1 + 1 + 1 + 1 + 1 by omega]; rfl
    have e0 := e 0
    rw [Nat.add_zero, Nat.add_zero] at e0
    rw [e0, e 1, e 2, e 3, e 4, e 5]
    exact ih
end Go.Proofs.Ytfnccbanmgfkeaa
