/- Which lists of found pages are valid; a list's cells. -/
import Derived.Test.YtfnccbanmgfkeaaProg
import Derived.Test.YtfnccbanmgfkeaaFdM
import Derived.Test.YtfnccbanmgfkeaaEqI
import Derived.Test.YtfnccbanmgfkeaaOwnR
namespace Go.Proofs.Ytfnccbanmgfkeaa
open Go.RowKit
set_option linter.unusedVariables false
instance : Inhabited Fd := ⟨Fd.zero⟩
def FdOk (x : Fd) : Prop := (0 ≤ x.ph ∧ x.ph ≤ 639) ∧ MetaOk x.k x.l x.s x.f x.c ∧ x.k ≠ 4
def StepOk (L : List Fd) (i : Nat) : Prop := FdOk (L.getD i Fd.zero) ∧ (0 < i → (L.getD (i - 1) Fd.zero).ph < (L.getD i Fd.zero).ph)
def FsOk (L : List Fd) : Prop := ∀ i, i < L.length → StepOk L i
theorem FsOk.long {L : List Fd} (h : FsOk L) : L.length ≤ 640 := by
  have key : ∀ i, i < L.length → (i : Int) ≤ (L.getD i Fd.zero).ph := by
    intro i
    induction i with
    | zero => intro hi; have := (h 0 hi).1.1; omega
    | succ i ih => intro hi; have := ih (by omega); have := (h (i + 1) hi).2 (by omega); rw [Nat.add_sub_cancel] at this; omega
  rcases Nat.lt_or_ge 640 L.length with e | e
  · have a := key 640 e; have b := (h 640 e).1.1; omega
  · exact e
/-- The value v is a slice, in the blocks below hi, that reads as the found pages L. -/
def FdIn (w : World) (hi : Nat) (v : Value) (L : List Fd) : Prop := SI w hi v L.length (flat6 L)
def FdOwn (w : World) (B : Nat) (v : Value) (L : List Fd) : Prop := SOwn w B v L.length (flat6 L)
def FdO (w : World) (lo hi : Nat) (v : Value) (L : List Fd) : Prop := SO w lo hi v L.length (flat6 L)
theorem FdIn.below {w w' : World} {hi B : Nat} {v : Value} {L : List Fd} (h : FdIn w hi v L) (hb : Below B w w') (hB : hi ≤ B) : FdIn w' hi v L := SI.below h hb hB
theorem FdIn.elem {w : World} {hi n c : Nat} {A : Option Addr} {L : List Fd} (h : FdIn w hi (.slice A n c) L) : L.length = n ∧ (0 < n → ∃ b off, A = some ⟨b, off, none⟩ ∧ b < hi ∧ ∀ k, k < n →
    w.cell? ⟨b, off + k * 6, none⟩ = some (.int .i64 (L.getD k Fd.zero).ph) ∧ w.cell? ⟨b, off + k * 6 + 1, none⟩ = some (.int .i64 (L.getD k Fd.zero).k) ∧ w.cell? ⟨b, off + k * 6 + 2, none⟩ = some (.int .i64 (L.getD k Fd.zero).l) ∧
    w.cell? ⟨b, off + k * 6 + 3, none⟩ = some (.int .i64 (L.getD k Fd.zero).s) ∧ w.cell? ⟨b, off + k * 6 + 4, none⟩ = some (.int .i64 (L.getD k Fd.zero).f) ∧ w.cell? ⟨b, off + k * 6 + 5, none⟩ = some (.int .i64 (L.getD k Fd.zero).c)) := by
  obtain ⟨A', cap, e, h1, h2, hl, hA⟩ := h
  injection e with e1 e2 e3
  subst e1 e2 e3
  refine ⟨rfl, fun h0 => ?_⟩
  obtain ⟨b, off, rfl, hb, hx⟩ := hA h0
  refine ⟨b, off, rfl, hb, fun k hk => ?_⟩
  obtain ⟨f0, f1, f2, f3, f4, f5⟩ := flat6_at L k hk
  have a0 := hx (k * 6) (by omega)
  have a1 := hx (k * 6 + 1) (by omega)
  have a2 := hx (k * 6 + 2) (by omega)
  have a3 := hx (k * 6 + 3) (by omega)
  have a4 := hx (k * 6 + 4) (by omega)
  have a5 := hx (k * 6 + 5) (by omega)
  rw [f0] at a0; rw [f1] at a1; rw [f2] at a2; rw [f3] at a3; rw [f4] at a4; rw [f5] at a5
  exact ⟨a0, a1, a2, a3, a4, a5⟩
theorem FdIn.slice {w : World} {hi : Nat} {v : Value} {L : List Fd} (h : FdIn w hi v L) : ∃ A c, v = .slice A L.length c := by obtain ⟨A, c, e, _⟩ := h; exact ⟨A, c, e⟩
end Go.Proofs.Ytfnccbanmgfkeaa
