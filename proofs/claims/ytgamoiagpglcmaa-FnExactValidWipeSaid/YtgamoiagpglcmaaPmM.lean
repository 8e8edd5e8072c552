/- Maps of logical pages in memory; what the laws' helpers for maps do. -/
import Derived.Test.YtgamoiagpglcmaaProg
import Derived.Test.YtgamoiagpglcmaaPmN
import Derived.Test.YtgamoiagpglcmaaTbM
import Derived.Test.YtgamoiagpglcmaaBoo
import Derived.RegionTactic
import Derived.Deep.RegionHeld3
namespace Go.Proofs.Ytgamoiagpglcmaa
open Go.RowKit
set_option linter.unusedVariables false
set_option linter.unusedSimpArgs false
/-- The cells of a map whose lists are the slices u and v. -/
def pmc (M : Pm) (u v : Value) : Array Value := #[.int .i64 M.b, .int .i64 M.p, u, v]
def PmIn (w : World) (hi : Nat) (v : Value) (M : Pm) : Prop := ∃ a b, v = .agg (pmc M a b) ∧ NI w hi a M.mp ∧ NB w hi b M.tr
def PmOwn (w : World) (lo hi : Nat) (v : Value) (M : Pm) : Prop := ∃ a b, v = .agg (pmc M a b) ∧ IO w lo hi a M.mp ∧ BW w lo hi b M.tr ∧ (a.ownBlock = none ∨ a.ownBlock ≠ b.ownBlock)
section
variable {w w' : World} {lo hi lo' hi' B : Nat} {v : Value} {M : Pm}
theorem PmIn.below (h : PmIn w hi v M) (hb : Below B w w') (hB : hi ≤ B) : PmIn w' hi v M := by
  obtain ⟨a, b, e, h1, h2⟩ := h; exact ⟨a, b, e, h1.below hb hB, h2.below hb hB⟩
theorem PmIn.same (h : PmIn w hi v M) (hs : Same 0 hi w w') : PmIn w' hi v M := by
  obtain ⟨a, b, e, h1, h2⟩ := h; exact ⟨a, b, e, h1.same hs, h2.same hs⟩
theorem PmIn.wide (h : PmIn w hi v M) (hh : hi ≤ hi') : PmIn w hi' v M := by
  obtain ⟨a, b, e, h1, h2⟩ := h; exact ⟨a, b, e, h1.wide hh, h2.wide hh⟩
theorem PmOwn.reads (h : PmOwn w lo hi v M) : PmIn w hi v M := by
  obtain ⟨a, b, e, h1, h2, _⟩ := h; exact ⟨a, b, e, h1.reads, h2.reads⟩
theorem PmOwn.same (h : PmOwn w lo hi v M) (hs : Same lo hi w w') : PmOwn w' lo hi v M := by
  obtain ⟨a, b, e, h1, h2, h3⟩ := h; exact ⟨a, b, e, h1.same hs, h2.same hs, h3⟩
theorem PmOwn.wide (h : PmOwn w lo hi v M) (hl : lo' ≤ lo) (hh : hi ≤ hi') : PmOwn w lo' hi' v M := by
  obtain ⟨a, b, e, h1, h2, h3⟩ := h; exact ⟨a, b, e, h1.wide hl hh, h2.wide hl hh, h3⟩
theorem PmOwn.zero (w : World) (lo hi : Nat) : PmOwn w lo hi (.agg #[.int .i64 0, .int .i64 0, .slice none 0 0, .slice none 0 0]) Pm.zero := ⟨_, _, rfl, IO.nil _ _ _, BW.nil _ _ _, .inl rfl⟩
theorem PmIn.agg4 (h : PmIn w hi v M) : ∃ g0 g1 A n c A' n' c', v = .agg #[.int .i64 g0, .int .i64 g1, .slice A n c, .slice A' n' c'] := by
  obtain ⟨a, b, e, h1, h2⟩ := h
  obtain ⟨A, n, c, rfl⟩ := h1.slice
  obtain ⟨A', n', c', rfl⟩ := h2.slice
  exact ⟨_, _, _, _, _, _, _, _, e⟩
end
theorem PmOwn.agg4 {w : World} {lo hi : Nat} {v : Value} {M : Pm} (h : PmOwn w lo hi v M) : ∃ (g0 g1 : Int) (A : Option Addr) (n c : Nat) (A' : Option Addr) (n' c' : Nat), v = .agg #[.int .i64 g0, .int .i64 g1, .slice A n c, .slice A' n' c'] := h.reads.agg4
/-- The map fits. -/
def PmSz (M : Pm) : Prop := M.mp.length + M.tr.length ≤ 1048576
theorem BoolsOwn.sliceOf {w : World} {B : Nat} {v : Value} {l : List Bool} (h : BoolsOwn w B v l) : ∃ A n c, v = .slice A n c := by
  rcases h.shape with ⟨rfl, _⟩ | ⟨g, cap, rfl, _⟩ <;> exact ⟨_, _, _, rfl⟩
theorem IntsOwn.sliceOf' {w : World} {B : Nat} {v : Value} {l : List Int} (h : IntsOwn w B v l) : ∃ A n c, v = .slice A n c := by
  rcases h.shape with ⟨rfl, _⟩ | ⟨g, cap, rfl, _⟩ <;> exact ⟨_, _, _, rfl⟩
end Go.Proofs.Ytgamoiagpglcmaa
