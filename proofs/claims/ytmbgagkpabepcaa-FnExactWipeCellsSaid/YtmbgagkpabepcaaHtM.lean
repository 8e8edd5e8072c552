/- Write counters in memory; what the laws' helpers for them do. -/
import Derived.Test.YtmbgagkpabepcaaProg
import Derived.Test.YtmbgagkpabepcaaHtN
import Derived.Test.YtmbgagkpabepcaaTbM
import Derived.RegionTactic
import Derived.Deep.RegionHeld3
namespace Go.Proofs.Ytmbgagkpabepcaa
open Go.RowKit
set_option linter.unusedVariables false
set_option linter.unusedSimpArgs false
theorem Rw.two {w : World} {g : Nat} {t : TypeId} {a b : Value} (h : Rw w g t #[a, b]) : w.cell? ⟨g, 0, none⟩ = some a ∧ w.cell? ⟨g, 1, none⟩ = some b := ⟨h.cell 0, h.cell 1⟩
/-- The cells of counters whose list is the slice u. -/
def htc (M : Ht) (u : Value) : Array Value := #[u, .int .i64 M.n]
def HtIn (w : World) (hi : Nat) (v : Value) (M : Ht) : Prop := ∃ a, v = .agg (htc M a) ∧ NI w hi a M.c
def HtOwn (w : World) (lo hi : Nat) (v : Value) (M : Ht) : Prop := ∃ a, v = .agg (htc M a) ∧ IO w lo hi a M.c
section
variable {w w' : World} {lo hi lo' hi' B : Nat} {v : Value} {M : Ht}
theorem HtIn.below (h : HtIn w hi v M) (hb : Below B w w') (hB : hi ≤ B) : HtIn w' hi v M := by
  obtain ⟨a, e, h1⟩ := h; exact ⟨a, e, h1.below hb hB⟩
theorem HtIn.same (h : HtIn w hi v M) (hs : Same 0 hi w w') : HtIn w' hi v M := by
  obtain ⟨a, e, h1⟩ := h; exact ⟨a, e, h1.same hs⟩
theorem HtIn.wide (h : HtIn w hi v M) (hh : hi ≤ hi') : HtIn w hi' v M := by
  obtain ⟨a, e, h1⟩ := h; exact ⟨a, e, h1.wide hh⟩
theorem HtOwn.reads (h : HtOwn w lo hi v M) : HtIn w hi v M := by
  obtain ⟨a, e, h1⟩ := h; exact ⟨a, e, h1.reads⟩
theorem HtOwn.same (h : HtOwn w lo hi v M) (hs : Same lo hi w w') : HtOwn w' lo hi v M := by
  obtain ⟨a, e, h1⟩ := h; exact ⟨a, e, h1.same hs⟩
theorem HtOwn.wide (h : HtOwn w lo hi v M) (hl : lo' ≤ lo) (hh : hi ≤ hi') : HtOwn w lo' hi' v M := by
  obtain ⟨a, e, h1⟩ := h; exact ⟨a, e, h1.wide hl hh⟩
theorem HtOwn.zero (w : World) (lo hi : Nat) : HtOwn w lo hi (.agg #[.slice none 0 0, .int .i64 0]) Ht.zero := ⟨_, rfl, IO.nil _ _ _⟩
theorem HtIn.agg2 (h : HtIn w hi v M) : ∃ (A : Option Addr) (n c : Nat) (g : Int), v = .agg #[.slice A n c, .int .i64 g] := by
  obtain ⟨a, e, h1⟩ := h
  obtain ⟨A, n, c, rfl⟩ := h1.slice
  exact ⟨_, _, _, _, e⟩
theorem HtOwn.agg2 (h : HtOwn w lo hi v M) : ∃ (A : Option Addr) (n c : Nat) (g : Int), v = .agg #[.slice A n c, .int .i64 g] := h.reads.agg2
end
theorem IntsOwn.sliceOfH {w : World} {B : Nat} {v : Value} {l : List Int} (h : IntsOwn w B v l) : ∃ A n c, v = .slice A n c := by
  rcases h.shape with ⟨rfl, _⟩ | ⟨g, cap, rfl, _⟩ <;> exact ⟨_, _, _, rfl⟩
end Go.Proofs.Ytmbgagkpabepcaa
