/- The proof's own lemmas, part 13: PmM PmO WeN RwX. -/
import Derived.Test.YtgamoiagpglcmaaProg
import Derived.Test.YtgamoiagpglcmaaMg10
import Derived.Test.YtgamoiagpglcmaaMg9
import Derived.Test.YtgamoiagpglcmaaMg11
import Derived.RegionTactic
import Derived.Deep.RegionHeld3
import Derived.Test.YtgamoiagpglcmaaMg3
import Derived.Deep.Grids
import Derived.Test.YtgamoiagpglcmaaMg7
/- Maps of logical pages in memory; what the laws' helpers for maps do. -/
namespace Go.Proofs.Ytgamoiagpglcmaa
open Go.RowKit
set_option linter.unusedVariables false
set_option linter.unusedSimpArgs false
/-- The cells of a map whose lists are the slices u and v. -/
def pmc (M : Pm) (u v : Value) : Array Value := #[.int .i64 M.b, .int .i64 M.p, u, v]
def PmIn (w : World) (hi : Nat) (v : Value) (M : Pm) : Prop := ∃ a b, v = .agg (pmc M a b) ∧ NI w hi a M.mp ∧ NB w hi b M.tr
def PmOwn (w : World) (lo hi : Nat) (v : Value) (M : Pm) : Prop := ∃ a b, v = .agg (pmc M a b) ∧ IO w lo hi a M.mp ∧ BW w lo hi b M.tr ∧ (a.ownBlock = none ∨ a.ownBlock ≠ b.ownBlock)
section
variable {w w' : World} {lo hi lo' hi' B : Nat} {v : Value} {M : Pm}
theorem PmIn.below (h : PmIn w hi v M) (hb : Below B w w') (hB : hi ≤ B) : PmIn w' hi v M := by
  obtain ⟨a, b, e, h1, h2⟩ := h; exact ⟨a, b, e, h1.below hb hB, h2.below hb hB⟩
theorem PmIn.same (h : PmIn w hi v M) (hs : Same 0 hi w w') : PmIn w' hi v M := by
  obtain ⟨a, b, e, h1, h2⟩ := h; exact ⟨a, b, e, h1.same hs, h2.same hs⟩
theorem PmIn.wide (h : PmIn w hi v M) (hh : hi ≤ hi') : PmIn w hi' v M := by
  obtain ⟨a, b, e, h1, h2⟩ := h; exact ⟨a, b, e, h1.wide hh, h2.wide hh⟩
theorem PmOwn.reads (h : PmOwn w lo hi v M) : PmIn w hi v M := by
  obtain ⟨a, b, e, h1, h2, _⟩ := h; exact ⟨a, b, e, h1.reads, h2.reads⟩
theorem PmOwn.same (h : PmOwn w lo hi v M) (hs : Same lo hi w w') : PmOwn w' lo hi v M := by
  obtain ⟨a, b, e, h1, h2, h3⟩ := h; exact ⟨a, b, e, h1.same hs, h2.same hs, h3⟩
theorem PmOwn.wide (h : PmOwn w lo hi v M) (hl : lo' ≤ lo) (hh : hi ≤ hi') : PmOwn w lo' hi' v M := by
  obtain ⟨a, b, e, h1, h2, h3⟩ := h; exact ⟨a, b, e, h1.wide hl hh, h2.wide hl hh, h3⟩
theorem PmOwn.zero (w : World) (lo hi : Nat) : PmOwn w lo hi (.agg #[.int .i64 0, .int .i64 0, .slice none 0 0, .slice none 0 0]) Pm.zero := ⟨_, _, rfl, IO.nil _ _ _, BW.nil _ _ _, .inl rfl⟩
theorem PmIn.agg4 (h : PmIn w hi v M) : ∃ g0 g1 A n c A' n' c', v = .agg #[.int .i64 g0, .int .i64 g1, .slice A n c, .slice A' n' c'] := by
  obtain ⟨a, b, e, h1, h2⟩ := h
  obtain ⟨A, n, c, rfl⟩ := h1.slice
  obtain ⟨A', n', c', rfl⟩ := h2.slice
  exact ⟨_, _, _, _, _, _, _, _, e⟩
end
theorem PmOwn.agg4 {w : World} {lo hi : Nat} {v : Value} {M : Pm} (h : PmOwn w lo hi v M) : ∃ (g0 g1 : Int) (A : Option Addr) (n c : Nat) (A' : Option Addr) (n' c' : Nat), v = .agg #[.int .i64 g0, .int .i64 g1, .slice A n c, .slice A' n' c'] := h.reads.agg4
/-- The map fits. -/
def PmSz (M : Pm) : Prop := M.mp.length + M.tr.length ≤ 1048576
theorem BoolsOwn.sliceOf {w : World} {B : Nat} {v : Value} {l : List Bool} (h : BoolsOwn w B v l) : ∃ A n c, v = .slice A n c := by
  rcases h.shape with ⟨rfl, _⟩ | ⟨g, cap, rfl, _⟩ <;> exact ⟨_, _, _, rfl⟩
theorem IntsOwn.sliceOf' {w : World} {B : Nat} {v : Value} {l : List Int} (h : IntsOwn w B v l) : ∃ A n c, v = .slice A n c := by
  rcases h.shape with ⟨rfl, _⟩ | ⟨g, cap, rfl, _⟩ <;> exact ⟨_, _, _, rfl⟩
end Go.Proofs.Ytgamoiagpglcmaa
/- Maps of logical pages and metadata that come in as arguments of a law, opened: what is known of them. -/
namespace Go.Proofs.Ytgamoiagpglcmaa
open Go.RowKit Go.ChangeShapes Go.WideShapes
set_option linter.unusedVariables false
def PmW (M : Pm) : Prop := (WfI M.b ∧ WfI M.p) ∧ WfL M.mp
section
variable {H : Type} {enc : TypeId × Value → H} {W : World} {sp : Nat → Bool} {held : Bool}
theorem open_bools1 {fuel : Nat} {v : Value} {x : DataW H × List MemPlace} (h : DataW.trod enc Try.prog W 0 sp held fuel 23 [v] = some x) : ∃ L, NB W W.heap.size v L := by
  rcases Go.Deep.open_slice1 Try.underlying23 (by kernel_rfl) h with ⟨hcs, _⟩ | ⟨a, l, c, m, n, V, D, Pl, hcs, _, hl, hm, hmm, _, hx⟩
  · injection hcs with hcs
    subst hcs
    exact ⟨[], NB.nil _ _⟩
  · injection hcs with hcs
    subst hcs
    have hlm : l ≤ m := by rw [hmm]; split <;> omega
    have key : ∀ i, i < l → ∃ b : Bool, V i = .bool b := fun i hi => open_bool1 (hx i (by omega)).2
    obtain ⟨f, hf⟩ := Go.Deep.choose_lt key
    refine ⟨(List.range l).map f, ⟨some a, l, c, rfl, hl, by unfold maxLen at hm; omega, by simp, fun h0 => ?_⟩⟩
    obtain ⟨b, off, spot⟩ := a
    have h00 := (hx 0 (by omega)).1
    have hspot : spot = none := by simpa [Addr.add] using World.cell?_spot h00
    subst hspot
    refine ⟨b, off, rfl, World.block_lt_of_cell? W ⟨b, off, none⟩ (by simpa [Addr.add] using h00), fun i hi => ?_⟩
    have := (hx i (by omega)).1
    have e2 : (⟨b, off, none⟩ : Addr).add i = ⟨b, off + i, none⟩ := by unfold Addr.add; split <;> simp_all
    rw [e2, hf i hi] at this
    rw [this]
    simp [List.getD_eq_getElem?_getD, hi]
theorem cellsLBo : Try.prog.cellsOf 23 = 1 := by kernel_rfl
theorem cellsL64' : Try.prog.cellsOf 22 = 1 := by kernel_rfl
theorem cellsI'' : Try.prog.cellsOf 2 = 1 := by kernel_rfl
theorem list5 {α : Type} {l : List α} (h : l.length = 5) : ∃ a b c d e, l = [a, b, c, d, e] := by
  match l, h with
  | [a, b, c, d, e], _ => exact ⟨a, b, c, d, e, rfl⟩
end
end Go.Proofs.Ytgamoiagpglcmaa
/- Plain data: Wear. -/
namespace Go.Proofs.Ytgamoiagpglcmaa
open Go.RowKit
set_option linter.unusedVariables false
structure We where
  e : List Int
  b : List Bool
  c : List Int
  n : Int
def We.zero : We := ⟨[], [], [], 0⟩
instance : Inhabited We := ⟨We.zero⟩
/-- It fits. -/
def WeSz (M : We) : Prop := M.e.length + M.b.length + M.c.length ≤ 1048576
theorem We.zero_sz : WeSz We.zero := by unfold WeSz We.zero; simp
end Go.Proofs.Ytgamoiagpglcmaa
/- More of a known row: one cell; seven. -/
namespace Go.Proofs.Ytgamoiagpglcmaa
open Go.RowKit
theorem Rw.two_ {w : World} {g : Nat} {t : TypeId} {a b : Value} (h : Rw w g t #[a, b]) : w.cell? ⟨g, 0, none⟩ = some a ∧ w.cell? ⟨g, 1, none⟩ = some b := ⟨h.cell 0, h.cell 1⟩
theorem Rw.five_ {w : World} {g : Nat} {t : TypeId} {a b c d e : Value} (h : Rw w g t #[a, b, c, d, e]) : w.cell? ⟨g, 0, none⟩ = some a ∧ w.cell? ⟨g, 1, none⟩ = some b ∧ w.cell? ⟨g, 2, none⟩ = some c ∧ w.cell? ⟨g, 3, none⟩ = some d ∧ w.cell? ⟨g, 4, none⟩ = some e :=
  ⟨h.cell 0, h.cell 1, h.cell 2, h.cell 3, h.cell 4⟩
theorem Rw.seven_ {w : World} {g : Nat} {t : TypeId} {a b c d e f i : Value} (h : Rw w g t #[a, b, c, d, e, f, i]) : w.cell? ⟨g, 0, none⟩ = some a ∧ w.cell? ⟨g, 1, none⟩ = some b ∧ w.cell? ⟨g, 2, none⟩ = some c ∧ w.cell? ⟨g, 3, none⟩ = some d ∧ w.cell? ⟨g, 4, none⟩ = some e ∧ w.cell? ⟨g, 5, none⟩ = some f ∧ w.cell? ⟨g, 6, none⟩ = some i :=
  ⟨h.cell 0, h.cell 1, h.cell 2, h.cell 3, h.cell 4, h.cell 5, h.cell 6⟩
theorem Rw.one {w : World} {g : Nat} {t : TypeId} {a : Value} (h : Rw w g t #[a]) : w.cell? ⟨g, 0, none⟩ = some a := h.cell 0
end Go.Proofs.Ytgamoiagpglcmaa
