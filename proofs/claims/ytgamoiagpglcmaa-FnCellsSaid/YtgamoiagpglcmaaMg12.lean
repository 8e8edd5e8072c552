/- The proof's own lemmas, part 13: PmN PmM RwX CeM CxN. -/
import Derived.Test.YtgamoiagpglcmaaMg5
import Derived.Test.YtgamoiagpglcmaaProg
import Derived.Test.YtgamoiagpglcmaaMg10
import Derived.Test.YtgamoiagpglcmaaMg11
import Derived.RegionTactic
import Derived.Deep.RegionHeld3
/- A map of logical pages as plain data. No program in it. -/
namespace Go.Proofs.Ytgamoiagpglcmaa
open Go.RowKit
set_option linter.unusedVariables false
structure Pm where
  b : Int
  p : Int
  mp : List Int
  tr : List Bool
def Pm.zero : Pm := ⟨0, 0, [], []⟩
def Pm.at (M : Pm) (i : Nat) : Int := M.mp.getD i 0
def Pm.trim (M : Pm) (i : Nat) : Bool := M.tr.getD i false
def SizeOk (l b p : Int) : Prop := (1 ≤ l ∧ l ≤ 48) ∧ (1 ≤ b ∧ b ≤ 640) ∧ (1 ≤ p ∧ p ≤ 640) ∧ b * p ≤ 640
/-- Entry i: no record (then it is not trimmed), or a physical page that no earlier entry has. H: how many physical pages there are. -/
def EntOk (H : Int) (mp : List Int) (tr : List Bool) (i : Nat) : Prop :=
  (mp.getD i 0 = -1 ∧ tr.getD i false = false) ∨ ((0 ≤ mp.getD i 0 ∧ mp.getD i 0 < H) ∧ ¬ mp.getD i 0 ∈ mp.take i)
def PmOk (M : Pm) : Prop := SizeOk M.mp.length M.b M.p ∧ M.tr.length = M.mp.length ∧ ∀ i, i < M.mp.length → EntOk (M.b * M.p) M.mp M.tr i
/-- Entry i's record is data. -/
def Pm.has (M : Pm) (i : Nat) : Prop := M.at i ≠ -1 ∧ M.trim i = false
theorem SizeOk.le {l b p : Int} (h : SizeOk l b p) : 1 ≤ b * p := by
  obtain ⟨_, ⟨h1, _⟩, ⟨h3, _⟩, _⟩ := h
  have := Int.mul_le_mul h1 h3 (by omega) (by omega)
  omega
theorem mulBound {b p : Int} (h1 : 1 ≤ b) (h2 : b ≤ 640) (h3 : 1 ≤ p) (h4 : p ≤ 640) : 1 ≤ b * p ∧ b * p ≤ 409600 := by
  constructor
  · have := Int.mul_le_mul h1 h3 (by omega) (by omega); omega
  · have := Int.mul_le_mul h2 h4 (by omega) (by omega); omega
theorem mem_take_iff {l : List Int} {i : Nat} (hi : i ≤ l.length) {x : Int} : x ∈ l.take i ↔ ∃ k, k < i ∧ l.getD k 0 = x := by
  rw [mem_iff_getD]
  have e : ∀ k, k < i → (l.take i).getD k 0 = l.getD k 0 := fun k hk => by
    rw [List.getD_eq_getElem?_getD, List.getD_eq_getElem?_getD, List.getElem?_take, if_pos hk]
  have hl : (l.take i).length = i := by rw [List.length_take]; omega
  rw [hl]
  constructor
  · rintro ⟨k, h1, h2⟩; exact ⟨k, h1, by rw [← e k h1]; exact h2⟩
  · rintro ⟨k, h1, h2⟩; exact ⟨k, h1, by rw [e k h1]; exact h2⟩
end Go.Proofs.Ytgamoiagpglcmaa
/- Maps of logical pages in memory; what the laws' helpers for maps do. -/
namespace Go.Proofs.Ytgamoiagpglcmaa
open Go.RowKit
set_option linter.unusedVariables false
set_option linter.unusedSimpArgs false
/-- The cells of a map whose lists are the slices u and v. -/
def pmc (M : Pm) (u v : Value) : Array Value := #[.int .i64 M.b, .int .i64 M.p, u, v]
def PmIn (w : World) (hi : Nat) (v : Value) (M : Pm) : Prop := ∃ a b, v = .agg (pmc M a b) ∧ NI w hi a M.mp ∧ NB w hi b M.tr
def PmOwn (w : World) (lo hi : Nat) (v : Value) (M : Pm) : Prop := ∃ a b, v = .agg (pmc M a b) ∧ IO w lo hi a M.mp ∧ BW w lo hi b M.tr ∧ (a.ownBlock = none ∨ a.ownBlock ≠ b.ownBlock)
section
variable {w w' : World} {lo hi lo' hi' B : Nat} {v : Value} {M : Pm}
theorem PmIn.below (h : PmIn w hi v M) (hb : Below B w w') (hB : hi ≤ B) : PmIn w' hi v M := by
  obtain ⟨a, b, e, h1, h2⟩ := h; exact ⟨a, b, e, h1.below hb hB, h2.below hb hB⟩
theorem PmIn.same (h : PmIn w hi v M) (hs : Same 0 hi w w') : PmIn w' hi v M := by
  obtain ⟨a, b, e, h1, h2⟩ := h; exact ⟨a, b, e, h1.same hs, h2.same hs⟩
theorem PmIn.wide (h : PmIn w hi v M) (hh : hi ≤ hi') : PmIn w hi' v M := by
  obtain ⟨a, b, e, h1, h2⟩ := h; exact ⟨a, b, e, h1.wide hh, h2.wide hh⟩
theorem PmOwn.reads (h : PmOwn w lo hi v M) : PmIn w hi v M := by
  obtain ⟨a, b, e, h1, h2, _⟩ := h; exact ⟨a, b, e, h1.reads, h2.reads⟩
theorem PmOwn.same (h : PmOwn w lo hi v M) (hs : Same lo hi w w') : PmOwn w' lo hi v M := by
  obtain ⟨a, b, e, h1, h2, h3⟩ := h; exact ⟨a, b, e, h1.same hs, h2.same hs, h3⟩
theorem PmOwn.wide (h : PmOwn w lo hi v M) (hl : lo' ≤ lo) (hh : hi ≤ hi') : PmOwn w lo' hi' v M := by
  obtain ⟨a, b, e, h1, h2, h3⟩ := h; exact ⟨a, b, e, h1.wide hl hh, h2.wide hl hh, h3⟩
theorem PmOwn.zero (w : World) (lo hi : Nat) : PmOwn w lo hi (.agg #[.int .i64 0, .int .i64 0, .slice none 0 0, .slice none 0 0]) Pm.zero := ⟨_, _, rfl, IO.nil _ _ _, BW.nil _ _ _, .inl rfl⟩
theorem PmIn.agg4 (h : PmIn w hi v M) : ∃ g0 g1 A n c A' n' c', v = .agg #[.int .i64 g0, .int .i64 g1, .slice A n c, .slice A' n' c'] := by
  obtain ⟨a, b, e, h1, h2⟩ := h
  obtain ⟨A, n, c, rfl⟩ := h1.slice
  obtain ⟨A', n', c', rfl⟩ := h2.slice
  exact ⟨_, _, _, _, _, _, _, _, e⟩
end
theorem PmOwn.agg4 {w : World} {lo hi : Nat} {v : Value} {M : Pm} (h : PmOwn w lo hi v M) : ∃ (g0 g1 : Int) (A : Option Addr) (n c : Nat) (A' : Option Addr) (n' c' : Nat), v = .agg #[.int .i64 g0, .int .i64 g1, .slice A n c, .slice A' n' c'] := h.reads.agg4
/-- The map fits. -/
def PmSz (M : Pm) : Prop := M.mp.length + M.tr.length ≤ 1048576
theorem BoolsOwn.sliceOf {w : World} {B : Nat} {v : Value} {l : List Bool} (h : BoolsOwn w B v l) : ∃ A n c, v = .slice A n c := by
  rcases h.shape with ⟨rfl, _⟩ | ⟨g, cap, rfl, _⟩ <;> exact ⟨_, _, _, rfl⟩
theorem IntsOwn.sliceOf' {w : World} {B : Nat} {v : Value} {l : List Int} (h : IntsOwn w B v l) : ∃ A n c, v = .slice A n c := by
  rcases h.shape with ⟨rfl, _⟩ | ⟨g, cap, rfl, _⟩ <;> exact ⟨_, _, _, rfl⟩
end Go.Proofs.Ytgamoiagpglcmaa
/- More of a known row: one cell; seven. -/
namespace Go.Proofs.Ytgamoiagpglcmaa
open Go.RowKit
theorem Rw.two_ {w : World} {g : Nat} {t : TypeId} {a b : Value} (h : Rw w g t #[a, b]) : w.cell? ⟨g, 0, none⟩ = some a ∧ w.cell? ⟨g, 1, none⟩ = some b := ⟨h.cell 0, h.cell 1⟩
theorem Rw.five_ {w : World} {g : Nat} {t : TypeId} {a b c d e : Value} (h : Rw w g t #[a, b, c, d, e]) : w.cell? ⟨g, 0, none⟩ = some a ∧ w.cell? ⟨g, 1, none⟩ = some b ∧ w.cell? ⟨g, 2, none⟩ = some c ∧ w.cell? ⟨g, 3, none⟩ = some d ∧ w.cell? ⟨g, 4, none⟩ = some e :=
  ⟨h.cell 0, h.cell 1, h.cell 2, h.cell 3, h.cell 4⟩
theorem Rw.seven_ {w : World} {g : Nat} {t : TypeId} {a b c d e f i : Value} (h : Rw w g t #[a, b, c, d, e, f, i]) : w.cell? ⟨g, 0, none⟩ = some a ∧ w.cell? ⟨g, 1, none⟩ = some b ∧ w.cell? ⟨g, 2, none⟩ = some c ∧ w.cell? ⟨g, 3, none⟩ = some d ∧ w.cell? ⟨g, 4, none⟩ = some e ∧ w.cell? ⟨g, 5, none⟩ = some f ∧ w.cell? ⟨g, 6, none⟩ = some i :=
  ⟨h.cell 0, h.cell 1, h.cell 2, h.cell 3, h.cell 4, h.cell 5, h.cell 6⟩
theorem Rw.one {w : World} {g : Nat} {t : TypeId} {a : Value} (h : Rw w g t #[a]) : w.cell? ⟨g, 0, none⟩ = some a := h.cell 0
end Go.Proofs.Ytgamoiagpglcmaa
/- Cells in memory; what the laws' helpers for it do. -/
namespace Go.Proofs.Ytgamoiagpglcmaa
open Go.RowKit
set_option linter.unusedVariables false
set_option linter.unusedSimpArgs false
def cec (M : Ce) (u0 : Value) : Array Value := #[u0]
def CeIn (w : World) (hi : Nat) (v : Value) (M : Ce) : Prop := ∃ a0, v = .agg (cec M a0) ∧ NI w hi a0 M.c
def CeOwn (w : World) (lo hi : Nat) (v : Value) (M : Ce) : Prop := ∃ a0, v = .agg (cec M a0) ∧ IO w lo hi a0 M.c
section
variable {w w' : World} {lo hi lo' hi' B : Nat} {v : Value} {M : Ce}
theorem CeIn.below (h : CeIn w hi v M) (hb : Below B w w') (hB : hi ≤ B) : CeIn w' hi v M := by
  obtain ⟨a0, e, h0⟩ := h; exact ⟨a0, e, h0.below hb hB⟩
theorem CeIn.same (h : CeIn w hi v M) (hs : Same 0 hi w w') : CeIn w' hi v M := by
  obtain ⟨a0, e, h0⟩ := h; exact ⟨a0, e, h0.same hs⟩
theorem CeIn.wide (h : CeIn w hi v M) (hh : hi ≤ hi') : CeIn w hi' v M := by
  obtain ⟨a0, e, h0⟩ := h; exact ⟨a0, e, h0.wide hh⟩
theorem CeOwn.reads (h : CeOwn w lo hi v M) : CeIn w hi v M := by
  obtain ⟨a0, e, h0⟩ := h; exact ⟨a0, e, h0.reads⟩
theorem CeOwn.same (h : CeOwn w lo hi v M) (hs : Same lo hi w w') : CeOwn w' lo hi v M := by
  obtain ⟨a0, e, h0⟩ := h; exact ⟨a0, e, h0.same hs⟩
theorem CeOwn.wide (h : CeOwn w lo hi v M) (hl : lo' ≤ lo) (hh : hi ≤ hi') : CeOwn w lo' hi' v M := by
  obtain ⟨a0, e, h0⟩ := h; exact ⟨a0, e, h0.wide hl hh⟩
theorem CeOwn.zero (w : World) (lo hi : Nat) : CeOwn w lo hi (.agg #[.slice none 0 0]) Ce.zero := ⟨_, rfl, IO.nil _ _ _⟩
theorem CeIn.agg_ (h : CeIn w hi v M) : ∃ (A0 : Option Addr) (n0 c0 : Nat), v = .agg #[.slice A0 n0 c0] := by
  obtain ⟨a0, e, h0⟩ := h
  obtain ⟨A0, n0, c0, rfl⟩ := h0.slice
  exact ⟨_, _, _, e⟩
theorem CeOwn.agg_ (h : CeOwn w lo hi v M) : ∃ (A0 : Option Addr) (n0 c0 : Nat), v = .agg #[.slice A0 n0 c0] := h.reads.agg_
end
theorem infoCe : (Try.prog.info? 42).map (·.size) = some 1 := by kernel_rfl
end Go.Proofs.Ytgamoiagpglcmaa
/- Memory cells as plain data: what is valid, what an erase leaves. No program in it. -/
namespace Go.Proofs.Ytgamoiagpglcmaa
open Go.RowKit
set_option linter.unusedVariables false
/-- One charge is in its bounds. -/
def ChOk (c : List Int) (i : Nat) : Prop := 0 ≤ c.getD i 0 ∧ c.getD i 0 ≤ 255
def CeOk (M : Ce) : Prop := M.c.length ≤ 64 ∧ ∀ i, i < M.c.length → ChOk M.c i
def eraC (M : Ce) : Ce := ⟨M.c.map (· / 4)⟩
def eraE (M : Ce) (r : Bool) : Ce := bif r then eraC M else Ce.zero
theorem eraE_sz {M : Ce} {r : Bool} (z : CeSz M) : CeSz (eraE M r) := by
  unfold CeSz at z ⊢
  cases r
  · simp [eraE, Ce.zero]
  · simpa [eraE, eraC] using z
/-- Two charges differ. -/
def Leaks (M : Ce) : Prop := ∃ i, i < M.c.length ∧ M.c.getD i 0 ≠ M.c.getD 0 0
end Go.Proofs.Ytgamoiagpglcmaa
