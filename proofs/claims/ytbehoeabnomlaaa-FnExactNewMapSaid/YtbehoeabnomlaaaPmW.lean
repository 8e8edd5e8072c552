/- NewMap, in the program and in the model: the contracts. -/
import Derived.Test.YtbehoeabnomlaaaProg
import Derived.Test.YtbehoeabnomlaaaPmS
import Derived.Laws.MakeOwn
import Derived.Deep.RegionHeld3
import Derived.Deep.Cut
import Derived.Deep.DeepCutAuto
namespace Go.Proofs.Ytbehoeabnomlaaa
open Go.RowKit
set_option linter.unusedVariables false
set_option linter.unusedSimpArgs false
theorem madeInts (W : World) {B n : Nat} (hB : B ≤ W.heap.size) (hn : n ≤ 1048576) : IntsOwn (W.alloc (.cells (madeCells #[.int .i64 0] (n * 1)) 2)) B (.slice (some ⟨W.heap.size, 0, none⟩) n n) (List.replicate n 0) := by
  have h := World.ownsRow_lit (base := B) (e := 2) (size := 1) W (madeCells #[.int .i64 0] (n * 1)) n hB (by unfold maxLen; omega) (size_madeCells _ _)
  have e : (madeCells #[Value.int .i64 0] (n * 1)).toList = (List.replicate n (0 : Int)).map (Value.int .i64) := by
    rw [toList_madeCells_one]; simp
  rw [e] at h
  unfold IntsOwn; simpa using h
theorem madeBools (W : World) {B n : Nat} (hB : B ≤ W.heap.size) (hn : n ≤ 1048576) : BoolsOwn (W.alloc (.cells (madeCells #[.bool false] (n * 1)) 4)) B (.slice (some ⟨W.heap.size, 0, none⟩) n n) (List.replicate n false) := by
  have h := World.ownsRow_lit (base := B) (e := 4) (size := 1) W (madeCells #[.bool false] (n * 1)) n hB (by unfold maxLen; omega) (size_madeCells _ _)
  have e : (madeCells #[Value.bool false] (n * 1)).toList = (List.replicate n false).map Value.bool := by
    rw [toList_madeCells_one]; simp
  rw [e] at h
  unfold BoolsOwn; simpa using h
def newPm (l b p : Int) : Pm := ⟨b, p, List.replicate l.toNat (-1), List.replicate l.toNat false⟩
/-- What NewMap answers. -/
def NewIs (l b p : Int) (M : Pm) (c : Int) : Prop := (SizeOk l b p ∧ M = newPm l b p ∧ c = 0) ∨ (¬ SizeOk l b p ∧ M = Pm.zero ∧ c = 2)
theorem newIs (l b p : Int) : ∃ M c, NewIs l b p M c := by
  by_cases h : SizeOk l b p
  · exact ⟨_, _, .inl ⟨h, rfl, rfl⟩⟩
  · exact ⟨_, _, .inr ⟨h, rfl, rfl⟩⟩
def PmPost (M : Pm) (c : Int) (w : World) (e : Ending) (w' : World) : Prop := ∃ u, e = .returned (.tuple #[u, .int .i64 c]) ∧ PmOwn w' w.heap.size w'.heap.size u M ∧ Below w.heap.size w w'
/-- What stands behind the making: the two slices and the variable. -/
structure Made3 (b p : Int) (n : Nat) (w1 : World) (gi gb gm : Nat) (W : World) : Prop where
  i : IntsOwn W w1.heap.size (.slice (some ⟨gi, 0, none⟩) n n) (List.replicate n 0)
  t : BoolsOwn W w1.heap.size (.slice (some ⟨gb, 0, none⟩) n n) (List.replicate n false)
  m : Rw W gm 28 #[.int .i64 b, .int .i64 p, .slice (some ⟨gi, 0, none⟩) n n, .slice (some ⟨gb, 0, none⟩) n n]
  bel : Below w1.heap.size w1 W
  far : w1.heap.size ≤ gm ∧ gi ≠ gm ∧ gb ≠ gm ∧ gi ≠ gb

theorem made_IBM (b p : Int) (n : Nat) (w1 : World) (hn : n ≤ 1048576) : Made3 b p n w1 (w1.heap.size) (w1.heap.size + 1) (w1.heap.size + 1 + 1) (((w1.alloc (.cells (madeCells #[.int .i64 0] (n * 1)) 2)).alloc (.cells (madeCells #[.bool false] (n * 1)) 4)).alloc (.cells #[.int .i64 b, .int .i64 p, .slice (some ⟨w1.heap.size, 0, none⟩) n n, .slice (some ⟨w1.heap.size + 1, 0, none⟩) n n] 28)).drew := by
  have hI := (madeInts w1 (B := w1.heap.size) (n := n) (by simp) hn).later (((Below.refl (w1.alloc (.cells (madeCells #[.int .i64 0] (n * 1)) 2)).heap.size (w1.alloc (.cells (madeCells #[.int .i64 0] (n * 1)) 2))).alloc (by simp) (.cells (madeCells #[.bool false] (n * 1)) 4)).alloc (by simp) (.cells #[.int .i64 b, .int .i64 p, .slice (some ⟨w1.heap.size, 0, none⟩) n n, .slice (some ⟨w1.heap.size + 1, 0, none⟩) n n] 28)).drew (Nat.le_refl _)
  have hB := (madeBools (w1.alloc (.cells (madeCells #[.int .i64 0] (n * 1)) 2)) (B := w1.heap.size) (n := n) (by simp <;> omega) hn).later ((Below.refl ((w1.alloc (.cells (madeCells #[.int .i64 0] (n * 1)) 2)).alloc (.cells (madeCells #[.bool false] (n * 1)) 4)).heap.size ((w1.alloc (.cells (madeCells #[.int .i64 0] (n * 1)) 2)).alloc (.cells (madeCells #[.bool false] (n * 1)) 4))).alloc (by simp) (.cells #[.int .i64 b, .int .i64 p, .slice (some ⟨w1.heap.size, 0, none⟩) n n, .slice (some ⟨w1.heap.size + 1, 0, none⟩) n n] 28)).drew (Nat.le_refl _)
  rw [show (w1.alloc (.cells (madeCells #[.int .i64 0] (n * 1)) 2)).heap.size = w1.heap.size + 1 by simp] at hB
  have hM := (Rw.new ((w1.alloc (.cells (madeCells #[.int .i64 0] (n * 1)) 2)).alloc (.cells (madeCells #[.bool false] (n * 1)) 4)) 28 #[.int .i64 b, .int .i64 p, .slice (some ⟨w1.heap.size, 0, none⟩) n n, .slice (some ⟨w1.heap.size + 1, 0, none⟩) n n]).below (Below.refl (((w1.alloc (.cells (madeCells #[.int .i64 0] (n * 1)) 2)).alloc (.cells (madeCells #[.bool false] (n * 1)) 4)).alloc (.cells #[.int .i64 b, .int .i64 p, .slice (some ⟨w1.heap.size, 0, none⟩) n n, .slice (some ⟨w1.heap.size + 1, 0, none⟩) n n] 28)).heap.size (((w1.alloc (.cells (madeCells #[.int .i64 0] (n * 1)) 2)).alloc (.cells (madeCells #[.bool false] (n * 1)) 4)).alloc (.cells #[.int .i64 b, .int .i64 p, .slice (some ⟨w1.heap.size, 0, none⟩) n n, .slice (some ⟨w1.heap.size + 1, 0, none⟩) n n] 28))).drew (by simp)
  rw [show ((w1.alloc (.cells (madeCells #[.int .i64 0] (n * 1)) 2)).alloc (.cells (madeCells #[.bool false] (n * 1)) 4)).heap.size = w1.heap.size + 1 + 1 by simp] at hM
  exact ⟨hI, hB, hM, ((((Below.refl w1.heap.size w1).alloc (Nat.le_refl _) _).alloc (by simp <;> omega) _).alloc (by simp <;> omega) _).drew, by omega⟩
theorem made_IMB (b p : Int) (n : Nat) (w1 : World) (hn : n ≤ 1048576) : Made3 b p n w1 (w1.heap.size) (w1.heap.size + 1 + 1) (w1.heap.size + 1) (((w1.alloc (.cells (madeCells #[.int .i64 0] (n * 1)) 2)).alloc (.cells #[.int .i64 b, .int .i64 p, .slice (some ⟨w1.heap.size, 0, none⟩) n n, .slice (some ⟨w1.heap.size + 1 + 1, 0, none⟩) n n] 28)).alloc (.cells (madeCells #[.bool false] (n * 1)) 4)).drew := by
  have hI := (madeInts w1 (B := w1.heap.size) (n := n) (by simp) hn).later (((Below.refl (w1.alloc (.cells (madeCells #[.int .i64 0] (n * 1)) 2)).heap.size (w1.alloc (.cells (madeCells #[.int .i64 0] (n * 1)) 2))).alloc (by simp) (.cells #[.int .i64 b, .int .i64 p, .slice (some ⟨w1.heap.size, 0, none⟩) n n, .slice (some ⟨w1.heap.size + 1 + 1, 0, none⟩) n n] 28)).alloc (by simp) (.cells (madeCells #[.bool false] (n * 1)) 4)).drew (Nat.le_refl _)
  have hB := (madeBools ((w1.alloc (.cells (madeCells #[.int .i64 0] (n * 1)) 2)).alloc (.cells #[.int .i64 b, .int .i64 p, .slice (some ⟨w1.heap.size, 0, none⟩) n n, .slice (some ⟨w1.heap.size + 1 + 1, 0, none⟩) n n] 28)) (B := w1.heap.size) (n := n) (by simp <;> omega) hn).later (Below.refl (((w1.alloc (.cells (madeCells #[.int .i64 0] (n * 1)) 2)).alloc (.cells #[.int .i64 b, .int .i64 p, .slice (some ⟨w1.heap.size, 0, none⟩) n n, .slice (some ⟨w1.heap.size + 1 + 1, 0, none⟩) n n] 28)).alloc (.cells (madeCells #[.bool false] (n * 1)) 4)).heap.size (((w1.alloc (.cells (madeCells #[.int .i64 0] (n * 1)) 2)).alloc (.cells #[.int .i64 b, .int .i64 p, .slice (some ⟨w1.heap.size, 0, none⟩) n n, .slice (some ⟨w1.heap.size + 1 + 1, 0, none⟩) n n] 28)).alloc (.cells (madeCells #[.bool false] (n * 1)) 4))).drew (Nat.le_refl _)
  rw [show ((w1.alloc (.cells (madeCells #[.int .i64 0] (n * 1)) 2)).alloc (.cells #[.int .i64 b, .int .i64 p, .slice (some ⟨w1.heap.size, 0, none⟩) n n, .slice (some ⟨w1.heap.size + 1 + 1, 0, none⟩) n n] 28)).heap.size = w1.heap.size + 1 + 1 by simp] at hB
  have hM := (Rw.new (w1.alloc (.cells (madeCells #[.int .i64 0] (n * 1)) 2)) 28 #[.int .i64 b, .int .i64 p, .slice (some ⟨w1.heap.size, 0, none⟩) n n, .slice (some ⟨w1.heap.size + 1 + 1, 0, none⟩) n n]).below ((Below.refl ((w1.alloc (.cells (madeCells #[.int .i64 0] (n * 1)) 2)).alloc (.cells #[.int .i64 b, .int .i64 p, .slice (some ⟨w1.heap.size, 0, none⟩) n n, .slice (some ⟨w1.heap.size + 1 + 1, 0, none⟩) n n] 28)).heap.size ((w1.alloc (.cells (madeCells #[.int .i64 0] (n * 1)) 2)).alloc (.cells #[.int .i64 b, .int .i64 p, .slice (some ⟨w1.heap.size, 0, none⟩) n n, .slice (some ⟨w1.heap.size + 1 + 1, 0, none⟩) n n] 28))).alloc (by simp) (.cells (madeCells #[.bool false] (n * 1)) 4)).drew (by simp)
  rw [show (w1.alloc (.cells (madeCells #[.int .i64 0] (n * 1)) 2)).heap.size = w1.heap.size + 1 by simp] at hM
  exact ⟨hI, hB, hM, ((((Below.refl w1.heap.size w1).alloc (Nat.le_refl _) _).alloc (by simp <;> omega) _).alloc (by simp <;> omega) _).drew, by omega⟩
theorem made_BIM (b p : Int) (n : Nat) (w1 : World) (hn : n ≤ 1048576) : Made3 b p n w1 (w1.heap.size + 1) (w1.heap.size) (w1.heap.size + 1 + 1) (((w1.alloc (.cells (madeCells #[.bool false] (n * 1)) 4)).alloc (.cells (madeCells #[.int .i64 0] (n * 1)) 2)).alloc (.cells #[.int .i64 b, .int .i64 p, .slice (some ⟨w1.heap.size + 1, 0, none⟩) n n, .slice (some ⟨w1.heap.size, 0, none⟩) n n] 28)).drew := by
  have hI := (madeInts (w1.alloc (.cells (madeCells #[.bool false] (n * 1)) 4)) (B := w1.heap.size) (n := n) (by simp <;> omega) hn).later ((Below.refl ((w1.alloc (.cells (madeCells #[.bool false] (n * 1)) 4)).alloc (.cells (madeCells #[.int .i64 0] (n * 1)) 2)).heap.size ((w1.alloc (.cells (madeCells #[.bool false] (n * 1)) 4)).alloc (.cells (madeCells #[.int .i64 0] (n * 1)) 2))).alloc (by simp) (.cells #[.int .i64 b, .int .i64 p, .slice (some ⟨w1.heap.size + 1, 0, none⟩) n n, .slice (some ⟨w1.heap.size, 0, none⟩) n n] 28)).drew (Nat.le_refl _)
  rw [show (w1.alloc (.cells (madeCells #[.bool false] (n * 1)) 4)).heap.size = w1.heap.size + 1 by simp] at hI
  have hB := (madeBools w1 (B := w1.heap.size) (n := n) (by simp) hn).later (((Below.refl (w1.alloc (.cells (madeCells #[.bool false] (n * 1)) 4)).heap.size (w1.alloc (.cells (madeCells #[.bool false] (n * 1)) 4))).alloc (by simp) (.cells (madeCells #[.int .i64 0] (n * 1)) 2)).alloc (by simp) (.cells #[.int .i64 b, .int .i64 p, .slice (some ⟨w1.heap.size + 1, 0, none⟩) n n, .slice (some ⟨w1.heap.size, 0, none⟩) n n] 28)).drew (Nat.le_refl _)
  have hM := (Rw.new ((w1.alloc (.cells (madeCells #[.bool false] (n * 1)) 4)).alloc (.cells (madeCells #[.int .i64 0] (n * 1)) 2)) 28 #[.int .i64 b, .int .i64 p, .slice (some ⟨w1.heap.size + 1, 0, none⟩) n n, .slice (some ⟨w1.heap.size, 0, none⟩) n n]).below (Below.refl (((w1.alloc (.cells (madeCells #[.bool false] (n * 1)) 4)).alloc (.cells (madeCells #[.int .i64 0] (n * 1)) 2)).alloc (.cells #[.int .i64 b, .int .i64 p, .slice (some ⟨w1.heap.size + 1, 0, none⟩) n n, .slice (some ⟨w1.heap.size, 0, none⟩) n n] 28)).heap.size (((w1.alloc (.cells (madeCells #[.bool false] (n * 1)) 4)).alloc (.cells (madeCells #[.int .i64 0] (n * 1)) 2)).alloc (.cells #[.int .i64 b, .int .i64 p, .slice (some ⟨w1.heap.size + 1, 0, none⟩) n n, .slice (some ⟨w1.heap.size, 0, none⟩) n n] 28))).drew (by simp)
  rw [show ((w1.alloc (.cells (madeCells #[.bool false] (n * 1)) 4)).alloc (.cells (madeCells #[.int .i64 0] (n * 1)) 2)).heap.size = w1.heap.size + 1 + 1 by simp] at hM
  exact ⟨hI, hB, hM, ((((Below.refl w1.heap.size w1).alloc (Nat.le_refl _) _).alloc (by simp <;> omega) _).alloc (by simp <;> omega) _).drew, by omega⟩
theorem made_BMI (b p : Int) (n : Nat) (w1 : World) (hn : n ≤ 1048576) : Made3 b p n w1 (w1.heap.size + 1 + 1) (w1.heap.size) (w1.heap.size + 1) (((w1.alloc (.cells (madeCells #[.bool false] (n * 1)) 4)).alloc (.cells #[.int .i64 b, .int .i64 p, .slice (some ⟨w1.heap.size + 1 + 1, 0, none⟩) n n, .slice (some ⟨w1.heap.size, 0, none⟩) n n] 28)).alloc (.cells (madeCells #[.int .i64 0] (n * 1)) 2)).drew := by
  have hI := (madeInts ((w1.alloc (.cells (madeCells #[.bool false] (n * 1)) 4)).alloc (.cells #[.int .i64 b, .int .i64 p, .slice (some ⟨w1.heap.size + 1 + 1, 0, none⟩) n n, .slice (some ⟨w1.heap.size, 0, none⟩) n n] 28)) (B := w1.heap.size) (n := n) (by simp <;> omega) hn).later (Below.refl (((w1.alloc (.cells (madeCells #[.bool false] (n * 1)) 4)).alloc (.cells #[.int .i64 b, .int .i64 p, .slice (some ⟨w1.heap.size + 1 + 1, 0, none⟩) n n, .slice (some ⟨w1.heap.size, 0, none⟩) n n] 28)).alloc (.cells (madeCells #[.int .i64 0] (n * 1)) 2)).heap.size (((w1.alloc (.cells (madeCells #[.bool false] (n * 1)) 4)).alloc (.cells #[.int .i64 b, .int .i64 p, .slice (some ⟨w1.heap.size + 1 + 1, 0, none⟩) n n, .slice (some ⟨w1.heap.size, 0, none⟩) n n] 28)).alloc (.cells (madeCells #[.int .i64 0] (n * 1)) 2))).drew (Nat.le_refl _)
  rw [show ((w1.alloc (.cells (madeCells #[.bool false] (n * 1)) 4)).alloc (.cells #[.int .i64 b, .int .i64 p, .slice (some ⟨w1.heap.size + 1 + 1, 0, none⟩) n n, .slice (some ⟨w1.heap.size, 0, none⟩) n n] 28)).heap.size = w1.heap.size + 1 + 1 by simp] at hI
  have hB := (madeBools w1 (B := w1.heap.size) (n := n) (by simp) hn).later (((Below.refl (w1.alloc (.cells (madeCells #[.bool false] (n * 1)) 4)).heap.size (w1.alloc (.cells (madeCells #[.bool false] (n * 1)) 4))).alloc (by simp) (.cells #[.int .i64 b, .int .i64 p, .slice (some ⟨w1.heap.size + 1 + 1, 0, none⟩) n n, .slice (some ⟨w1.heap.size, 0, none⟩) n n] 28)).alloc (by simp) (.cells (madeCells #[.int .i64 0] (n * 1)) 2)).drew (Nat.le_refl _)
  have hM := (Rw.new (w1.alloc (.cells (madeCells #[.bool false] (n * 1)) 4)) 28 #[.int .i64 b, .int .i64 p, .slice (some ⟨w1.heap.size + 1 + 1, 0, none⟩) n n, .slice (some ⟨w1.heap.size, 0, none⟩) n n]).below ((Below.refl ((w1.alloc (.cells (madeCells #[.bool false] (n * 1)) 4)).alloc (.cells #[.int .i64 b, .int .i64 p, .slice (some ⟨w1.heap.size + 1 + 1, 0, none⟩) n n, .slice (some ⟨w1.heap.size, 0, none⟩) n n] 28)).heap.size ((w1.alloc (.cells (madeCells #[.bool false] (n * 1)) 4)).alloc (.cells #[.int .i64 b, .int .i64 p, .slice (some ⟨w1.heap.size + 1 + 1, 0, none⟩) n n, .slice (some ⟨w1.heap.size, 0, none⟩) n n] 28))).alloc (by simp) (.cells (madeCells #[.int .i64 0] (n * 1)) 2)).drew (by simp)
  rw [show (w1.alloc (.cells (madeCells #[.bool false] (n * 1)) 4)).heap.size = w1.heap.size + 1 by simp] at hM
  exact ⟨hI, hB, hM, ((((Below.refl w1.heap.size w1).alloc (Nat.le_refl _) _).alloc (by simp <;> omega) _).alloc (by simp <;> omega) _).drew, by omega⟩
theorem made_MIB (b p : Int) (n : Nat) (w1 : World) (hn : n ≤ 1048576) : Made3 b p n w1 (w1.heap.size + 1) (w1.heap.size + 1 + 1) (w1.heap.size) (((w1.alloc (.cells #[.int .i64 b, .int .i64 p, .slice (some ⟨w1.heap.size + 1, 0, none⟩) n n, .slice (some ⟨w1.heap.size + 1 + 1, 0, none⟩) n n] 28)).alloc (.cells (madeCells #[.int .i64 0] (n * 1)) 2)).alloc (.cells (madeCells #[.bool false] (n * 1)) 4)).drew := by
  have hI := (madeInts (w1.alloc (.cells #[.int .i64 b, .int .i64 p, .slice (some ⟨w1.heap.size + 1, 0, none⟩) n n, .slice (some ⟨w1.heap.size + 1 + 1, 0, none⟩) n n] 28)) (B := w1.heap.size) (n := n) (by simp <;> omega) hn).later ((Below.refl ((w1.alloc (.cells #[.int .i64 b, .int .i64 p, .slice (some ⟨w1.heap.size + 1, 0, none⟩) n n, .slice (some ⟨w1.heap.size + 1 + 1, 0, none⟩) n n] 28)).alloc (.cells (madeCells #[.int .i64 0] (n * 1)) 2)).heap.size ((w1.alloc (.cells #[.int .i64 b, .int .i64 p, .slice (some ⟨w1.heap.size + 1, 0, none⟩) n n, .slice (some ⟨w1.heap.size + 1 + 1, 0, none⟩) n n] 28)).alloc (.cells (madeCells #[.int .i64 0] (n * 1)) 2))).alloc (by simp) (.cells (madeCells #[.bool false] (n * 1)) 4)).drew (Nat.le_refl _)
  rw [show (w1.alloc (.cells #[.int .i64 b, .int .i64 p, .slice (some ⟨w1.heap.size + 1, 0, none⟩) n n, .slice (some ⟨w1.heap.size + 1 + 1, 0, none⟩) n n] 28)).heap.size = w1.heap.size + 1 by simp] at hI
  have hB := (madeBools ((w1.alloc (.cells #[.int .i64 b, .int .i64 p, .slice (some ⟨w1.heap.size + 1, 0, none⟩) n n, .slice (some ⟨w1.heap.size + 1 + 1, 0, none⟩) n n] 28)).alloc (.cells (madeCells #[.int .i64 0] (n * 1)) 2)) (B := w1.heap.size) (n := n) (by simp <;> omega) hn).later (Below.refl (((w1.alloc (.cells #[.int .i64 b, .int .i64 p, .slice (some ⟨w1.heap.size + 1, 0, none⟩) n n, .slice (some ⟨w1.heap.size + 1 + 1, 0, none⟩) n n] 28)).alloc (.cells (madeCells #[.int .i64 0] (n * 1)) 2)).alloc (.cells (madeCells #[.bool false] (n * 1)) 4)).heap.size (((w1.alloc (.cells #[.int .i64 b, .int .i64 p, .slice (some ⟨w1.heap.size + 1, 0, none⟩) n n, .slice (some ⟨w1.heap.size + 1 + 1, 0, none⟩) n n] 28)).alloc (.cells (madeCells #[.int .i64 0] (n * 1)) 2)).alloc (.cells (madeCells #[.bool false] (n * 1)) 4))).drew (Nat.le_refl _)
  rw [show ((w1.alloc (.cells #[.int .i64 b, .int .i64 p, .slice (some ⟨w1.heap.size + 1, 0, none⟩) n n, .slice (some ⟨w1.heap.size + 1 + 1, 0, none⟩) n n] 28)).alloc (.cells (madeCells #[.int .i64 0] (n * 1)) 2)).heap.size = w1.heap.size + 1 + 1 by simp] at hB
  have hM := (Rw.new w1 28 #[.int .i64 b, .int .i64 p, .slice (some ⟨w1.heap.size + 1, 0, none⟩) n n, .slice (some ⟨w1.heap.size + 1 + 1, 0, none⟩) n n]).below (((Below.refl (w1.alloc (.cells #[.int .i64 b, .int .i64 p, .slice (some ⟨w1.heap.size + 1, 0, none⟩) n n, .slice (some ⟨w1.heap.size + 1 + 1, 0, none⟩) n n] 28)).heap.size (w1.alloc (.cells #[.int .i64 b, .int .i64 p, .slice (some ⟨w1.heap.size + 1, 0, none⟩) n n, .slice (some ⟨w1.heap.size + 1 + 1, 0, none⟩) n n] 28))).alloc (by simp) (.cells (madeCells #[.int .i64 0] (n * 1)) 2)).alloc (by simp) (.cells (madeCells #[.bool false] (n * 1)) 4)).drew (by simp)
  exact ⟨hI, hB, hM, ((((Below.refl w1.heap.size w1).alloc (Nat.le_refl _) _).alloc (by simp <;> omega) _).alloc (by simp <;> omega) _).drew, by omega⟩
theorem made_MBI (b p : Int) (n : Nat) (w1 : World) (hn : n ≤ 1048576) : Made3 b p n w1 (w1.heap.size + 1 + 1) (w1.heap.size + 1) (w1.heap.size) (((w1.alloc (.cells #[.int .i64 b, .int .i64 p, .slice (some ⟨w1.heap.size + 1 + 1, 0, none⟩) n n, .slice (some ⟨w1.heap.size + 1, 0, none⟩) n n] 28)).alloc (.cells (madeCells #[.bool false] (n * 1)) 4)).alloc (.cells (madeCells #[.int .i64 0] (n * 1)) 2)).drew := by
  have hI := (madeInts ((w1.alloc (.cells #[.int .i64 b, .int .i64 p, .slice (some ⟨w1.heap.size + 1 + 1, 0, none⟩) n n, .slice (some ⟨w1.heap.size + 1, 0, none⟩) n n] 28)).alloc (.cells (madeCells #[.bool false] (n * 1)) 4)) (B := w1.heap.size) (n := n) (by simp <;> omega) hn).later (Below.refl (((w1.alloc (.cells #[.int .i64 b, .int .i64 p, .slice (some ⟨w1.heap.size + 1 + 1, 0, none⟩) n n, .slice (some ⟨w1.heap.size + 1, 0, none⟩) n n] 28)).alloc (.cells (madeCells #[.bool false] (n * 1)) 4)).alloc (.cells (madeCells #[.int .i64 0] (n * 1)) 2)).heap.size (((w1.alloc (.cells #[.int .i64 b, .int .i64 p, .slice (some ⟨w1.heap.size + 1 + 1, 0, none⟩) n n, .slice (some ⟨w1.heap.size + 1, 0, none⟩) n n] 28)).alloc (.cells (madeCells #[.bool false] (n * 1)) 4)).alloc (.cells (madeCells #[.int .i64 0] (n * 1)) 2))).drew (Nat.le_refl _)
  rw [show ((w1.alloc (.cells #[.int .i64 b, .int .i64 p, .slice (some ⟨w1.heap.size + 1 + 1, 0, none⟩) n n, .slice (some ⟨w1.heap.size + 1, 0, none⟩) n n] 28)).alloc (.cells (madeCells #[.bool false] (n * 1)) 4)).heap.size = w1.heap.size + 1 + 1 by simp] at hI
  have hB := (madeBools (w1.alloc (.cells #[.int .i64 b, .int .i64 p, .slice (some ⟨w1.heap.size + 1 + 1, 0, none⟩) n n, .slice (some ⟨w1.heap.size + 1, 0, none⟩) n n] 28)) (B := w1.heap.size) (n := n) (by simp <;> omega) hn).later ((Below.refl ((w1.alloc (.cells #[.int .i64 b, .int .i64 p, .slice (some ⟨w1.heap.size + 1 + 1, 0, none⟩) n n, .slice (some ⟨w1.heap.size + 1, 0, none⟩) n n] 28)).alloc (.cells (madeCells #[.bool false] (n * 1)) 4)).heap.size ((w1.alloc (.cells #[.int .i64 b, .int .i64 p, .slice (some ⟨w1.heap.size + 1 + 1, 0, none⟩) n n, .slice (some ⟨w1.heap.size + 1, 0, none⟩) n n] 28)).alloc (.cells (madeCells #[.bool false] (n * 1)) 4))).alloc (by simp) (.cells (madeCells #[.int .i64 0] (n * 1)) 2)).drew (Nat.le_refl _)
  rw [show (w1.alloc (.cells #[.int .i64 b, .int .i64 p, .slice (some ⟨w1.heap.size + 1 + 1, 0, none⟩) n n, .slice (some ⟨w1.heap.size + 1, 0, none⟩) n n] 28)).heap.size = w1.heap.size + 1 by simp] at hB
  have hM := (Rw.new w1 28 #[.int .i64 b, .int .i64 p, .slice (some ⟨w1.heap.size + 1 + 1, 0, none⟩) n n, .slice (some ⟨w1.heap.size + 1, 0, none⟩) n n]).below (((Below.refl (w1.alloc (.cells #[.int .i64 b, .int .i64 p, .slice (some ⟨w1.heap.size + 1 + 1, 0, none⟩) n n, .slice (some ⟨w1.heap.size + 1, 0, none⟩) n n] 28)).heap.size (w1.alloc (.cells #[.int .i64 b, .int .i64 p, .slice (some ⟨w1.heap.size + 1 + 1, 0, none⟩) n n, .slice (some ⟨w1.heap.size + 1, 0, none⟩) n n] 28))).alloc (by simp) (.cells (madeCells #[.bool false] (n * 1)) 4)).alloc (by simp) (.cells (madeCells #[.int .i64 0] (n * 1)) 2)).drew (by simp)
  exact ⟨hI, hB, hM, ((((Below.refl w1.heap.size w1).alloc (Nat.le_refl _) _).alloc (by simp <;> omega) _).alloc (by simp <;> omega) _).drew, by omega⟩
set_option maxHeartbeats 4000000 in
set_option maxRecDepth 100000 in
theorem implNew_any (l b p : Int) (M : Pm) (c : Int) (w : World) (hm : NewIs l b p M c) : Calls Try.prog 21 #[.int .i64 l, .int .i64 b, .int .i64 p] w (PmPost M c w) := by
  obtain ⟨r, hr⟩ := prop_dec' (SizeOk l b p)
  have HV := Lib.hid (fun (W : World) => implSizes_any l b p r W hr)
  have R0 := Lib.hid (Rw.new w 28 #[.int .i64 0, .int .i64 0, .slice none 0 0, .slice none 0 0])
  have BB := Lib.hid ((Below.refl w.heap.size w).alloc (Nat.le_refl _) (.cells #[.int .i64 0, .int .i64 0, .slice none 0 0, .slice none 0 0] 28))
  have hz : (w.alloc (.cells #[.int .i64 0, .int .i64 0, .slice none 0 0, .slice none 0 0] 28)).heap.size = w.heap.size + 1 := by simp
  rcases hm with ⟨hs, rfl, rfl⟩ | ⟨hs, rfl, rfl⟩
  case inr =>
    obtain rfl : r = false := not_true hr hs
    clear hr hs
    go_enter Try.func21, Try.ntmps21
    go_wp2_with fail
    refine (HV.out _).mono ?_
    rintro e w1 ⟨rfl, b1⟩
    rw [hz] at b1
    have S0 := Lib.hid (R0.out.below b1 (by omega))
    have B1 := Lib.hid (BB.out.trans (b1.mono (by omega)))
    obtain ⟨o0, o1, o2, o3⟩ := S0.out.four
    obtain ⟨f0, f1, f2, f3, _, _, _, _⟩ := S0.out.frees
    clear b1
    go_wp2
    refine bodyPost_ret (results_row_tmp Try.results21 _ _ _ _ _ _ _ rfl ((((S0.out.set_ 0 _).set_ 1 _).set_ 2 _).set_ 3 _) Try.underlying28 rfl infoPm) rfl ⟨_, rfl, PmOwn.zero _ _ _, ?_⟩
    repeat refine bset ?_ (by omega) _
    exact B1.out
  obtain rfl : r = true := hr.2 hs
  obtain ⟨n, rfl⟩ : ∃ n : Nat, l = n := ⟨l.toNat, by have := hs.1; omega⟩
  have hn : n ≤ 48 := by have := hs.1.2; omega
  have hnm : (n : Int) ≤ 48 := by omega
  have hmi : ∀ W : World, (Instr.makeSlice 22 (.int .i64 (n : Int)) (.int .i64 (n : Int))).run Try.prog W = .ok (.slice (some ⟨W.heap.size, 0, none⟩) n n) (W.alloc (.cells (madeCells #[.int .i64 0] (n * 1)) 2)) := fun W => by
    obtain ⟨i0, hi, hz0, hz1, hz2⟩ := info_parts info64
    have := run_make (P := Try.prog) W 22 2 i0 _ Try.underlying22 hi hz0 .i64 .i64 (n : Int) (n : Int) (by omega) (Int.le_refl _) (by rw [hz2]; omega) (by omega)
    rw [hz1] at this
    exact this
  have hmb : ∀ W : World, (Instr.makeSlice 23 (.int .i64 (n : Int)) (.int .i64 (n : Int))).run Try.prog W = .ok (.slice (some ⟨W.heap.size, 0, none⟩) n n) (W.alloc (.cells (madeCells #[.bool false] (n * 1)) 4)) := fun W => by
    obtain ⟨i0, hi, hz0, hz1, hz2⟩ := info_parts infoBo
    have := run_make (P := Try.prog) W 23 4 i0 _ Try.underlying23 hi hz0 .i64 .i64 (n : Int) (n : Int) (by omega) (Int.le_refl _) (by rw [hz2]; omega) (by omega)
    rw [hz1] at this
    exact this
  clear hr hs
  go_enter Try.func21, Try.ntmps21
  go_wp2_with fail
  refine (HV.out _).mono ?_
  rintro e w1 ⟨rfl, b1⟩
  rw [hz] at b1
  have S0 := Lib.hid (R0.out.below b1 (by omega))
  have B1 := Lib.hid (BB.out.trans (b1.mono (by omega)))
  have hz1 := b1.size
  clear b1
  go_upto_region 3 with fail
  go_cut [8] (fun v W => ∃ gi gb gm, v = .pointer (some ⟨gm, 0, none⟩) ∧ Hid (Made3 b p n w1 gi gb gm W))
  case first =>
    refine wp_region_held_drew (S := fun _ => True) (by kernel_rfl) trivial (fun hHeld => ?_)

    refine wpAnyH_take (i := 0) (oi := _) (v := .int .i64 b) rfl (by kernel_rfl) (by kernel_rfl) (by kernel_rfl) (fun _ _ _ h => h) (Or.inl ⟨by rfl, fun W hSw => by go_simp⟩) trivial ?_
    refine wpAnyH_take (i := 1) (oi := _) (v := .int .i64 p) rfl (by kernel_rfl) (by kernel_rfl) (by kernel_rfl) (fun _ _ _ h => h) (Or.inl ⟨by rfl, fun W hSw => by go_simp⟩) trivial ?_
    refine wpAnyH_take (i := 2) (oi := _) (v := .int .i64 (n : Int)) rfl (by kernel_rfl) (by kernel_rfl) (by kernel_rfl) (fun _ _ _ h => h) (Or.inl ⟨by rfl, fun W hSw => by go_simp⟩) trivial ?_
    refine wpAnyH_take (i := 4) (oi := _) (v := .int .i64 (n : Int)) rfl (by kernel_rfl) (by kernel_rfl) (by kernel_rfl) (fun _ _ _ h => h) (Or.inl ⟨by rfl, fun W hSw => by go_simp⟩) trivial ?_
    refine wpAnyH_ready (rs := [3, 5, 7]) (by kernel_rfl) (by simp) ?_
    refine AllReadyH.cons (o := _) rfl (fun K hK => ?_) (AllReadyH.cons (o := _) rfl (fun K hK => ?_) (AllReadyH.cons (o := _) rfl (fun K hK => ?_) AllReadyH.nil))
    · go_simp
      refine hK.out _ _ trivial (fun _ => ?_)
      clear hK K
      refine wpAnyH_ready (rs := [5, 7]) (by kernel_rfl) (by simp) ?_
      refine AllReadyH.cons (o := _) rfl (fun K hK => ?_) (AllReadyH.cons (o := _) rfl (fun K hK => ?_) AllReadyH.nil)
      · go_simp
        refine hK.out _ _ trivial (fun _ => ?_)
        clear hK K
        refine wpAnyH_take (i := 6) (oi := _) (v := .agg #[.int .i64 b, .int .i64 p, .slice (some ⟨w1.heap.size, 0, none⟩) n n, .slice (some ⟨w1.heap.size + 1, 0, none⟩) n n]) rfl (by kernel_rfl) (by kernel_rfl) (by kernel_rfl) (fun _ _ _ h => h) (Or.inl ⟨by rfl, fun W hSw => by go_simp⟩) trivial ?_
        refine wpAnyH_ready (rs := [7]) (by kernel_rfl) (by simp) ?_
        refine AllReadyH.cons (o := _) rfl (fun K hK => ?_) AllReadyH.nil
        · go_simp
          refine hK.out _ _ trivial (fun _ => ?_)
          clear hK K
          refine wpAnyH_ready (rs := [8]) (by kernel_rfl) (by simp) ?_
          refine AllReadyH.cons (o := _) rfl (fun K hK => ?_) AllReadyH.nil
          go_simp
          refine hK.out _ _ trivial (fun _ => ?_)
          refine wpAnyH_done (by kernel_rfl) ?_ _
          go_wp2_with fail
          go_meet
          case rel => exact ⟨w1.heap.size, w1.heap.size + 1, _, rfl, Lib.hid (by have h := made_IBM b p n w1 (by omega); rw [Nat.mul_one] at h; exact h)⟩
      · go_simp
        refine hK.out _ _ trivial (fun _ => ?_)
        clear hK K
        refine wpAnyH_ready (rs := [5]) (by kernel_rfl) (by simp) ?_
        refine AllReadyH.cons (o := _) rfl (fun K hK => ?_) AllReadyH.nil
        · go_simp
          refine hK.out _ _ trivial (fun _ => ?_)
          clear hK K
          refine wpAnyH_take (i := 6) (oi := _) (v := .agg #[.int .i64 b, .int .i64 p, .slice (some ⟨w1.heap.size, 0, none⟩) n n, .slice (some ⟨w1.heap.size + 1 + 1, 0, none⟩) n n]) rfl (by kernel_rfl) (by kernel_rfl) (by kernel_rfl) (fun _ _ _ h => h) (Or.inl ⟨by rfl, fun W hSw => by go_simp⟩) trivial ?_
          refine wpAnyH_ready (rs := [8]) (by kernel_rfl) (by simp) ?_
          refine AllReadyH.cons (o := _) rfl (fun K hK => ?_) AllReadyH.nil
          go_simp
          refine hK.out _ _ trivial (fun _ => ?_)
          refine wpAnyH_done (by kernel_rfl) ?_ _
          go_wp2_with fail
          go_meet
          case rel => exact ⟨w1.heap.size, w1.heap.size + 1 + 1, _, rfl, Lib.hid (by have h := made_IMB b p n w1 (by omega); rw [Nat.mul_one] at h; exact h)⟩
    · go_simp
      refine hK.out _ _ trivial (fun _ => ?_)
      clear hK K
      refine wpAnyH_ready (rs := [3, 7]) (by kernel_rfl) (by simp) ?_
      refine AllReadyH.cons (o := _) rfl (fun K hK => ?_) (AllReadyH.cons (o := _) rfl (fun K hK => ?_) AllReadyH.nil)
      · go_simp
        refine hK.out _ _ trivial (fun _ => ?_)
        clear hK K
        refine wpAnyH_take (i := 6) (oi := _) (v := .agg #[.int .i64 b, .int .i64 p, .slice (some ⟨w1.heap.size + 1, 0, none⟩) n n, .slice (some ⟨w1.heap.size, 0, none⟩) n n]) rfl (by kernel_rfl) (by kernel_rfl) (by kernel_rfl) (fun _ _ _ h => h) (Or.inl ⟨by rfl, fun W hSw => by go_simp⟩) trivial ?_
        refine wpAnyH_ready (rs := [7]) (by kernel_rfl) (by simp) ?_
        refine AllReadyH.cons (o := _) rfl (fun K hK => ?_) AllReadyH.nil
        · go_simp
          refine hK.out _ _ trivial (fun _ => ?_)
          clear hK K
          refine wpAnyH_ready (rs := [8]) (by kernel_rfl) (by simp) ?_
          refine AllReadyH.cons (o := _) rfl (fun K hK => ?_) AllReadyH.nil
          go_simp
          refine hK.out _ _ trivial (fun _ => ?_)
          refine wpAnyH_done (by kernel_rfl) ?_ _
          go_wp2_with fail
          go_meet
          case rel => exact ⟨w1.heap.size + 1, w1.heap.size, _, rfl, Lib.hid (by have h := made_BIM b p n w1 (by omega); rw [Nat.mul_one] at h; exact h)⟩
      · go_simp
        refine hK.out _ _ trivial (fun _ => ?_)
        clear hK K
        refine wpAnyH_ready (rs := [3]) (by kernel_rfl) (by simp) ?_
        refine AllReadyH.cons (o := _) rfl (fun K hK => ?_) AllReadyH.nil
        · go_simp
          refine hK.out _ _ trivial (fun _ => ?_)
          clear hK K
          refine wpAnyH_take (i := 6) (oi := _) (v := .agg #[.int .i64 b, .int .i64 p, .slice (some ⟨w1.heap.size + 1 + 1, 0, none⟩) n n, .slice (some ⟨w1.heap.size, 0, none⟩) n n]) rfl (by kernel_rfl) (by kernel_rfl) (by kernel_rfl) (fun _ _ _ h => h) (Or.inl ⟨by rfl, fun W hSw => by go_simp⟩) trivial ?_
          refine wpAnyH_ready (rs := [8]) (by kernel_rfl) (by simp) ?_
          refine AllReadyH.cons (o := _) rfl (fun K hK => ?_) AllReadyH.nil
          go_simp
          refine hK.out _ _ trivial (fun _ => ?_)
          refine wpAnyH_done (by kernel_rfl) ?_ _
          go_wp2_with fail
          go_meet
          case rel => exact ⟨w1.heap.size + 1 + 1, w1.heap.size, _, rfl, Lib.hid (by have h := made_BMI b p n w1 (by omega); rw [Nat.mul_one] at h; exact h)⟩
    · go_simp
      refine hK.out _ _ trivial (fun _ => ?_)
      clear hK K
      refine wpAnyH_ready (rs := [3, 5]) (by kernel_rfl) (by simp) ?_
      refine AllReadyH.cons (o := _) rfl (fun K hK => ?_) (AllReadyH.cons (o := _) rfl (fun K hK => ?_) AllReadyH.nil)
      · go_simp
        refine hK.out _ _ trivial (fun _ => ?_)
        clear hK K
        refine wpAnyH_ready (rs := [5]) (by kernel_rfl) (by simp) ?_
        refine AllReadyH.cons (o := _) rfl (fun K hK => ?_) AllReadyH.nil
        · go_simp
          refine hK.out _ _ trivial (fun _ => ?_)
          clear hK K
          refine wpAnyH_take (i := 6) (oi := _) (v := .agg #[.int .i64 b, .int .i64 p, .slice (some ⟨w1.heap.size + 1, 0, none⟩) n n, .slice (some ⟨w1.heap.size + 1 + 1, 0, none⟩) n n]) rfl (by kernel_rfl) (by kernel_rfl) (by kernel_rfl) (fun _ _ _ h => h) (Or.inl ⟨by rfl, fun W hSw => by go_simp⟩) trivial ?_
          refine wpAnyH_ready (rs := [8]) (by kernel_rfl) (by simp) ?_
          refine AllReadyH.cons (o := _) rfl (fun K hK => ?_) AllReadyH.nil
          go_simp
          refine hK.out _ _ trivial (fun _ => ?_)
          refine wpAnyH_done (by kernel_rfl) ?_ _
          go_wp2_with fail
          go_meet
          case rel => exact ⟨w1.heap.size + 1, w1.heap.size + 1 + 1, _, rfl, Lib.hid (by have h := made_MIB b p n w1 (by omega); rw [Nat.mul_one] at h; exact h)⟩
      · go_simp
        refine hK.out _ _ trivial (fun _ => ?_)
        clear hK K
        refine wpAnyH_ready (rs := [3]) (by kernel_rfl) (by simp) ?_
        refine AllReadyH.cons (o := _) rfl (fun K hK => ?_) AllReadyH.nil
        · go_simp
          refine hK.out _ _ trivial (fun _ => ?_)
          clear hK K
          refine wpAnyH_take (i := 6) (oi := _) (v := .agg #[.int .i64 b, .int .i64 p, .slice (some ⟨w1.heap.size + 1 + 1, 0, none⟩) n n, .slice (some ⟨w1.heap.size + 1, 0, none⟩) n n]) rfl (by kernel_rfl) (by kernel_rfl) (by kernel_rfl) (fun _ _ _ h => h) (Or.inl ⟨by rfl, fun W hSw => by go_simp⟩) trivial ?_
          refine wpAnyH_ready (rs := [8]) (by kernel_rfl) (by simp) ?_
          refine AllReadyH.cons (o := _) rfl (fun K hK => ?_) AllReadyH.nil
          go_simp
          refine hK.out _ _ trivial (fun _ => ?_)
          refine wpAnyH_done (by kernel_rfl) ?_ _
          go_wp2_with fail
          go_meet
          case rel => exact ⟨w1.heap.size + 1 + 1, w1.heap.size + 1, _, rfl, Lib.hid (by have h := made_MBI b p n w1 (by omega); rw [Nat.mul_one] at h; exact h)⟩
  case rest =>
    obtain ⟨gi, gb, gm, rfl, HM⟩ := hcut
    obtain ⟨c0, c1, c2, c3⟩ := HM.out.m.four
    go_wp2
    clear c0 c1 c2 c3
    have hfar := HM.out.far
    go_loopw [26] (fun i wr => ∃ k : Nat, k ≤ n ∧ i = .int .i64 (k : Int) ∧ Hid (IntsOwn wr w1.heap.size (.slice (some ⟨gi, 0, none⟩) n n) (List.replicate k (-1) ++ List.replicate (n - k) 0)) ∧ Hid (BoolsOwn wr w1.heap.size (.slice (some ⟨gb, 0, none⟩) n n) (List.replicate n false)) ∧ Hid (Rw wr gm 28 #[.int .i64 b, .int .i64 p, .slice (some ⟨gi, 0, none⟩) n n, .slice (some ⟨gb, 0, none⟩) n n]) ∧ Hid (Below w1.heap.size w1 wr)) (fun i _ => n - (intOf i).toNat)
    case atStart => exact ⟨0, by omega, rfl, Lib.hid (by simpa using HM.out.i), Lib.hid HM.out.t, Lib.hid HM.out.m, Lib.hid HM.out.bel⟩
    case round =>
      obtain ⟨k, hk, rfl, HI, HT, HRM, HB⟩ := hrel
      obtain ⟨c0, c1, c2, c3⟩ := HRM.out.four
      have hlen : (List.replicate k (-1 : Int) ++ List.replicate (n - k) 0).length = n := by simp; omega
      have hgi := (HI.out.blockOf (k := gi) rfl).1
      by_cases hlt : k < n
      · have hki : (k : Int) < (n : Int) := by omega
        have d0 := HI.out.cell (j := k) hlen hlt
        have f0 := HI.out.free hlen k
        have hs := HI.out.stored hlen k (-1)
        have hset : (List.replicate k (-1 : Int) ++ List.replicate (n - k) (0 : Int)).set k (-1) = List.replicate (k + 1) (-1) ++ List.replicate (n - (k + 1)) 0 := by
          rw [List.set_append_right _ _ (by simp), List.length_replicate, Nat.sub_self, show n - k = (n - (k + 1)) + 1 by omega, List.replicate_succ, List.set_cons_zero, List.replicate_succ', List.append_assoc]; rfl
        rw [hset] at hs
        clear hset
        have HS := Lib.hid hs
        have HT2 := Lib.hid (HT.out.sames (w' := wr.setCell ⟨gi, k, none⟩ (.int .i64 (-1))) fun q e => Below.heap_setCell wr ⟨gi, k, none⟩ _ q (by have e2 : gb = q := Option.some.inj e; have := hfar.2.2.2; show q ≠ gi; omega))
        have HR2 := Lib.hid (HRM.out.farA (g' := gi) (k := k) (fun e => hfar.2.1 e.symm) (.int .i64 (-1)))
        have HB2 := Lib.hid (bset HB.out (g := gi) (k := k) hgi (.int .i64 (-1)))
        generalize (List.replicate k (-1 : Int) ++ List.replicate (n - k) 0).getD k 0 = old at *
        clear hs hlen HI HT HRM HB
        go_wp2
        go_roundw
        case rel => exact ⟨k + 1, by omega, by go_num, HS, HT2, HR2, HB2⟩
        case measure => simp [intOf]; omega
      · obtain rfl : k = n := by omega
        have SR := Lib.hid (S0.out.below HB.out (by omega))
        obtain ⟨o0, o1, o2, o3⟩ := SR.out.four
        obtain ⟨f0, f1, f2, f3, _, _, _, _⟩ := SR.out.frees
        have HI2 := Lib.hid (show IntsOwn wr w1.heap.size (.slice (some ⟨gi, 0, none⟩) k k) (List.replicate k (-1)) from by simpa using HI.out)
        clear HI hlen
        go_wp2
        refine bodyPost_ret (results_row_tmp Try.results21 _ _ _ _ _ _ _ rfl ((((SR.out.set_ 0 _).set_ 1 _).set_ 2 _).set_ 3 _) Try.underlying28 rfl infoPm) rfl ⟨_, rfl, ?_, ?_⟩
        · have keep : ∀ q, w1.heap.size ≤ q → ((((wr.setCell ⟨w.heap.size, 0, none⟩ (.int .i64 b)).setCell ⟨w.heap.size, 1, none⟩ (.int .i64 p)).setCell ⟨w.heap.size, 2, none⟩ (.slice (some ⟨gi, 0, none⟩) k k)).setCell ⟨w.heap.size, 3, none⟩ (.slice (some ⟨gb, 0, none⟩) k k)).heap[q]? = wr.heap[q]? := by
            intro q hq
            repeat rw [Below.heap_setCell _ ⟨_, _, none⟩ _ q (by simp; omega)]
          refine ⟨_, _, rfl, ?_, ?_, ?_⟩
          · have := HI2.out.sames fun q e => keep q (HI2.out.blockOf e).1
            exact ⟨by simpa [newPm] using this.low (by omega), fun q e => by have := (HI2.out.blockOf e).2; simpa using this⟩
          · have := HT.out.sames fun q e => keep q (HT.out.blockOf e).1
            exact ⟨by simpa [newPm] using this.low (by omega), fun q e => by have := (HT.out.blockOf e).2; simpa using this⟩
          · exact .inr (fun e => hfar.2.2.2 (Option.some.inj e))
        · repeat refine bset ?_ (by omega) _
          exact B1.out.trans (HB.out.mono (by omega))
end Go.Proofs.Ytbehoeabnomlaaa
