/- The proof's own lemmas, part 11: FtM TbO PmN. -/
import Derived.Test.YtgamoiagpglcmaaProg
import Derived.Test.YtgamoiagpglcmaaMg9
import Derived.StillTailTactics
import Derived.Test.YtgamoiagpglcmaaMg3
/- Lists of faults in memory, and what the laws' helpers for them do. -/
namespace Go.Proofs.Ytgamoiagpglcmaa
open Go.RowKit
set_option linter.unusedVariables false
/-- The value v is a slice of n faults, in the blocks below hi, whose fields are the integers l. -/
def QI (w : World) (hi : Nat) (v : Value) (n : Nat) (l : List Int) : Prop :=
  ∃ A cap, v = .slice A n cap ∧ n ≤ cap ∧ cap ≤ 9223372036854775807 ∧ l.length = n * 4 ∧ (0 < n → ∃ b off, A = some ⟨b, off, none⟩ ∧ b < hi ∧ ∀ i, i < n * 4 → w.cell? ⟨b, off + i, none⟩ = some (.int .i64 (l.getD i 0)))
section
variable {w w' : World} {lo hi lo' hi' B n : Nat} {v : Value} {l : List Int}
theorem QI.below (h : QI w hi v n l) (hb : Below B w w') (hB : hi ≤ B) : QI w' hi v n l := by
  obtain ⟨A, cap, rfl, h1, h2, hl, hc⟩ := h
  refine ⟨A, cap, rfl, h1, h2, hl, fun h0 => ?_⟩
  obtain ⟨b, off, rfl, hbl, hx⟩ := hc h0
  exact ⟨b, off, rfl, hbl, fun i hi => (hb.cell (p := ⟨b, off + i, none⟩) (Nat.lt_of_lt_of_le hbl hB)).trans (hx i hi)⟩
theorem QI.wide (h : QI w hi v n l) (hh : hi ≤ hi') : QI w hi' v n l := by
  obtain ⟨A, cap, rfl, h1, h2, hl, hc⟩ := h
  refine ⟨A, cap, rfl, h1, h2, hl, fun h0 => ?_⟩
  obtain ⟨b, off, rfl, hbl, hx⟩ := hc h0
  exact ⟨b, off, rfl, by omega, hx⟩
theorem QI.len (h : QI w hi v n l) : l.length = n * 4 ∧ n ≤ 9223372036854775807 := by obtain ⟨A, cap, rfl, h1, h2, hl, hc⟩ := h; exact ⟨hl, by omega⟩
end
theorem take_set4 (L : List Int) (n k : Nat) (hL : L.length = n * 4) (h : k < n) :
    (((((L.take (k * 4) ++ List.replicate (n * 4 - k * 4) 0).set (k * 4) (L.getD (k * 4) 0)).set (k * 4 + 1) (L.getD (k * 4 + 1) 0)).set (k * 4 + 2) (L.getD (k * 4 + 2) 0)).set (k * 4 + 3) (L.getD (k * 4 + 3) 0)) = L.take ((k + 1) * 4) ++ List.replicate (n * 4 - (k + 1) * 4) 0 := by
  have s := fun j (hj : j < L.length) => take_setI L j hj
  rw [hL] at s
  have e0 := s (k * 4) (by omega)
  have e1 := s (k * 4 + 1) (by omega)
  have e2 := s (k * 4 + 2) (by omega)
  have e3 := s (k * 4 + 3) (by omega)
  rw [e0, e1, e2, e3]
  rw [show (k + 1) * 4 = k * 4 + 3 + 1 by omega]
theorem mkL_set4 (m : Int) (l : List Int) (k n : Nat) (hl : l.length = n * 4) (h : k < n) :
    (((((mkL m (k * 4) ++ l.drop (k * 4)).set (k * 4) (m + (k : Int) * 4)).set (k * 4 + 1) (m + (k : Int) * 4 + 1)).set (k * 4 + 2) (m + (k : Int) * 4 + 1 + 1)).set (k * 4 + 3) (m + (k : Int) * 4 + 1 + 1 + 1)) = mkL m ((k + 1) * 4) ++ l.drop ((k + 1) * 4) := by
  rw [show m + (k : Int) * 4 + 1 + 1 + 1 = m + ((k * 4 + 3 : Nat) : Int) by omega, show m + (k : Int) * 4 + 1 + 1 = m + ((k * 4 + 2 : Nat) : Int) by omega, show m + (k : Int) * 4 + 1 = m + ((k * 4 + 1 : Nat) : Int) by omega, show m + (k : Int) * 4 = m + ((k * 4 : Nat) : Int) by omega]
  rw [mkL_set m l (k * 4) (by omega), mkL_set m l (k * 4 + 1) (by omega), mkL_set m l (k * 4 + 2) (by omega), mkL_set m l (k * 4 + 3) (by omega)]
  rw [show (k + 1) * 4 = k * 4 + 3 + 1 by omega]
end Go.Proofs.Ytgamoiagpglcmaa
/- Tables, faults and lists of faults that come in as arguments of a law, opened: what is known of them. -/
namespace Go.Proofs.Ytgamoiagpglcmaa
open Go.RowKit Go.ChangeShapes Go.WideShapes
set_option linter.unusedVariables false
instance : Inhabited Ft := ⟨Ft.zero⟩
def WfL (l : List Int) : Prop := ∀ i, i < l.length → WfI (l.getD i 0)
theorem WfI.j {n : Int} (h : WfI n) : -9223372036854775808 ≤ n ∧ n ≤ 9223372036854775807 := by
  simp [WfI, Lit.wf] at h
  have h1 : IntKind.i64.min = -9223372036854775808 := by decide
  have h2 : IntKind.i64.max = 9223372036854775807 := by decide
  omega
def TbW (T : Tb) : Prop := (WfI T.d ∧ WfI T.b ∧ WfI T.p ∧ WfI T.sp) ∧ WfL T.bad ∧ WfL T.rm
section
variable {H : Type} {enc : TypeId × Value → H} {W : World} {sp : Nat → Bool} {held : Bool}
theorem open_ints1 {fuel : Nat} {v : Value} {x : DataW H × List MemPlace} (h : DataW.trod enc Try.prog W 0 sp held fuel 22 [v] = some x) : ∃ L, NI W W.heap.size v L ∧ WfL L := by
  rcases open_ints Try.underlying22 Try.underlying2 (by kernel_rfl) h with ⟨hcs, _⟩ | ⟨a, l, c, zs, hcs, _, hl, hm, hz, _, hcell, hwz⟩
  · injection hcs with hcs
    subst hcs
    exact ⟨[], NI.nil _ _, fun i hi => by simp at hi⟩
  · injection hcs with hcs
    subst hcs
    have hzl : l ≤ zs.length := by rw [hz]; split <;> omega
    have e : ∀ i, i < l → (zs.take l).getD i 0 = zs.getD i 0 := fun i hi => by
      rw [List.getD_eq_getElem?_getD, List.getD_eq_getElem?_getD, List.getElem?_take, if_pos hi]
    refine ⟨zs.take l, ⟨some a, l, c, rfl, hl, by unfold maxLen at hm; omega, by rw [List.length_take]; omega, fun h0 => ?_⟩, fun i hi => ?_⟩
    · obtain ⟨b, off, spot⟩ := a
      have h00 := hcell 0 (by omega)
      have hspot : spot = none := by simpa [Addr.add] using World.cell?_spot h00
      subst hspot
      refine ⟨b, off, rfl, World.block_lt_of_cell? W ⟨b, off, none⟩ (by simpa [Addr.add] using h00), fun i hi => ?_⟩
      have := hcell i (by omega)
      have e2 : (⟨b, off, none⟩ : Addr).add i = ⟨b, off + i, none⟩ := by unfold Addr.add; split <;> simp_all
      rw [e2] at this
      rw [this, e i hi]
    · rw [List.length_take] at hi
      rw [e i (by omega), List.getD_eq_getElem?_getD, List.getElem?_eq_getElem (show i < zs.length by omega)]
      exact hwz _ (List.getElem_mem (show i < zs.length by omega))
theorem cellsL64 : Try.prog.cellsOf 22 = 1 := by kernel_rfl
theorem cellsLG' : Try.prog.cellsOf 70 = 3 := by kernel_rfl
theorem cellsI' : Try.prog.cellsOf 2 = 1 := by kernel_rfl
theorem list6 {α : Type} {l : List α} (h : l.length = 6) : ∃ a b c d e f, l = [a, b, c, d, e, f] := by
  match l, h with
  | [a, b, c, d, e, f], _ => exact ⟨a, b, c, d, e, f, rfl⟩
theorem list4' {α : Type} {l : List α} (h : l.length = 4) : ∃ a b c d, l = [a, b, c, d] := by
  match l, h with
  | [a, b, c, d], _ => exact ⟨a, b, c, d, rfl⟩
end
end Go.Proofs.Ytgamoiagpglcmaa
/- A map of logical pages as plain data. No program in it. -/
namespace Go.Proofs.Ytgamoiagpglcmaa
open Go.RowKit
set_option linter.unusedVariables false
structure Pm where
  b : Int
  p : Int
  mp : List Int
  tr : List Bool
def Pm.zero : Pm := ⟨0, 0, [], []⟩
def Pm.at (M : Pm) (i : Nat) : Int := M.mp.getD i 0
def Pm.trim (M : Pm) (i : Nat) : Bool := M.tr.getD i false
def SizeOk (l b p : Int) : Prop := (1 ≤ l ∧ l ≤ 48) ∧ (1 ≤ b ∧ b ≤ 640) ∧ (1 ≤ p ∧ p ≤ 640) ∧ b * p ≤ 640
/-- Entry i: no record (then it is not trimmed), or a physical page that no earlier entry has. H: how many physical pages there are. -/
def EntOk (H : Int) (mp : List Int) (tr : List Bool) (i : Nat) : Prop :=
  (mp.getD i 0 = -1 ∧ tr.getD i false = false) ∨ ((0 ≤ mp.getD i 0 ∧ mp.getD i 0 < H) ∧ ¬ mp.getD i 0 ∈ mp.take i)
def PmOk (M : Pm) : Prop := SizeOk M.mp.length M.b M.p ∧ M.tr.length = M.mp.length ∧ ∀ i, i < M.mp.length → EntOk (M.b * M.p) M.mp M.tr i
/-- Entry i's record is data. -/
def Pm.has (M : Pm) (i : Nat) : Prop := M.at i ≠ -1 ∧ M.trim i = false
theorem SizeOk.le {l b p : Int} (h : SizeOk l b p) : 1 ≤ b * p := by
  obtain ⟨_, ⟨h1, _⟩, ⟨h3, _⟩, _⟩ := h
  have := Int.mul_le_mul h1 h3 (by omega) (by omega)
  omega
theorem mulBound {b p : Int} (h1 : 1 ≤ b) (h2 : b ≤ 640) (h3 : 1 ≤ p) (h4 : p ≤ 640) : 1 ≤ b * p ∧ b * p ≤ 409600 := by
  constructor
  · have := Int.mul_le_mul h1 h3 (by omega) (by omega); omega
  · have := Int.mul_le_mul h2 h4 (by omega) (by omega); omega
theorem mem_take_iff {l : List Int} {i : Nat} (hi : i ≤ l.length) {x : Int} : x ∈ l.take i ↔ ∃ k, k < i ∧ l.getD k 0 = x := by
  rw [mem_iff_getD]
  have e : ∀ k, k < i → (l.take i).getD k 0 = l.getD k 0 := fun k hk => by
    rw [List.getD_eq_getElem?_getD, List.getD_eq_getElem?_getD, List.getElem?_take, if_pos hk]
  have hl : (l.take i).length = i := by rw [List.length_take]; omega
  rw [hl]
  constructor
  · rintro ⟨k, h1, h2⟩; exact ⟨k, h1, by rw [← e k h1]; exact h2⟩
  · rintro ⟨k, h1, h2⟩; exact ⟨k, h1, by rw [e k h1]; exact h2⟩
end Go.Proofs.Ytgamoiagpglcmaa
