/- Lists of faults in memory, and what the laws' helpers for them do. -/
import Derived.Test.YtgamoiagpglcmaaProg
import Derived.Test.YtgamoiagpglcmaaFtN
import Derived.Test.YtgamoiagpglcmaaTbM
import Derived.StillTailTactics
namespace Go.Proofs.Ytgamoiagpglcmaa
open Go.RowKit
set_option linter.unusedVariables false
/-- The value v is a slice of n faults, in the blocks below hi, whose fields are the integers l. -/
def QI (w : World) (hi : Nat) (v : Value) (n : Nat) (l : List Int) : Prop :=
  ∃ A cap, v = .slice A n cap ∧ n ≤ cap ∧ cap ≤ 9223372036854775807 ∧ l.length = n * 4 ∧ (0 < n → ∃ b off, A = some ⟨b, off, none⟩ ∧ b < hi ∧ ∀ i, i < n * 4 → w.cell? ⟨b, off + i, none⟩ = some (.int .i64 (l.getD i 0)))
section
variable {w w' : World} {lo hi lo' hi' B n : Nat} {v : Value} {l : List Int}
theorem QI.below (h : QI w hi v n l) (hb : Below B w w') (hB : hi ≤ B) : QI w' hi v n l := by
  obtain ⟨A, cap, rfl, h1, h2, hl, hc⟩ := h
  refine ⟨A, cap, rfl, h1, h2, hl, fun h0 => ?_⟩
  obtain ⟨b, off, rfl, hbl, hx⟩ := hc h0
  exact ⟨b, off, rfl, hbl, fun i hi => (hb.cell (p := ⟨b, off + i, none⟩) (Nat.lt_of_lt_of_le hbl hB)).trans (hx i hi)⟩
theorem QI.wide (h : QI w hi v n l) (hh : hi ≤ hi') : QI w hi' v n l := by
  obtain ⟨A, cap, rfl, h1, h2, hl, hc⟩ := h
  refine ⟨A, cap, rfl, h1, h2, hl, fun h0 => ?_⟩
  obtain ⟨b, off, rfl, hbl, hx⟩ := hc h0
  exact ⟨b, off, rfl, by omega, hx⟩
theorem QI.len (h : QI w hi v n l) : l.length = n * 4 ∧ n ≤ 9223372036854775807 := by obtain ⟨A, cap, rfl, h1, h2, hl, hc⟩ := h; exact ⟨hl, by omega⟩
end
theorem take_set4 (L : List Int) (n k : Nat) (hL : L.length = n * 4) (h : k < n) :
    (((((L.take (k * 4) ++ List.replicate (n * 4 - k * 4) 0).set (k * 4) (L.getD (k * 4) 0)).set (k * 4 + 1) (L.getD (k * 4 + 1) 0)).set (k * 4 + 2) (L.getD (k * 4 + 2) 0)).set (k * 4 + 3) (L.getD (k * 4 + 3) 0)) = L.take ((k + 1) * 4) ++ List.replicate (n * 4 - (k + 1) * 4) 0 := by
  have s := fun j (hj : j < L.length) => take_setI L j hj
  rw [hL] at s
  have e0 := s (k * 4) (by omega)
  have e1 := s (k * 4 + 1) (by omega)
  have e2 := s (k * 4 + 2) (by omega)
  have e3 := s (k * 4 + 3) (by omega)
  rw [e0, e1, e2, e3]
  rw [show (k + 1) * 4 = k * 4 + 3 + 1 by omega]
theorem mkL_set4 (m : Int) (l : List Int) (k n : Nat) (hl : l.length = n * 4) (h : k < n) :
    (((((mkL m (k * 4) ++ l.drop (k * 4)).set (k * 4) (m + (k : Int) * 4)).set (k * 4 + 1) (m + (k : Int) * 4 + 1)).set (k * 4 + 2) (m + (k : Int) * 4 + 1 + 1)).set (k * 4 + 3) (m + (k : Int) * 4 + 1 + 1 + 1)) = mkL m ((k + 1) * 4) ++ l.drop ((k + 1) * 4) := by
  rw [show m + (k : Int) * 4 + 1 + 1 + 1 = m + ((k * 4 + 3 : Nat) : Int) by omega, show m + (k : Int) * 4 + 1 + 1 = m + ((k * 4 + 2 : Nat) : Int) by omega, show m + (k : Int) * 4 + 1 = m + ((k * 4 + 1 : Nat) : Int) by omega, show m + (k : Int) * 4 = m + ((k * 4 : Nat) : Int) by omega]
  rw [mkL_set m l (k * 4) (by omega), mkL_set m l (k * 4 + 1) (by omega), mkL_set m l (k * 4 + 2) (by omega), mkL_set m l (k * 4 + 3) (by omega)]
  rw [show (k + 1) * 4 = k * 4 + 3 + 1 by omega]
end Go.Proofs.Ytgamoiagpglcmaa
