/- Which tables of bad blocks are valid, in the program: the small contracts. -/
import Derived.Test.YtgamoiagpglcmaaProg
import Derived.Test.YtgamoiagpglcmaaEqI
import Derived.Test.YtgamoiagpglcmaaTbA
import Derived.Test.YtgamoiagpglcmaaFlO
import Derived.Test.YtgamoiagpglcmaaShelf
namespace Go.Proofs.Ytgamoiagpglcmaa
open Go.RowKit
set_option linter.unusedVariables false
set_option linter.unusedSimpArgs false
def prv (l : List Int) : Nat → Int
  | 0 => -1
  | k + 1 => l.getD k 0
theorem prv_ok {l : List Int} {H : Int} {k : Nat} (h : prv l k < l.getD k 0 ∧ l.getD k 0 < H) (ha : ∀ j, j < k → (0 ≤ l.getD j 0 ∧ l.getD j 0 < H) ∧ (0 < j → l.getD (j - 1) 0 < l.getD j 0)) :
    (0 ≤ l.getD k 0 ∧ l.getD k 0 < H) ∧ (0 < k → l.getD (k - 1) 0 < l.getD k 0) := by
  cases k with
  | zero => rw [show prv l 0 = -1 from rfl] at h; exact ⟨⟨by omega, h.2⟩, fun e => by omega⟩
  | succ k =>
    rw [show prv l (k + 1) = l.getD k 0 from rfl] at h
    have := (ha k (by omega)).1.1
    exact ⟨⟨by omega, h.2⟩, fun _ => h.1⟩
theorem prv_not {l : List Int} {H : Int} {k : Nat} (h : ¬ (prv l k < l.getD k 0 ∧ l.getD k 0 < H)) : ¬ ((0 ≤ l.getD k 0 ∧ l.getD k 0 < H) ∧ (0 < k → l.getD (k - 1) 0 < l.getD k 0)) := by
  intro e
  apply h
  cases k with
  | zero => rw [show prv l 0 = -1 from rfl]; exact ⟨by omega, e.1.2⟩
  | succ k => rw [show prv l (k + 1) = l.getD k 0 from rfl]; exact ⟨e.2 (by omega), e.1.2⟩
set_option maxHeartbeats 1000000 in
theorem increasing_any (v : Value) (l : List Int) (H : Int) (r : Bool) (w : World) (hi : Nat) (h : NI w hi v l) (hr : r = true ↔ Rises l H) (hl : l.length ≤ 1048576) :
    Calls Try.prog 132 #[v, .int .i64 H] w fun e w' => e = .returned (.bool r) ∧ w = w' := by
  obtain ⟨A, n, cap, rfl, hn1, hn2, hn, hA⟩ := h
  have hnm : (n : Int) ≤ 1048576 := by omega
  have HR := Lib.hid (show r = true ↔ ∀ i, i < n → (0 ≤ l.getD i 0 ∧ l.getD i 0 < H) ∧ (0 < i → l.getD (i - 1) 0 < l.getD i 0) by rw [hr, Rises, hn])
  have HA := Lib.hid hA
  clear hA hr hn hn1 hn2 hl
  go_enter Try.func132, Try.ntmps132
  go_wp2
  go_loop [5, 10] (fun pv i => ∃ k : Nat, k ≤ n ∧ pv = .int .i64 (prv l k) ∧ i = .int .i64 k ∧ Hid (∀ i, i < k → (0 ≤ l.getD i 0 ∧ l.getD i 0 < H) ∧ (0 < i → l.getD (i - 1) 0 < l.getD i 0))) (fun _ i => n - (intOf i).toNat)
  case atStart => exact ⟨0, by omega, rfl, rfl, Lib.hid fun j hj => by omega⟩
  case round =>
    obtain ⟨k, hk, rfl, rfl, HB⟩ := hrel
    by_cases hlt : k < n
    · have hki : (k : Int) < (n : Int) := by omega
      obtain ⟨b, off, rfl, hbl, hx⟩ := HA.out (by omega)
      have hc := hx k hlt
      clear hx
      have HY := Lib.hid (show prv l k < l.getD k 0 ∧ l.getD k 0 < H → _ from fun e => prv_ok e HB.out)
      have HN := Lib.hid (show ¬ (prv l k < l.getD k 0 ∧ l.getD k 0 < H) → r = false from fun e => not_true HR.out (fun f => prv_not e (f k hlt)))
      have HE := Lib.hid (show prv l (k + 1) = l.getD k 0 from rfl)
      generalize prv l k = z at *
      generalize hy : l.getD k 0 = y at *
      have HQ := Lib.hid hy
      clear hy
      by_cases h1 : y ≤ z
      · have d1 : decide (y ≤ z) = true := by simpa using h1
        have HF := Lib.hid (HN.out (fun e => by omega))
        clear HN HY HR HA h1
        go_wp2
        go_ret
        exact ⟨ret_bool HF.out.symm, rfl⟩
      have d1 : decide (y ≤ z) = false := by simpa using h1
      by_cases h2 : H ≤ y
      · have d2 : decide (H ≤ y) = true := by simpa using h2
        have d3 : decide (y ≥ H) = true := by simpa using h2
        have HF := Lib.hid (HN.out (fun e => by omega))
        clear HN HY HR HA h1 h2
        go_wp2
        go_ret
        exact ⟨ret_bool HF.out.symm, rfl⟩
      have d2 : decide (H ≤ y) = false := by simpa using h2
      have d3 : decide (y ≥ H) = false := by simpa using h2
      have HK := Lib.hid (HY.out ⟨by omega, by omega⟩)
      clear HN HY HR HA h1 h2
      go_wp2
      go_round
      case rel => exact ⟨k + 1, by omega, by rw [HE.out], by go_num, Lib.hid fun j hj => by
        by_cases e : j = k
        · subst e; rw [HQ.out]; exact HK.out
        · exact HB.out j (by omega)⟩
      case measure => simp [intOf]; omega
    · obtain rfl : k = n := by omega
      obtain rfl : r = true := HR.out.2 HB.out
      clear HR HA
      go_wp2
      go_ret
      exact ⟨rfl, rfl⟩
end Go.Proofs.Ytgamoiagpglcmaa
