/- Random faults as plain data: the generator's states, the list. No program in it. -/
import Derived.Test.YtikdmkfngdihhabFtN
namespace Go.Proofs.Ytikdmkfngdihhab
open Go.RowKit
set_option linter.unusedVariables false
def rfNext (s : Int) : Int := (48271 * s + 11) % 999999937
def rfS (s : Int) : Nat → Int
  | 0 => s
  | n + 1 => rfNext (rfS s n)
def rfSeed (x : Int) : Int := (x.tmod 999999937 + 999999937) % 999999937
theorem tmod_bd (x : Int) : -999999936 ≤ x.tmod 999999937 ∧ x.tmod 999999937 ≤ 999999936 := by
  rcases Int.le_total 0 x with h | h
  · rw [Int.tmod_eq_emod_of_nonneg h]; omega
  · have e : x = -(-x) := by omega
    rw [e, Int.neg_tmod, Int.tmod_eq_emod_of_nonneg (by omega)]; omega
def RfOk (s : Int) : Prop := 0 ≤ s ∧ s ≤ 999999936
theorem rfNext_ok (s : Int) : RfOk (rfNext s) := by unfold RfOk rfNext; omega
theorem rfS_ok {s : Int} (h : RfOk s) : ∀ n, RfOk (rfS s n)
  | 0 => h
  | n + 1 => rfNext_ok _
theorem rfSeed_ok (x : Int) : RfOk (rfSeed x) := by unfold RfOk rfSeed; omega
/-- The first n faults of the state s: B blocks, p pages. -/
def rfL (B p s : Int) : Nat → List Int
  | 0 => []
  | n + 1 => rfL B p s n ++ [1, rfS s (n * 3 + 1) % B, rfS s (n * 3 + 2) % p, rfS s (n * 3 + 3) % 728]
theorem rfL_length (B p s : Int) : ∀ n, (rfL B p s n).length = n * 4
  | 0 => rfl
  | n + 1 => by simp only [rfL, List.length_append, rfL_length B p s n, List.length_cons, List.length_nil]; omega
theorem rfL_take (B p s : Int) {n m : Nat} (h : n ≤ m) : (rfL B p s m).take (n * 4) = rfL B p s n := by
  induction m with
  | zero =>
    obtain rfl : n = 0 := by omega
    simp [rfL]
  | succ m ih =>
    by_cases e : n = m + 1
    · subst e; rw [List.take_of_length_le (by rw [rfL_length]; omega)]
    · show (rfL B p s m ++ _).take (n * 4) = _
      rw [List.take_append_of_le_length (by rw [rfL_length]; omega)]
      exact ih (by omega)
/-- What RandomFaults answers: how many faults, their numbers, the code. -/
inductive RfEnds (d b p seed count : Int) : Nat → List Int → Int → Prop
  | invalid (h : ¬ GeoOk d b p) : RfEnds d b p seed count 0 [] 1
  | range (h : GeoOk d b p) (hc : ¬ (0 ≤ count ∧ count ≤ 40)) : RfEnds d b p seed count 0 [] 2
  | done (h : GeoOk d b p) (n : Nat) (hn : count = (n : Int)) (h40 : n ≤ 40) : RfEnds d b p seed count n (rfL (d * b) p (rfSeed seed) n) 0
theorem rfEnds (d b p seed count : Int) : ∃ n l c, RfEnds d b p seed count n l c := by
  by_cases h : GeoOk d b p
  · by_cases hc : 0 ≤ count ∧ count ≤ 40
    · exact ⟨_, _, _, .done h count.toNat (by omega) (by omega)⟩
    · exact ⟨_, _, _, .range h hc⟩
  · exact ⟨_, _, _, .invalid h⟩
theorem RfEnds.len {d b p seed count c : Int} {n : Nat} {l : List Int} (h : RfEnds d b p seed count n l c) : n ≤ 40 ∧ l.length = n * 4 := by
  rcases h with _ | _ | ⟨_, n, _, h40⟩
  · exact ⟨by omega, rfl⟩
  · exact ⟨by omega, rfl⟩
  · exact ⟨h40, rfL_length _ _ _ _⟩
end Go.Proofs.Ytikdmkfngdihhab
