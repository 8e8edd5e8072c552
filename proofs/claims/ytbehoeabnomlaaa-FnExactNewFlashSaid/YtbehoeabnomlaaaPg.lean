/- Pages without error correction, in the model and in the program: erased, torn, destroyed, a bit inverted: the contracts. -/
import Derived.Test.YtbehoeabnomlaaaProg
import Derived.Test.YtbehoeabnomlaaaFlN
import Derived.Test.YtbehoeabnomlaaaGeo
import Derived.Test.YtbehoeabnomlaaaBytes
import Derived.Deep.DeepMust
import Derived.Deep.RegionHeld3
namespace Go.Proofs.Ytbehoeabnomlaaa
open Go.RowKit
set_option linter.unusedVariables false

/-- n bytes c, as a list of numbers. -/
theorem fillB_nums (c n : Nat) : strOfNums (List.replicate n (c : Int)) = fillB c n := by
  unfold strOfNums fillB
  rw [List.map_replicate]
  rfl
def FillPost (c n : Nat) (w : World) (e : Ending) (w' : World) : Prop := e = .returned (.string (fillB c n)) ∧ Below w.heap.size w w'
theorem fillB_extract (c n k : Nat) : (fillB c n).extract k n = fillB c (n - k) := by
  apply ByteArray.ext
  unfold fillB
  simp
/-- What TornPage answers. -/
inductive TornEnds (raw : ByteArray) (k : Int) : ByteArray → Int → Prop
  | invalid (h : raw.size ≠ 91) : TornEnds raw k ⟨#[]⟩ 1
  | range (h : raw.size = 91) (h1 : ¬ (0 ≤ k ∧ k ≤ 91)) : TornEnds raw k ⟨#[]⟩ 2
  | done (h : raw.size = 91) (n : Nat) (hn : k = n) (h1 : n ≤ 91) : TornEnds raw k (tornB raw n) 0
theorem tornEnds (raw : ByteArray) (k : Int) : ∃ s c, TornEnds raw k s c := by
  by_cases h : raw.size = 91
  case neg => exact ⟨_, _, .invalid h⟩
  by_cases h1 : 0 ≤ k ∧ k ≤ 91
  case neg => exact ⟨_, _, .range h h1⟩
  exact ⟨_, _, .done h k.toNat (by omega) (by omega)⟩
def PairPost (s : ByteArray) (c : Int) (w : World) (e : Ending) (w' : World) : Prop := e = .returned (.tuple #[.string s, .int .i64 c]) ∧ Below w.heap.size w w'
theorem validKeep_any (k : Int) (b : Bool) (w : World) (hb : b = true ↔ (0 ≤ k ∧ k ≤ 91)) : Calls Try.prog 82 #[.int .i64 k] w fun e w' => e = .returned (.bool b) ∧ w = w' := by
  by_cases h1 : 0 ≤ k
  · have d1 : decide (0 ≤ k) = true := by simp; omega
    have d2 : decide (k ≥ 0) = true := by simp; omega
    go_enter Try.func82, Try.ntmps82
    go_wp2
    go_ret
    exact ⟨ret_bool (by rw [Bool.eq_iff_iff, hb]; simp [h1]), rfl⟩
  · have d1 : decide (0 ≤ k) = false := by simp; omega
    have d2 : decide (k ≥ 0) = false := by simp; omega
    go_enter Try.func82, Try.ntmps82
    go_wp2
    go_ret
    exact ⟨ret_bool (by rw [Bool.eq_iff_iff, hb]; simp; omega), rfl⟩
end Go.Proofs.Ytbehoeabnomlaaa
