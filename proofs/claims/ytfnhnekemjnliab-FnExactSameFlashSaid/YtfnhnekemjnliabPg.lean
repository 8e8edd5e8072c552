/- Pages without error correction, in the model and in the program: erased, torn, destroyed, a bit inverted: the contracts. -/
import Derived.Test.YtfnhnekemjnliabProg
import Derived.Test.YtfnhnekemjnliabFlN
import Derived.Test.YtfnhnekemjnliabBytes
import Derived.Deep.DeepMust
import Derived.Deep.RegionHeld3
namespace Go.Proofs.Ytfnhnekemjnliab
open Go.RowKit
set_option linter.unusedVariables false

theorem inr_any (n l h : Int) (w : World) : Calls Try.prog 31 #[.int .i64 n, .int .i64 l, .int .i64 h] w fun e w' => e = .returned (.bool (decide (l ≤ n) && decide (n ≤ h))) ∧ w = w' := by
  by_cases h1 : l ≤ n
  · have d1 : decide (l ≤ n) = true := by simp; omega
    have d2 : decide (n ≥ l) = true := by simp; omega
    go_enter Try.func31, Try.ntmps31
    go_wp2
    go_ret
    exact ⟨ret_bool (by simp [h1]), rfl⟩
  · have d1 : decide (l ≤ n) = false := by simp; omega
    have d2 : decide (n ≥ l) = false := by simp; omega
    go_enter Try.func31, Try.ntmps31
    go_wp2
    go_ret
    exact ⟨ret_bool (by simp), rfl⟩
theorem inr_yes (n l h : Int) (w : World) (h1 : l ≤ n) (h2 : n ≤ h) : Calls Try.prog 31 #[.int .i64 n, .int .i64 l, .int .i64 h] w fun e w' => e = .returned (.bool true) ∧ w = w' := by
  have := inr_any n l h w
  rwa [show (decide (l ≤ n) && decide (n ≤ h)) = true by simp [h1, h2]] at this
theorem inr_no (n l h : Int) (w : World) (h1 : ¬ (l ≤ n ∧ n ≤ h)) : Calls Try.prog 31 #[.int .i64 n, .int .i64 l, .int .i64 h] w fun e w' => e = .returned (.bool false) ∧ w = w' := by
  have := inr_any n l h w
  rwa [show (decide (l ≤ n) && decide (n ≤ h)) = false by
    by_cases a : l ≤ n
    · have : ¬ n ≤ h := fun b => h1 ⟨a, b⟩
      simp [this]
    · simp [a]] at this
/-- n bytes c, as a list of numbers. -/
theorem fillB_nums (c n : Nat) : strOfNums (List.replicate n (c : Int)) = fillB c n := by
  unfold strOfNums fillB
  rw [List.map_replicate]
  rfl
def FillPost (c n : Nat) (w : World) (e : Ending) (w' : World) : Prop := e = .returned (.string (fillB c n)) ∧ Below w.heap.size w w'
theorem fillB_extract (c n k : Nat) : (fillB c n).extract k n = fillB c (n - k) := by
  apply ByteArray.ext
  unfold fillB
  simp
/-- What TornPage answers. -/
inductive TornEnds (raw : ByteArray) (k : Int) : ByteArray → Int → Prop
  | invalid (h : raw.size ≠ 91) : TornEnds raw k ⟨#[]⟩ 1
  | range (h : raw.size = 91) (h1 : ¬ (0 ≤ k ∧ k ≤ 91)) : TornEnds raw k ⟨#[]⟩ 2
  | done (h : raw.size = 91) (n : Nat) (hn : k = n) (h1 : n ≤ 91) : TornEnds raw k (tornB raw n) 0
theorem tornEnds (raw : ByteArray) (k : Int) : ∃ s c, TornEnds raw k s c := by
  by_cases h : raw.size = 91
  case neg => exact ⟨_, _, .invalid h⟩
  by_cases h1 : 0 ≤ k ∧ k ≤ 91
  case neg => exact ⟨_, _, .range h h1⟩
  exact ⟨_, _, .done h k.toNat (by omega) (by omega)⟩
def PairPost (s : ByteArray) (c : Int) (w : World) (e : Ending) (w' : World) : Prop := e = .returned (.tuple #[.string s, .int .i64 c]) ∧ Below w.heap.size w w'
end Go.Proofs.Ytfnhnekemjnliab
