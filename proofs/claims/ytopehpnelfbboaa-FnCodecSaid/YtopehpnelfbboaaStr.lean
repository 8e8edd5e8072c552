/- EncodeString and DecodeString, in the model and in the program: their contracts. -/
import Derived.Test.YtopehpnelfbboaaProg
import Derived.Test.YtopehpnelfbboaaDec
namespace Go.Proofs.Ytopehpnelfbboaa
open Go.RowKit

theorem uv_size {n : Nat} (h : n < 2 ^ 63) : (strOfNums (uv n)).size ≤ 9 := by rw [strOfNums_size]; exact uv_len h

theorem implEncStr_any (s : ByteArray) (w : World) (hs : s.size ≤ 1048577) :
    Calls Try.prog 14 #[.string s] w fun e w' => e = .returned (.string (strOfNums (uv s.size) ++ s)) ∧ Below w.heap.size w w' := by
  have h63 : s.size < 2 ^ 63 := by omega
  have hu := uv_size h63
  go_enter Try.func14, Try.ntmps14
  go_wp2_with (go_at_call 10; refine (implEncUv_yes s.size _ h63).mono ?_; rintro e w1 ⟨rfl, hb1⟩)
  go_ret
  exact ⟨rfl, hb1⟩
theorem slice_sum (s : ByteArray) (a b : Nat) (h : a + b ≤ s.size) (w : World) :
    (Instr.slice 9 (.string s) (some (.int .i64 (a : Int))) (some (.int .i64 ((a : Int) + (b : Int)))) none).run Try.prog w = .ok (.string (s.extract a (a + b))) w := by
  rw [run_slice_string w 9 s .i64 .i64 _ _ Try.underlying9 (by omega) (by omega) (by omega)]
  rw [show ((a : Int) + (b : Int)).toNat = a + b by omega]; rfl
/-- The text starts with a whole string. -/
def DsOk (s : ByteArray) : Prop := 0 < decUv s ∧ decUv s + acc s (decUv s) ≤ s.size
theorem implDecStr_yes (s : ByteArray) (w : World) (hs : s.size ≤ 1048576) (h : DsOk s) :
    Calls Try.prog 15 #[.string s] w fun e w' => e = .returned (.tuple #[.string (s.extract (decUv s) (decUv s + acc s (decUv s))), .int .i64 (decUv s + acc s (decUv s) : Nat), .bool true]) ∧ Below w.heap.size w w' := by
  obtain ⟨h1, h2⟩ := h
  have hsl := slice_sum s _ _ h2
  have hd : decide (0 < decUv s) = true := by simpa using h1
  go_enter Try.func15, Try.ntmps15
  go_wp2_with (go_at_call 11; refine (implDecUv_any s _ hs).mono ?_; rintro e w1 ⟨rfl, hb1⟩)
  go_ret3
  exact ⟨by simp, hb1⟩
theorem implDecStr_no (s : ByteArray) (w : World) (hs : s.size ≤ 1048576) (h : ¬ DsOk s) :
    Calls Try.prog 15 #[.string s] w fun e w' => e = .returned (.tuple #[.string ⟨#[]⟩, .int .i64 0, .bool false]) ∧ Below w.heap.size w w' := by
  have hl := decUv_le s
  by_cases h1 : 0 < decUv s
  · have h2 : ¬ (decUv s + acc s (decUv s) ≤ s.size) := fun h2 => h ⟨h1, h2⟩
    have hd : decide (0 < decUv s) = true := by simpa using h1
    clear h
    go_enter Try.func15, Try.ntmps15
    go_wp2_with (go_at_call 11; refine (implDecUv_any s _ hs).mono ?_; rintro e w1 ⟨rfl, hb1⟩)
    go_ret3
    exact ⟨rfl, hb1⟩
  · have hd : decide (0 < decUv s) = false := by simpa using h1
    clear h
    go_enter Try.func15, Try.ntmps15
    go_wp2_with (go_at_call 11; refine (implDecUv_any s _ hs).mono ?_; rintro e w1 ⟨rfl, hb1⟩)
    go_ret3
    exact ⟨rfl, hb1⟩
end Go.Proofs.Ytopehpnelfbboaa
