/- The law FnExactDecodeHeader, walked: every call by its contract. -/
import Derived.Test.YtnobgapdidpafaaDoorProg
import Derived.Test.YtnobgapdidpafaaDoorHdG
import Derived.Test.YtnobgapdidpafaaDoorHdO
import Derived.Test.YtnobgapdidpafaaDoorStrs
namespace Go.Proofs.YtnobgapdidpafaaDoor
open Go.RowKit
set_option linter.unusedVariables false
set_option linter.unusedSimpArgs false
theorem hdV_six (x : ByteArray) (r : Bool) : ∃ a b c d1 e1 f1 : Int, hdV x r = .agg #[.int .i64 a, .int .i64 b, .int .i64 c, .int .i64 d1, .int .i64 e1, .int .i64 f1] := by
  cases r
  · exact ⟨_, _, _, _, _, _, rfl⟩
  · exact ⟨_, _, _, _, _, _, rfl⟩
set_option maxHeartbeats 4000000 in
set_option maxRecDepth 100000 in
theorem wkHd (x y : ByteArray) (w : World) (w0 : x.size ≤ maxLen) (w1 : y.size ≤ maxLen) (hT : CrcTab w) : Calls Tryd.prog 4 #[.string x, .string y] w fun e w' => e = .returned (.bool true) ∧ Below w.heap.size w w' := by
  unfold maxLen at w0 w1
  by_cases hl : 1048576 < x.size
  · have hli : (1048576 : Int) < (x.size : Int) := by omega
    clear hT
    go_enter Tryd.func4, Tryd.ntmps4
    go_wp2
    go_ret
    exact ⟨rfl, Below.refl _ _⟩
  have hli : (x.size : Int) ≤ 1048576 := by omega
  by_cases hm : 1048576 < y.size
  · have hmi : (1048576 : Int) < (y.size : Int) := by omega
    clear hT
    go_enter Tryd.func4, Tryd.ntmps4
    go_wp2
    go_ret
    exact ⟨rfl, Below.refl _ _⟩
  have hmi : (y.size : Int) ≤ 1048576 := by omega
  obtain ⟨r, hr⟩ := prop_dec' (HdDOk x y)
  obtain ⟨a, b, c, d1, e1, f1, hv⟩ := hdV_six x r
  have HS := Lib.hid (fun (W : World) => show Calls Tryd.prog 9 #[.string x, .string y] W fun v w' => v = .returned (.tuple #[.agg #[.int .i64 a, .int .i64 b, .int .i64 c, .int .i64 d1, .int .i64 e1, .int .i64 f1], .bool r]) ∧ Below W.heap.size W w' by rw [← hv]; exact specDecHdr_any x y r W (by omega) (by omega) hr)
  have HI := Lib.hid (fun (W : World) (h : CrcTab W) => show Calls Tryd.prog 10 #[.string x, .string y] W fun v w' => v = .returned (.tuple #[.agg #[.int .i64 a, .int .i64 b, .int .i64 c, .int .i64 d1, .int .i64 e1, .int .i64 f1], .bool r]) ∧ Below W.heap.size W w' by rw [← hv]; exact implDecHdr_any x y r W (by omega) (by omega) hr h)
  have HQ := Lib.hid (fun (W : World) => eqHdr_any a b c d1 e1 f1 W)
  have HC := Lib.hid hT
  have hrr : (r != r) = false := by simp
  clear hr hv hT hl hm w0 w1
  go_enter Tryd.func4, Tryd.ntmps4
  go_wp2_with fail
  refine (HS.out _).mono ?_
  rintro v w1 ⟨rfl, b1⟩
  have B1 := Lib.hid (b1.alloc b1.size (.cells #[.int .i64 a, .int .i64 b, .int .i64 c, .int .i64 d1, .int .i64 e1, .int .i64 f1] 25))
  have R1 := Lib.hid (Rw.new w1 25 #[.int .i64 a, .int .i64 b, .int .i64 c, .int .i64 d1, .int .i64 e1, .int .i64 f1])
  clear b1
  go_wp2_with fail
  refine (HI.out _ (HC.out.below B1.out (Nat.le_refl _))).mono ?_
  rintro v w2 ⟨rfl, b2⟩
  have B2 := Lib.hid (B1.out.trans (b2.mono B1.out.size))
  have B3 := Lib.hid (B2.out.alloc B2.out.size (.cells #[.int .i64 a, .int .i64 b, .int .i64 c, .int .i64 d1, .int .i64 e1, .int .i64 f1] 25))
  have R2 := Lib.hid ((R1.out.below b2 R1.out.lt).alloc (.cells #[.int .i64 a, .int .i64 b, .int .i64 c, .int .i64 d1, .int .i64 e1, .int .i64 f1] 25))
  have R3 := Lib.hid (Rw.new w2 25 #[.int .i64 a, .int .i64 b, .int .i64 c, .int .i64 d1, .int .i64 e1, .int .i64 f1])
  clear b2 B1 B2 R1
  obtain ⟨c0, c1, c2, c3, c4, c5⟩ := R2.out.six
  obtain ⟨d0, d1', d2, d3, d4, d5⟩ := R3.out.six
  go_wp2_with fail
  refine (HQ.out _).mono ?_
  rintro v w3 ⟨rfl, b3⟩
  have B4 := Lib.hid (B3.out.trans (b3.mono B3.out.size))
  clear b3 c0 c1 c2 c3 c4 c5 d0 d1' d2 d3 d4 d5 R2 R3 B3
  go_wp2
  go_ret
  exact ⟨rfl, B4.out⟩
end Go.Proofs.YtnobgapdidpafaaDoor
