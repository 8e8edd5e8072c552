/- The law FnExactDecodeMeta, walked: every call by its contract. -/
import Derived.Test.YtfnccbanmgfkeabDoorProg
import Derived.Test.YtfnccbanmgfkeabDoorMx
namespace Go.Proofs.YtfnccbanmgfkeabDoor
open Go.RowKit
set_option linter.unusedVariables false
theorem mdV_five (s : ByteArray) (r : Bool) : ∃ a b c d e : Int, mdV s r = .agg #[.int .i64 a, .int .i64 b, .int .i64 c, .int .i64 d, .int .i64 e] := by
  cases r
  · exact ⟨_, _, _, _, _, rfl⟩
  · exact ⟨_, _, _, _, _, rfl⟩
set_option maxHeartbeats 4000000 in
set_option maxRecDepth 100000 in
theorem wkDm (s : ByteArray) (w : World) (w0 : s.size ≤ maxLen) (hT : CrcTab w) : Calls Tryd.prog 4 #[.string s] w fun e w' => e = .returned (.bool true) ∧ Below w.heap.size w w' := by
  unfold maxLen at w0
  by_cases hl : 1048576 < s.size
  · have hli : (1048576 : Int) < (s.size : Int) := by omega
    clear hT
    go_enter Tryd.func4, Tryd.ntmps4
    go_wp2
    go_ret
    exact ⟨rfl, Below.refl _ _⟩
  have hli : (s.size : Int) ≤ 1048576 := by omega
  obtain ⟨r, hr⟩ := prop_dec' (MdOk s)
  obtain ⟨a, b, c, d, e, hv⟩ := mdV_five s r
  have HS := Lib.hid (fun (W : World) => show Calls Tryd.prog 12 #[.string s] W fun x w' => x = .returned (.tuple #[.agg #[.int .i64 a, .int .i64 b, .int .i64 c, .int .i64 d, .int .i64 e], .bool r]) ∧ Below W.heap.size W w' by rw [← hv]; exact specDecMeta_any s r W (by omega) hr)
  have HI := Lib.hid (fun (W : World) (h : CrcTab W) => show Calls Tryd.prog 13 #[.string s] W fun x w' => x = .returned (.tuple #[.agg #[.int .i64 a, .int .i64 b, .int .i64 c, .int .i64 d, .int .i64 e], .bool r]) ∧ Below W.heap.size W w' by rw [← hv]; exact implDecMeta_any s r W (by omega) hr h)
  have HQ := Lib.hid (fun (W : World) => eqMeta_any a b c d e W)
  have HC := Lib.hid hT
  have hrr : (r != r) = false := by simp
  clear hr hv hT hl w0
  go_enter Tryd.func4, Tryd.ntmps4
  go_wp2_with fail
  refine (HS.out _).mono ?_
  rintro x w1 ⟨rfl, b1⟩
  have B1 := Lib.hid (b1.alloc b1.size (.cells #[.int .i64 a, .int .i64 b, .int .i64 c, .int .i64 d, .int .i64 e] 25))
  have R1 := Lib.hid (Rw.new w1 25 #[.int .i64 a, .int .i64 b, .int .i64 c, .int .i64 d, .int .i64 e])
  clear b1
  go_wp2_with fail
  refine (HI.out _ (HC.out.below B1.out (Nat.le_refl _))).mono ?_
  rintro x w2 ⟨rfl, b2⟩
  have B2 := Lib.hid (B1.out.trans (b2.mono B1.out.size))
  have B3 := Lib.hid (B2.out.alloc B2.out.size (.cells #[.int .i64 a, .int .i64 b, .int .i64 c, .int .i64 d, .int .i64 e] 25))
  have R2 := Lib.hid ((R1.out.below b2 R1.out.lt).alloc (.cells #[.int .i64 a, .int .i64 b, .int .i64 c, .int .i64 d, .int .i64 e] 25))
  have R3 := Lib.hid (Rw.new w2 25 #[.int .i64 a, .int .i64 b, .int .i64 c, .int .i64 d, .int .i64 e])
  clear b2 B1 B2 R1
  obtain ⟨c0, c1, c2, c3, c4⟩ := R2.out.five
  obtain ⟨d0, d1, d2, d3, d4⟩ := R3.out.five
  go_wp2_with fail
  refine (HQ.out _).mono ?_
  rintro x w3 ⟨rfl, b3⟩
  have B4 := Lib.hid (B3.out.trans (b3.mono B3.out.size))
  clear b3 c0 c1 c2 c3 c4 d0 d1 d2 d3 d4 R2 R3 B3
  go_wp2
  go_ret
  exact ⟨rfl, B4.out⟩
end Go.Proofs.YtfnccbanmgfkeabDoor
