/- The law FnExactEncodeHeader, walked: every call by its contract. -/
import Derived.Test.YtnobgapdidpafaaDoorProg
import Derived.Test.YtnobgapdidpafaaDoorHdE
import Derived.Test.YtnobgapdidpafaaDoorHdO
import Derived.Test.YtnobgapdidpafaaDoorStrs
namespace Go.Proofs.YtnobgapdidpafaaDoor
open Go.RowKit
set_option linter.unusedVariables false
set_option linter.unusedSimpArgs false
set_option maxHeartbeats 4000000 in
set_option maxRecDepth 100000 in
theorem wkHe (k z r u i s : Int) (d : ByteArray) (w : World) (w0 : d.size ≤ maxLen) (hT : CrcTab w) : Calls Tryd.prog 3 #[.agg #[.int .i64 k, .int .i64 z, .int .i64 r, .int .i64 u, .int .i64 i, .int .i64 s], .string d] w fun e w' => e = .returned (.bool true) ∧ Below w.heap.size w w' := by
  unfold maxLen at w0
  have R0 := Lib.hid (Rw.new w 23 #[.int .i64 k, .int .i64 z, .int .i64 r, .int .i64 u, .int .i64 i, .int .i64 s])
  have B0 := Lib.hid ((Below.refl w.heap.size w).alloc (Nat.le_refl _) (.cells #[.int .i64 k, .int .i64 z, .int .i64 r, .int .i64 u, .int .i64 i, .int .i64 s] 23))
  obtain ⟨c0, c1, c2, c3, c4, c5⟩ := R0.out.six
  by_cases hl : 1048576 < d.size
  · have hli : (1048576 : Int) < (d.size : Int) := by omega
    clear hT
    go_enter Tryd.func3, Tryd.ntmps3
    go_wp2
    go_ret
    exact ⟨rfl, B0.out⟩
  have hli : (d.size : Int) ≤ 1048576 := by omega
  obtain ⟨q, hq⟩ := prop_dec' (d.size = 64 ∧ HdOk k z r u i s)
  obtain ⟨X, hX⟩ : ∃ X, X = hdE d k z r u i s q := ⟨_, rfl⟩
  have HS := Lib.hid (fun (W : World) => specEncHdr_any k z r u i s d q W (by omega) hq)
  have HI := Lib.hid (fun (W : World) (hT : CrcTab W) => implEncHdr_any k z r u i s d q W (by omega) hq hT)
  rw [← hX] at HS HI
  clear hX
  have HC := Lib.hid hT
  have HT := Lib.hid (fun (W : World) => toHdr_any k z r u i s W)
  have hx := str_same (rfl : X = X)
  clear hq hT hl w0
  go_enter Tryd.func3, Tryd.ntmps3
  go_wp2_with fail
  refine (HT.out _).mono ?_
  rintro e w1 ⟨rfl, b1⟩
  have B1 := Lib.hid (B0.out.trans (b1.mono (by simp)))
  have R1 := Lib.hid (R0.out.below b1 (by simp))
  clear c0 c1 c2 c3 c4 c5
  obtain ⟨c0, c1, c2, c3, c4, c5⟩ := R1.out.six
  clear b1 B0 R0
  go_wp2_with fail
  refine (HS.out _).mono ?_
  rintro e w2 ⟨rfl, b2⟩
  have B2 := Lib.hid (B1.out.trans (b2.mono B1.out.size))
  have R2 := Lib.hid (R1.out.below b2 R1.out.lt)
  clear b2 c0 c1 c2 c3 c4 c5 B1 R1
  obtain ⟨c0, c1, c2, c3, c4, c5⟩ := R2.out.six
  go_wp2_with fail
  refine (HT.out _).mono ?_
  rintro e w3 ⟨rfl, b3⟩
  have B3 := Lib.hid (B2.out.trans (b3.mono B2.out.size))
  clear b3 c0 c1 c2 c3 c4 c5 B2 R2
  go_wp2_with fail
  refine (HI.out _ (HC.out.below B3.out (Nat.le_refl _))).mono ?_
  rintro e w4 ⟨rfl, b4⟩
  have B4 := Lib.hid (B3.out.trans (b4.mono B3.out.size))
  clear b4 B3
  go_wp2
  go_ret
  exact ⟨rfl, B4.out⟩
end Go.Proofs.YtnobgapdidpafaaDoor
