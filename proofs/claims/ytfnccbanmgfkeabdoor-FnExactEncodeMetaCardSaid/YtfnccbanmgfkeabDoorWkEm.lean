/- The law FnExactEncodeMeta, walked: every call by its contract. -/
import Derived.Test.YtfnccbanmgfkeabDoorProg
import Derived.Test.YtfnccbanmgfkeabDoorMe
import Derived.Test.YtfnccbanmgfkeabDoorStrs
namespace Go.Proofs.YtfnccbanmgfkeabDoor
open Go.RowKit
set_option linter.unusedVariables false
set_option maxHeartbeats 4000000 in
set_option maxRecDepth 100000 in
theorem wkEm (k l s f c : Int) (w : World) (hT : CrcTab w) : Calls Tryd.prog 3 #[.agg #[.int .i64 k, .int .i64 l, .int .i64 s, .int .i64 f, .int .i64 c]] w fun e w' => e = .returned (.bool true) ∧ Below w.heap.size w w' := by
  obtain ⟨r, hr⟩ := prop_dec' (MetaOk k l s f c)
  obtain ⟨X, hX⟩ : ∃ X, X = (bif r then sealM (metaL k l s f c) else .empty) := ⟨_, rfl⟩
  have HS := Lib.hid (fun (W : World) => specEncMeta_any k l s f c r W hr)
  have HI := Lib.hid (fun (W : World) (hT : CrcTab W) => implEncMeta_any k l s f c r W hr hT)
  rw [← hX] at HS HI
  clear hX
  have HC := Lib.hid hT
  have HT := Lib.hid (fun (W : World) => toMeta_any k l s f c W)
  have hq := str_same (rfl : X = X)
  have R0 := Lib.hid (Rw.new w 23 #[.int .i64 k, .int .i64 l, .int .i64 s, .int .i64 f, .int .i64 c])
  have B0 := Lib.hid ((Below.refl w.heap.size w).alloc (Nat.le_refl _) (.cells #[.int .i64 k, .int .i64 l, .int .i64 s, .int .i64 f, .int .i64 c] 23))
  clear hr hT
  go_enter Tryd.func3, Tryd.ntmps3
  go_wp2_with fail
  refine (HT.out _).mono ?_
  rintro e w1 ⟨rfl, b1⟩
  have B1 := Lib.hid (B0.out.trans (b1.mono (by simp)))
  have R1 := Lib.hid (R0.out.below b1 (by simp))
  obtain ⟨c0, c1, c2, c3, c4⟩ := R1.out.five
  clear b1 B0 R0
  go_wp2_with fail
  refine (HS.out _).mono ?_
  rintro e w2 ⟨rfl, b2⟩
  have B2 := Lib.hid (B1.out.trans (b2.mono B1.out.size))
  have R2 := Lib.hid (R1.out.below b2 R1.out.lt)
  clear b2 c0 c1 c2 c3 c4 B1 R1
  obtain ⟨c0, c1, c2, c3, c4⟩ := R2.out.five
  go_wp2_with fail
  refine (HT.out _).mono ?_
  rintro e w3 ⟨rfl, b3⟩
  have B3 := Lib.hid (B2.out.trans (b3.mono B2.out.size))
  clear b3 c0 c1 c2 c3 c4 B2 R2
  go_wp2_with fail
  refine (HI.out _ (HC.out.below B3.out (Nat.le_refl _))).mono ?_
  rintro e w4 ⟨rfl, b4⟩
  have B4 := Lib.hid (B3.out.trans (b4.mono B3.out.size))
  clear b4 B3
  go_wp2
  go_ret
  exact ⟨rfl, B4.out⟩
end Go.Proofs.YtfnccbanmgfkeabDoor
