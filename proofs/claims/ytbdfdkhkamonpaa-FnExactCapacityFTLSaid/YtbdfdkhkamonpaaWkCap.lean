/- The law FnExactCapacityFTL, walked. -/
import Derived.Test.YtbdfdkhkamonpaaProg
import Derived.Test.YtbdfdkhkamonpaaCap
import Derived.Test.YtbdfdkhkamonpaaFlA
namespace Go.Proofs.Ytbdfdkhkamonpaa
open Go.RowKit
set_option linter.unusedVariables false
theorem wkCap (d b p : Int) (w : World) : Calls Try.prog 14 #[.agg #[.int .i64 d, .int .i64 b, .int .i64 p]] w fun e w' => e = .returned (.bool true) ∧ Below w.heap.size w w' := by
  obtain ⟨r, hr⟩ := prop_dec' (GeoOk d b p)
  obtain ⟨y, hy⟩ : ∃ y, y = capV d b p r := ⟨_, rfl⟩
  have HS := Lib.hid (fun (W : World) => specCap_any d b p r W hr)
  have HI := Lib.hid (fun (W : World) => implCap_any d b p r W hr)
  rw [← hy] at HS HI
  have hxx : (y != y) = false := by simp
  clear hy
  have HB0 := Lib.hid ((Below.refl w.heap.size w).alloc (Nat.le_refl _) (.cells #[.int .i64 d, .int .i64 b, .int .i64 p] 44))
  have R0 := Lib.hid (Rw.new w 44 #[.int .i64 d, .int .i64 b, .int .i64 p])
  clear hr
  go_enter Try.func14, Try.ntmps14
  go_wp2_with fail
  refine (toGeometry_any d b p _).mono ?_
  rintro e w1 ⟨rfl, b1⟩
  have HB1 := Lib.hid (HB0.out.trans (b1.mono (by simp)))
  have s1 := HB1.out.size
  have R1 := Lib.hid (R0.out.below b1 (by simp))
  clear b1
  go_wp2_with fail
  refine (HS.out _).mono ?_
  rintro e w2 ⟨rfl, b2⟩
  have HB2 := Lib.hid (HB1.out.trans (b2.mono s1))
  have s2 := HB2.out.size
  obtain ⟨c0, c1, c2⟩ := (R1.out.below b2 (R1.out.lt)).three
  clear b2
  go_wp2_with fail
  refine (toGeometry_any d b p _).mono ?_
  rintro e w3 ⟨rfl, b3⟩
  have HB3 := Lib.hid (HB2.out.trans (b3.mono s2))
  have s3 := HB3.out.size
  clear b3 c0 c1 c2
  go_wp2_with fail
  refine (HI.out _).mono ?_
  rintro e w4 ⟨rfl, b4⟩
  have HB4 := Lib.hid (HB3.out.trans (b4.mono s3))
  clear b4
  go_wp2
  go_ret
  exact ⟨rfl, HB4.out⟩
end Go.Proofs.Ytbdfdkhkamonpaa
