/- The law FnExactOpenPage, walked. -/
import Derived.Test.YtfnhnekemjnliaaDoorProg
import Derived.Test.YtfnhnekemjnliaaDoorOp
namespace Go.Proofs.YtfnhnekemjnliaaDoor
open Go.RowKit
set_option linter.unusedVariables false
theorem wkOp (a0 : ByteArray) (a1 : Int) (w : World) (w0 : a0.size ≤ maxLen) (hT0 : MaskTab w) :
    Calls Tryd.prog 5 #[.string a0, .int .i64 a1] w fun e w' => e = .returned (.bool true) ∧ Below w.heap.size w w' := by
  have HT := Lib.hid hT0
  unfold maxLen at w0
  clear hT0
  by_cases hl : 1048576 < a0.size
  · have hli : (1048576 : Int) < (a0.size : Int) := by omega
    go_enter Tryd.func5, Tryd.ntmps5
    go_wp2
    go_ret
    exact ⟨rfl, Below.refl _ _⟩
  have hli : (a0.size : Int) ≤ 1048576 := by omega
  obtain ⟨d, s, n, c, hE⟩ := openEnds a0 a1
  have HS := Lib.hid (fun (W : World) => specOpen_any a0 a1 d s n c W hE (by omega))
  have HI := Lib.hid (fun (W : World) (hT : MaskTab W) => implOpen_any a0 a1 d s n c W hE (by omega) hT)
  have hq := str_same (rfl : d = d)
  have hq2 := str_same (rfl : s = s)
  have hnn : (n != n) = false := by simp
  have hcc : (c != c) = false := by simp
  clear hE
  go_enter Tryd.func5, Tryd.ntmps5
  go_wp2_with fail
  refine (HS.out _).mono ?_
  rintro e w1 ⟨rfl, hb1⟩
  go_wp2_with fail
  refine (HI.out _ (HT.out.below hb1 (Nat.le_refl _))).mono ?_
  rintro e w2 ⟨rfl, hb2⟩
  have B2 := hb1.trans (hb2.mono hb1.size)
  clear hb1 hb2
  go_wp2
  go_ret
  exact ⟨rfl, B2⟩
end Go.Proofs.YtfnhnekemjnliaaDoor
