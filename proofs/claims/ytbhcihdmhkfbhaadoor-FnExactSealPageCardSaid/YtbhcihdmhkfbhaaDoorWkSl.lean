/- The law FnExactSealPage, walked. -/
import Derived.Test.YtbhcihdmhkfbhaaDoorProg
import Derived.Test.YtbhcihdmhkfbhaaDoorSl
namespace Go.Proofs.YtbhcihdmhkfbhaaDoor
open Go.RowKit
set_option linter.unusedVariables false
theorem wkSl (a0 a1 : ByteArray) (a2 : Int) (w : World) (w0 : a0.size ≤ maxLen) (w1 : a1.size ≤ maxLen) (hT0 : MaskTab w) :
    Calls Tryd.prog 5 #[.string a0, .string a1, .int .i64 a2] w fun e w' => e = .returned (.bool true) ∧ Below w.heap.size w w' := by
  have HT := Lib.hid hT0
  unfold maxLen at w0 w1
  clear hT0
  by_cases hl : 1048576 < a0.size
  · have hli : (1048576 : Int) < (a0.size : Int) := by omega
    go_enter Tryd.func5, Tryd.ntmps5
    go_wp2
    go_ret
    exact ⟨rfl, Below.refl _ _⟩
  have hli : (a0.size : Int) ≤ 1048576 := by omega
  by_cases hl1 : 1048576 < a1.size
  · have hli1 : (1048576 : Int) < (a1.size : Int) := by omega
    go_enter Tryd.func5, Tryd.ntmps5
    go_wp2
    go_ret
    exact ⟨rfl, Below.refl _ _⟩
  have hli1 : (a1.size : Int) ≤ 1048576 := by omega
  obtain ⟨r, c, hE⟩ := sealEnds a0 a1 a2
  have HS := Lib.hid (fun (W : World) => specSeal_any a0 a1 a2 r c W hE (by omega) (by omega))
  have HI := Lib.hid (fun (W : World) (hT : MaskTab W) => implSeal_any a0 a1 a2 r c W hE (by omega) (by omega) hT)
  have hq := str_same (rfl : r = r)
  have hcc : (c != c) = false := by simp
  clear hE
  go_enter Tryd.func5, Tryd.ntmps5
  go_wp2_with fail
  refine (HS.out _).mono ?_
  rintro e w1 ⟨rfl, hb1⟩
  go_wp2_with fail
  refine (HI.out _ (HT.out.below hb1 (Nat.le_refl _))).mono ?_
  rintro e w2 ⟨rfl, hb2⟩
  have B2 := hb1.trans (hb2.mono hb1.size)
  clear hb1 hb2
  go_wp2
  go_ret
  exact ⟨rfl, B2⟩
end Go.Proofs.YtbhcihdmhkfbhaaDoor
