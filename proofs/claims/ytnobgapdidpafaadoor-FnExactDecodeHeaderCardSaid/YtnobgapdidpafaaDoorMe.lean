/- The metadata of a page, encoded: the model's and the program's encoders. -/
import Derived.Test.YtnobgapdidpafaaDoorProg
import Derived.Test.YtnobgapdidpafaaDoorCrc
import Derived.Test.YtnobgapdidpafaaDoorEncF
import Derived.Test.YtnobgapdidpafaaDoorOwnR
import Derived.Test.YtnobgapdidpafaaDoorTab
import Derived.Test.YtnobgapdidpafaaDoorMtS
import Derived.Test.YtnobgapdidpafaaDoorMtI
namespace Go.Proofs.YtnobgapdidpafaaDoor
open Go.RowKit
set_option linter.unusedVariables false
set_option linter.unusedSimpArgs false
/-- The five fields, and the five fields with their checksum. -/
def metaL (k l s f c : Int) : ByteArray := strOfNums (encF k 1) ++ strOfNums (encF l 2) ++ strOfNums (encF s 4) ++ strOfNums (encF f 4) ++ strOfNums (encF c 1)
def sealM (x : ByteArray) : ByteArray := x ++ strOfNums (encF ((ckOf x : Nat) : Int) 4)
theorem metaL_size (k l s f c : Int) : (metaL k l s f c).size = 12 := by unfold metaL; simp only [ByteArray.size_append, strOfNums_size, encF_length]
theorem sealM_size (k l s f c : Int) : (sealM (metaL k l s f c)).size = 16 := by unfold sealM; rw [ByteArray.size_append, metaL_size, strOfNums_size, encF_length]
theorem enc4_le (n : Int) : (strOfNums (encF n 4)).size ≤ 4 := by rw [strOfNums_size, encF_length]; omega
/-- The checksum's table, in any later world. -/
def CrcTab (w : World) : Prop := (∀ j, j < 16 → w.cell? ⟨0, j, none⟩ = some (.int .u32 (crcT.getD j 0))) ∧ 0 < w.heap.size
theorem CrcTab.below {w w' : World} {B : Nat} (h : CrcTab w) (hb : Below B w w') (hB : w.heap.size ≤ B) : CrcTab w' :=
  ⟨fun j hj => (hb.cell (p := ⟨0, j, none⟩) (Nat.lt_of_lt_of_le h.2 hB)).trans (h.1 j hj), Nat.lt_of_lt_of_le h.2 hb.size⟩
theorem withCk_any (x : ByteArray) (w : World) (hx : x.size ≤ 1048576) (hT : CrcTab w) : Calls Tryd.prog 19 #[.string x] w fun e w' => e = .returned (.string (sealM x)) ∧ Below w.heap.size w w' := by
  have HS : Hid (x ++ strOfNums (encF ((ckOf x : Nat) : Int) 4) = sealM x) := rfl
  have HE := Lib.hid (fun (n : Int) (m : Nat) (W : World) (hm : m ≤ 8) => implEncFixed_yes n m W hm)
  have HK := Lib.hid (implCk_any 0 x w hx hT.1 rfl)
  have hz4 := enc4_le ((ckOf x : Nat) : Int)
  clear hT
  go_enter Tryd.func19, Tryd.ntmps19
  go_wp2_with fail
  refine (HK.out).mono ?_
  rintro e w2 ⟨rfl, rfl⟩
  go_wp2_with fail
  refine (HE.out _ 4 _ (by decide)).mono ?_
  rintro e w3 ⟨rfl, b3⟩
  go_wp2
  go_ret
  exact ⟨rfl, b3⟩
end Go.Proofs.YtnobgapdidpafaaDoor
