/- The header of a page as plain data: which are valid, its text. -/
import Derived.Test.YtnobgapdidpafaaDoorMe
namespace Go.Proofs.YtnobgapdidpafaaDoor
open Go.RowKit
set_option linter.unusedVariables false
/-- The header has a text. -/
def HdOk (k z r u i s : Int) : Prop := (161 ≤ k ∧ k ≤ 163) ∧ (0 ≤ z ∧ z ≤ 11) ∧ (0 ≤ r ∧ r ≤ 15) ∧ (0 ≤ u ∧ u ≤ 3) ∧ (0 ≤ i ∧ i ≤ 65535) ∧ (0 ≤ s ∧ s ≤ 127)
/-- The fields, and three bytes that are not used. -/
def hdF (k z r u i s : Int) : ByteArray := strOfNums (encF k 1) ++ strOfNums (encF z 1) ++ strOfNums (encF r 1) ++ strOfNums (encF u 1) ++ strOfNums (encF i 4) ++ strOfNums (encF s 1) ++ strOfNums (encF 0 3)
theorem hdF_size (k z r u i s : Int) : (hdF k z r u i s).size = 12 := by unfold hdF; simp only [ByteArray.size_append, strOfNums_size, encF_length]
/-- The header's text for the data d. -/
def hdT (d : ByteArray) (k z r u i s : Int) : ByteArray := hdF k z r u i s ++ strOfNums (encF ((ckOf (d ++ hdF k z r u i s) : Nat) : Int) 4)
theorem hdT_size (d : ByteArray) (k z r u i s : Int) : (hdT d k z r u i s).size = 16 := by unfold hdT; rw [ByteArray.size_append, hdF_size, strOfNums_size, encF_length]
def hdE (d : ByteArray) (k z r u i s : Int) (q : Bool) : ByteArray := bif q then hdT d k z r u i s else .empty
theorem hdSeal (d : ByteArray) (k z r u i s : Int) (h : d.size = 64) : (sealM (d ++ hdF k z r u i s)).extract 64 (sealM (d ++ hdF k z r u i s)).size = hdT d k z r u i s := by
  have e : sealM (d ++ hdF k z r u i s) = d ++ hdT d k z r u i s := by unfold sealM hdT; rw [ByteArray.append_assoc]
  rw [e]
  have hz : (d ++ hdT d k z r u i s).size = 80 := by rw [ByteArray.size_append, h, hdT_size]
  rw [hz]
  apply ByteArray.ext
  apply Array.toList_inj.1
  rw [ByteArray.data_extract, Array.toList_extract, List.extract_eq_take_drop, ByteArray.data_append, Array.toList_append]
  have hl : d.data.toList.length = 64 := by simpa using h
  have hl2 : (hdT d k z r u i s).data.toList.length = 16 := by have := hdT_size d k z r u i s; simpa using this
  rw [List.drop_append_of_le_length (by omega), List.drop_of_length_le (by omega)]
  simp only [List.nil_append]
  exact List.take_of_length_le (by omega)
end Go.Proofs.YtnobgapdidpafaaDoor
