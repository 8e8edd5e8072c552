/- The header of a page that comes in as an argument of a law, opened. -/
import Derived.Test.YtnobgapdidpafaaDoorProg
import Derived.Test.YtnobgapdidpafaaDoorFlO
import Derived.Deep.Grids
namespace Go.Proofs.YtnobgapdidpafaaDoor
open Go.RowKit Go.ChangeShapes Go.WideShapes
set_option linter.unusedVariables false
section
variable {H : Type} {enc : TypeId × Value → H} {W : World} {sp : Nat → Bool} {held : Bool}
theorem cellsHdr : Tryd.prog.cellsOf 23 = 6 := by kernel_rfl
theorem cellsHdI : Tryd.prog.cellsOf 2 = 1 := by kernel_rfl
theorem list6h {α : Type} {l : List α} (h : l.length = 6) : ∃ a b c d e f, l = [a, b, c, d, e, f] := by
  match l, h with
  | [a, b, c, d, e, f], _ => exact ⟨a, b, c, d, e, f, rfl⟩
theorem open_hdr {fuel : Nat} {cs : List Value} {x : DataW H × List MemPlace} (h : DataW.trod enc Tryd.prog W 0 sp held fuel 23 cs = some x) :
    ∃ a b c d e f, cs = [.int .i64 a, .int .i64 b, .int .i64 c, .int .i64 d, .int .i64 e, .int .i64 f] ∧ WfI a ∧ WfI b ∧ WfI c ∧ WfI d ∧ WfI e ∧ WfI f := by
  obtain ⟨hl, hf⟩ := field_of Tryd.underlying23 h
  rw [cellsHdr] at hl
  obtain ⟨v0, v1, v2, v3, v4, v5, rfl⟩ := list6h hl
  obtain ⟨n0, y0, h0⟩ := hf 0 _ rfl
  obtain ⟨n1, y1, h1⟩ := hf 1 _ rfl
  obtain ⟨n2, y2, h2⟩ := hf 2 _ rfl
  obtain ⟨n3, y3, h3⟩ := hf 3 _ rfl
  obtain ⟨n4, y4, h4⟩ := hf 4 _ rfl
  obtain ⟨n5, y5, h5⟩ := hf 5 _ rfl
  simp [cellsHdI] at h0 h1 h2 h3 h4 h5
  obtain ⟨i0, rfl, w0⟩ := open_int1 h0
  obtain ⟨i1, rfl, w1⟩ := open_int1 h1
  obtain ⟨i2, rfl, w2⟩ := open_int1 h2
  obtain ⟨i3, rfl, w3⟩ := open_int1 h3
  obtain ⟨i4, rfl, w4⟩ := open_int1 h4
  obtain ⟨i5, rfl, w5⟩ := open_int1 h5
  exact ⟨_, _, _, _, _, _, rfl, w0, w1, w2, w3, w4, w5⟩
end
end Go.Proofs.YtnobgapdidpafaaDoor
