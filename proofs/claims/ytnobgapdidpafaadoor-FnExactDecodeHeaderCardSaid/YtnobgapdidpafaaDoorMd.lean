/- The metadata of a page, decoded: the model and the program. -/
import Derived.Test.YtnobgapdidpafaaDoorProg
import Derived.Test.YtnobgapdidpafaaDoorMe
import Derived.Test.YtnobgapdidpafaaDoorFixed
import Derived.Test.YtnobgapdidpafaaDoorStrs
import Derived.Deep.RegionHeld3
namespace Go.Proofs.YtnobgapdidpafaaDoor
open Go.RowKit
set_option linter.unusedVariables false
set_option linter.unusedSimpArgs false
/-- The integer in the bytes from a to b; the five fields; a text that is the encoding of valid metadata. -/
def fld (s : ByteArray) (a b : Nat) : Int := fixF (s.extract a b) (s.extract a b).size
def FldOk (s : ByteArray) : Prop := MetaOk (fld s 0 1) (fld s 1 3) (fld s 3 7) (fld s 7 11) (fld s 11 12) ∧ sealM (metaL (fld s 0 1) (fld s 1 3) (fld s 3 7) (fld s 7 11) (fld s 11 12)) = s
def fldV (s : ByteArray) : Value := .agg #[.int .i64 (fld s 0 1), .int .i64 (fld s 1 3), .int .i64 (fld s 3 7), .int .i64 (fld s 7 11), .int .i64 (fld s 11 12)]
def mdV (s : ByteArray) (r : Bool) : Value := bif r then fldV s else .agg #[.int .i64 0, .int .i64 0, .int .i64 0, .int .i64 0, .int .i64 0]
theorem fld_eq (s : ByteArray) (a b : Nat) (h : b ≤ s.size) (hb : b ≤ a + 8) : (s.extract a b).size ≤ 8 := by rw [ByteArray.size_extract]; omega
theorem fld_cut (s : ByteArray) (a b n : Nat) : fld (s.extract n s.size) a b = fld s (n + a) (min (n + b) s.size) := by
  unfold fld
  rw [show (s.extract n s.size).extract a b = s.extract (n + a) (min (n + b) s.size) from ByteArray.extract_extract]
end Go.Proofs.YtnobgapdidpafaaDoor
