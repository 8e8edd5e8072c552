/- An array that fits has not too many blocks and pages. -/
import Derived.Test.YtgamoiagpglcmaaFlA
import Derived.Test.YtgamoiagpglcmaaFlW
namespace Go.Proofs.Ytgamoiagpglcmaa
open Go.RowKit
theorem FlIn.agg8 {w : World} {lo hi : Nat} {v : Value} {F : Fl} (h : FlIn w lo hi v F) : ∃ (d b p : Int) (A : Option Addr) (n c : Nat) (fu ke : Int) (off : Bool) (op : Int), v = .agg #[.int .i64 d, .int .i64 b, .int .i64 p, .slice A n c, .int .i64 fu, .int .i64 ke, .bool off, .int .i64 op] := by
  obtain ⟨u, rfl, A, n, c, rfl, _⟩ := h; exact ⟨_, _, _, _, _, _, _, _, _, _, rfl⟩
theorem FlOwn.agg8 {w : World} {lo hi : Nat} {v : Value} {F : Fl} (h : FlOwn w lo hi v F) : ∃ (d b p : Int) (A : Option Addr) (n c : Nat) (fu ke : Int) (off : Bool) (op : Int), v = .agg #[.int .i64 d, .int .i64 b, .int .i64 p, .slice A n c, .int .i64 fu, .int .i64 ke, .bool off, .int .i64 op] := h.reads.agg8
theorem FlSz.lens {F : Fl} (h : FlSz F) : FlLen F := ⟨by unfold FlSz at h; omega, fun i hi => (h.pages hi).1⟩
end Go.Proofs.Ytgamoiagpglcmaa
