/- Arrays as arguments and results of a law: the laws' helpers in the shape that all kinds share. -/
import Derived.Test.YtgamoiagpglcmaaProg
import Derived.Test.YtgamoiagpglcmaaFlSz
import Derived.Test.YtgamoiagpglcmaaFlA
import Derived.Test.YtgamoiagpglcmaaFlE
import Derived.Test.YtgamoiagpglcmaaSmZ
import Derived.Test.YtgamoiagpglcmaaLu
namespace Go.Proofs.Ytgamoiagpglcmaa
open Go.RowKit
set_option linter.unusedVariables false
def FxIn (w : World) (hi : Nat) (v : Value) (F : Fl) : Prop := FlIn w 0 hi v F
def FxOwn (w : World) (lo hi : Nat) (v : Value) (F : Fl) : Prop := FlOwn w lo hi v F
def FxSz (F : Fl) : Prop := F.bs.length + szB F.bs ≤ 1048576
abbrev FxW (F : Fl) : Prop := True
theorem PgIn.low {w : World} {lo hi : Nat} {v : Value} {L : List ByteArray} (h : PgIn w lo hi v L) : PgIn w 0 hi v L := by
  obtain ⟨A, n, c, e, h1, h2, h3, h4, h5⟩ := h
  refine ⟨A, n, c, e, h1, h2, h3, h4, fun h0 => ?_⟩
  obtain ⟨b, o, e, _, q1, q2⟩ := h5 h0
  exact ⟨b, o, e, Nat.zero_le _, q1, q2⟩
theorem FlIn.low {w : World} {lo hi : Nat} {v : Value} {F : Fl} (h : FlIn w lo hi v F) : FlIn w 0 hi v F := by
  obtain ⟨u, e, A, n, c, e2, h1, h2, h3, h5⟩ := h
  refine ⟨u, e, A, n, c, e2, h1, h2, h3, fun h0 => ?_⟩
  obtain ⟨b, o, e, _, q1, q2⟩ := h5 h0
  refine ⟨b, o, e, Nat.zero_le _, q1, fun i hi => ?_⟩
  obtain ⟨pv, x1, x2⟩ := q2 i hi
  exact ⟨pv, x1, x2.low⟩
theorem FxIn.same {w w' : World} {hi : Nat} {v : Value} {F : Fl} (h : FxIn w hi v F) (hs : Same 0 hi w w') : FxIn w' hi v F := FlIn.same h hs
theorem FxOwn.same {w w' : World} {lo hi : Nat} {v : Value} {F : Fl} (h : FxOwn w lo hi v F) (hs : Same lo hi w w') : FxOwn w' lo hi v F := FlOwn.same h hs
theorem FxIn.agg8 {w : World} {hi : Nat} {v : Value} {F : Fl} (h : FxIn w hi v F) : ∃ (d b p : Int) (A : Option Addr) (n c : Nat) (fu ke : Int) (off : Bool) (op : Int), v = .agg #[.int .i64 d, .int .i64 b, .int .i64 p, .slice A n c, .int .i64 fu, .int .i64 ke, .bool off, .int .i64 op] := FlIn.agg8 h
theorem FxOwn.agg8 {w : World} {lo hi : Nat} {v : Value} {F : Fl} (h : FxOwn w lo hi v F) : ∃ (d b p : Int) (A : Option Addr) (n c : Nat) (fu ke : Int) (off : Bool) (op : Int), v = .agg #[.int .i64 d, .int .i64 b, .int .i64 p, .slice A n c, .int .i64 fu, .int .i64 ke, .bool off, .int .i64 op] := FlOwn.agg8 h
theorem FxOwn.reads {w : World} {lo hi : Nat} {v : Value} {F : Fl} (h : FxOwn w lo hi v F) : FxIn w hi v F := (FlOwn.reads h).low
theorem szFxM_any (v : Value) (F : Fl) (w : World) (hi : Nat) (m : Int) (h : FxIn w hi v F) (hh : hi ≤ w.heap.size) (h0 : 0 ≤ m) (h1 : m ≤ 1048576) :
    Calls Try.prog 55 #[v, .int .i64 m] w (LeftPost m (F.bs.length + szB F.bs) w) := szFlashM_any v F w hi m h hh h0 h1
theorem toFx_any (v : Value) (F : Fl) (w : World) (hi : Nat) (h : FxIn w hi v F) (hh : hi ≤ w.heap.size) (hz : FxSz F) :
    Calls Try.prog 57 #[v] w fun e w' => ∃ u, e = .returned u ∧ FxOwn w' w.heap.size w'.heap.size u F ∧ Below w.heap.size w w' := toFlash_any v F w hi h hh hz
theorem eqFx_any (u v : Value) (F : Fl) (w : World) (hi hi' : Nat) (hu : FxIn w hi u F) (hv : FxIn w hi' v F) (h1 : hi ≤ w.heap.size) (h2 : hi' ≤ w.heap.size) (hz : FxSz F) :
    Calls Try.prog 59 #[u, v] w fun e w' => e = .returned (.bool true) ∧ Below w.heap.size w w' := eqFlash_any u v F w 0 hi 0 hi' hu hv h1 h2 hz
end Go.Proofs.Ytgamoiagpglcmaa
