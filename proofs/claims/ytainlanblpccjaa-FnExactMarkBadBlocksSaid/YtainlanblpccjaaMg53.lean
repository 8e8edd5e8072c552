/- The proof's own lemmas, part 54: FlSz SmZ FlU_. -/
import Derived.Test.YtainlanblpccjaaMg5
import Derived.Test.YtainlanblpccjaaMg52
import Derived.Test.YtainlanblpccjaaProg
import Derived.Test.YtainlanblpccjaaMg17
import Derived.Test.YtainlanblpccjaaMg11
/- An array that fits has not too many blocks and pages. -/
namespace Go.Proofs.Ytainlanblpccjaa
open Go.RowKit
theorem FlIn.agg8 {w : World} {lo hi : Nat} {v : Value} {F : Fl} (h : FlIn w lo hi v F) : ∃ (d b p : Int) (A : Option Addr) (n c : Nat) (fu ke : Int) (off : Bool) (op : Int), v = .agg #[.int .i64 d, .int .i64 b, .int .i64 p, .slice A n c, .int .i64 fu, .int .i64 ke, .bool off, .int .i64 op] := by
  obtain ⟨u, rfl, A, n, c, rfl, _⟩ := h; exact ⟨_, _, _, _, _, _, _, _, _, _, rfl⟩
theorem FlOwn.agg8 {w : World} {lo hi : Nat} {v : Value} {F : Fl} (h : FlOwn w lo hi v F) : ∃ (d b p : Int) (A : Option Addr) (n c : Nat) (fu ke : Int) (off : Bool) (op : Int), v = .agg #[.int .i64 d, .int .i64 b, .int .i64 p, .slice A n c, .int .i64 fu, .int .i64 ke, .bool off, .int .i64 op] := h.reads.agg8
theorem FlSz.lens {F : Fl} (h : FlSz F) : FlLen F := ⟨by unfold FlSz at h; omega, fun i hi => (h.pages hi).1⟩
end Go.Proofs.Ytainlanblpccjaa
/- The laws' helper szFlash, with what is left of the bound. -/
namespace Go.Proofs.Ytainlanblpccjaa
open Go.RowKit
set_option linter.unusedVariables false
theorem szFlashM_any (v : Value) (F : Fl) (w : World) (hi : Nat) (m : Int) (h : FlIn w 0 hi v F) (hh : hi ≤ w.heap.size) (h0 : 0 ≤ m) (h1 : m ≤ 1048576) :
    Calls Try.prog 44 #[v, .int .i64 m] w (LeftPost m (F.bs.length + szB F.bs) w) := by
  obtain ⟨u, rfl, h⟩ := h
  obtain ⟨d, b, p, bs, fu, ke, off, op⟩ := F
  simp only at h
  have HS := Lib.hid (fun (W : World) (hW : BksIn W 0 hi u bs) (hs : hi ≤ W.heap.size) => szBlocks_any u bs W 0 hi m hW hs h0 h1)
  have H := Lib.hid h
  clear h
  unfold flc
  simp only
  generalize bs.length + szB bs = t at *
  go_enter Try.func44, Try.ntmps44
  go_wp2_with fail
  refine (HS.out _ (H.out.same (sm ((Below.refl w.heap.size w).alloc (Nat.le_refl _) _) 0 hh)) (by simp; omega)).mono ?_
  rintro e w1 ⟨y, rfl, hy, hb⟩
  have HB := Lib.hid (((Below.refl w.heap.size w).alloc (Nat.le_refl _) (.cells #[.int .i64 d, .int .i64 b, .int .i64 p, u, .int .i64 fu, .int .i64 ke, .bool off, .int .i64 op] 62)).trans (hb.mono (by simp)))
  clear hb
  by_cases hneg : y < 0
  · go_wp2
    go_ret
    rcases hy with hy | hy
    · omega
    · exact ⟨_, rfl, .inr ⟨hy.1, rfl⟩, HB.out⟩
  · have hn : ¬ y < 0 := hneg
    go_wp2
    go_ret
    exact ⟨_, rfl, hy, HB.out⟩
end Go.Proofs.Ytainlanblpccjaa
/- Arrays as arguments and results of a law: the laws' helpers in the shape that all kinds share. -/
namespace Go.Proofs.Ytainlanblpccjaa
open Go.RowKit
set_option linter.unusedVariables false
def FxIn (w : World) (hi : Nat) (v : Value) (F : Fl) : Prop := FlIn w 0 hi v F
def FxOwn (w : World) (lo hi : Nat) (v : Value) (F : Fl) : Prop := FlOwn w lo hi v F
def FxSz (F : Fl) : Prop := F.bs.length + szB F.bs ≤ 1048576
abbrev FxW (F : Fl) : Prop := True
theorem PgIn.low {w : World} {lo hi : Nat} {v : Value} {L : List ByteArray} (h : PgIn w lo hi v L) : PgIn w 0 hi v L := by
  obtain ⟨A, n, c, e, h1, h2, h3, h4, h5⟩ := h
  refine ⟨A, n, c, e, h1, h2, h3, h4, fun h0 => ?_⟩
  obtain ⟨b, o, e, _, q1, q2⟩ := h5 h0
  exact ⟨b, o, e, Nat.zero_le _, q1, q2⟩
theorem FlIn.low {w : World} {lo hi : Nat} {v : Value} {F : Fl} (h : FlIn w lo hi v F) : FlIn w 0 hi v F := by
  obtain ⟨u, e, A, n, c, e2, h1, h2, h3, h5⟩ := h
  refine ⟨u, e, A, n, c, e2, h1, h2, h3, fun h0 => ?_⟩
  obtain ⟨b, o, e, _, q1, q2⟩ := h5 h0
  refine ⟨b, o, e, Nat.zero_le _, q1, fun i hi => ?_⟩
  obtain ⟨pv, x1, x2⟩ := q2 i hi
  exact ⟨pv, x1, x2.low⟩
theorem FxIn.same {w w' : World} {hi : Nat} {v : Value} {F : Fl} (h : FxIn w hi v F) (hs : Same 0 hi w w') : FxIn w' hi v F := FlIn.same h hs
theorem FxOwn.same {w w' : World} {lo hi : Nat} {v : Value} {F : Fl} (h : FxOwn w lo hi v F) (hs : Same lo hi w w') : FxOwn w' lo hi v F := FlOwn.same h hs
theorem FxIn.agg8 {w : World} {hi : Nat} {v : Value} {F : Fl} (h : FxIn w hi v F) : ∃ (d b p : Int) (A : Option Addr) (n c : Nat) (fu ke : Int) (off : Bool) (op : Int), v = .agg #[.int .i64 d, .int .i64 b, .int .i64 p, .slice A n c, .int .i64 fu, .int .i64 ke, .bool off, .int .i64 op] := FlIn.agg8 h
theorem FxOwn.agg8 {w : World} {lo hi : Nat} {v : Value} {F : Fl} (h : FxOwn w lo hi v F) : ∃ (d b p : Int) (A : Option Addr) (n c : Nat) (fu ke : Int) (off : Bool) (op : Int), v = .agg #[.int .i64 d, .int .i64 b, .int .i64 p, .slice A n c, .int .i64 fu, .int .i64 ke, .bool off, .int .i64 op] := FlOwn.agg8 h
theorem FxOwn.reads {w : World} {lo hi : Nat} {v : Value} {F : Fl} (h : FxOwn w lo hi v F) : FxIn w hi v F := (FlOwn.reads h).low
theorem szFxM_any (v : Value) (F : Fl) (w : World) (hi : Nat) (m : Int) (h : FxIn w hi v F) (hh : hi ≤ w.heap.size) (h0 : 0 ≤ m) (h1 : m ≤ 1048576) :
    Calls Try.prog 44 #[v, .int .i64 m] w (LeftPost m (F.bs.length + szB F.bs) w) := szFlashM_any v F w hi m h hh h0 h1
theorem toFx_any (v : Value) (F : Fl) (w : World) (hi : Nat) (h : FxIn w hi v F) (hh : hi ≤ w.heap.size) (hz : FxSz F) :
    Calls Try.prog 46 #[v] w fun e w' => ∃ u, e = .returned u ∧ FxOwn w' w.heap.size w'.heap.size u F ∧ Below w.heap.size w w' := toFlash_any v F w hi h hh hz
theorem eqFx_any (u v : Value) (F : Fl) (w : World) (hi hi' : Nat) (hu : FxIn w hi u F) (hv : FxIn w hi' v F) (h1 : hi ≤ w.heap.size) (h2 : hi' ≤ w.heap.size) (hz : FxSz F) :
    Calls Try.prog 48 #[u, v] w fun e w' => e = .returned (.bool true) ∧ Below w.heap.size w w' := eqFlash_any u v F w 0 hi 0 hi' hu hv h1 h2 hz
end Go.Proofs.Ytainlanblpccjaa
