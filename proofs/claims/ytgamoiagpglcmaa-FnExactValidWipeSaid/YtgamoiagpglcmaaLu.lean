/- Lists of int64 and of bool as arguments and results of a law: the laws' helpers in the shape that all kinds share. -/
import Derived.Test.YtgamoiagpglcmaaProg
import Derived.Test.YtgamoiagpglcmaaPmM
import Derived.Test.YtgamoiagpglcmaaPmK
import Derived.Test.YtgamoiagpglcmaaIntsK
import Derived.Test.YtgamoiagpglcmaaBoo
import Derived.Test.YtgamoiagpglcmaaTbO
namespace Go.Proofs.Ytgamoiagpglcmaa
open Go.RowKit
set_option linter.unusedVariables false
abbrev LiIn (w : World) (hi : Nat) (v : Value) (L : List Int) : Prop := NI w hi v L
abbrev LiOwn (w : World) (lo hi : Nat) (v : Value) (L : List Int) : Prop := IO w lo hi v L
def LiSz (L : List Int) : Prop := L.length ≤ 1048576
abbrev LiW (L : List Int) : Prop := WfL L
def nLi (L : List Int) : Nat := L.length
def markLiD (k0 : Nat) (L : List Int) : List Int := mkL (k0 : Int) L.length
abbrev BoIn (w : World) (hi : Nat) (v : Value) (L : List Bool) : Prop := NB w hi v L
abbrev BoOwn (w : World) (lo hi : Nat) (v : Value) (L : List Bool) : Prop := BW w lo hi v L
def BoSz (L : List Bool) : Prop := L.length ≤ 1048576
abbrev BoW (L : List Bool) : Prop := True
def nBo (L : List Bool) : Nat := L.length
def markBoD (k0 : Nat) (L : List Bool) : List Bool := mkB k0 L.length
theorem NI.agg_ {w : World} {hi : Nat} {v : Value} {L : List Int} (h : NI w hi v L) : ∃ (A : Option Addr) (n c : Nat), v = .slice A n c := h.slice
theorem NB.agg_ {w : World} {hi : Nat} {v : Value} {L : List Bool} (h : NB w hi v L) : ∃ (A : Option Addr) (n c : Nat), v = .slice A n c := h.slice
theorem IO.agg_ {w : World} {lo hi : Nat} {v : Value} {L : List Int} (h : IO w lo hi v L) : ∃ (A : Option Addr) (n c : Nat), v = .slice A n c := h.reads.slice
theorem BW.agg_ {w : World} {lo hi : Nat} {v : Value} {L : List Bool} (h : BW w lo hi v L) : ∃ (A : Option Addr) (n c : Nat), v = .slice A n c := h.reads.slice
theorem NI.len_ {w : World} {hi : Nat} {A : Option Addr} {n c : Nat} {L : List Int} (h : NI w hi (.slice A n c) L) : L.length = n ∧ n ≤ 9223372036854775807 := by
  obtain ⟨_, _, _, e, q1, q2, q3, _⟩ := h; injection e with z1 z2 z3; omega
theorem NB.len_ {w : World} {hi : Nat} {A : Option Addr} {n c : Nat} {L : List Bool} (h : NB w hi (.slice A n c) L) : L.length = n ∧ n ≤ 9223372036854775807 := by
  obtain ⟨_, _, _, e, q1, q2, q3, _⟩ := h; injection e with z1 z2 z3; omega
/-- A call that leaves memory as it was. -/
theorem Calls.calm {P : Program} {f : FuncId} {args : Array Value} {w : World} {r : Value} (h : Calls P f args w fun e w' => e = .returned r ∧ w = w') : Calls P f args w fun e w' => e = .returned r ∧ Below w.heap.size w w' :=
  h.mono fun e w' q => ⟨q.1, by rw [← q.2]; exact Below.refl _ _⟩
theorem toLi_any (v : Value) (L : List Int) (w : World) (hi : Nat) (h : NI w hi v L) (hh : hi ≤ w.heap.size) (hz : LiSz L) :
    Calls Try.prog 73 #[v] w fun e w' => ∃ u, e = .returned u ∧ IO w' w.heap.size w'.heap.size u L ∧ Below w.heap.size w w' :=
  (toInts_any v L w (h.intsR hh) hz).mono fun e w' ⟨u, q, ho, hb⟩ => ⟨u, q, IO.mk_ ho, hb⟩
theorem eqLi_any (u v : Value) (L : List Int) (w : World) (hi hi' : Nat) (hu : NI w hi u L) (hv : NI w hi' v L) (h1 : hi ≤ w.heap.size) (h2 : hi' ≤ w.heap.size) (hz : LiSz L) :
    Calls Try.prog 77 #[u, v] w fun e w' => e = .returned (.bool true) ∧ Below w.heap.size w w' := eqInts_any u v L w (hu.ints h1) (hv.ints h2) hz
theorem toBo_any (v : Value) (L : List Bool) (w : World) (hi : Nat) (h : NB w hi v L) (hh : hi ≤ w.heap.size) (hz : BoSz L) :
    Calls Try.prog 74 #[v] w fun e w' => ∃ u, e = .returned u ∧ BW w' w.heap.size w'.heap.size u L ∧ Below w.heap.size w w' :=
  (toBools_any v L w (h.boolsR hh) hz).mono fun e w' ⟨u, q, ho, hb⟩ => ⟨u, q, BW.mk_ ho, hb⟩
theorem eqBo_any (u v : Value) (L : List Bool) (w : World) (hi hi' : Nat) (hu : NB w hi u L) (hv : NB w hi' v L) (h1 : hi ≤ w.heap.size) (h2 : hi' ≤ w.heap.size) (hz : BoSz L) :
    Calls Try.prog 78 #[u, v] w fun e w' => e = .returned (.bool true) ∧ Below w.heap.size w w' := eqBools_any u v L w (hu.bools h1) (hv.bools h2) hz
theorem mkLi_any (v : Value) (M : List Int) (k0 : Nat) (w : World) (lo hi : Nat) (h : IO w lo hi v M) (hl : lo ≤ hi) (hh : hi ≤ w.heap.size) (hz : LiSz M) (hk : k0 ≤ 3200000) :
    Calls Try.prog 79 #[v, .int .i64 (k0 : Int)] w fun e w' => e = .returned (.int .i64 ((k0 + nLi M : Nat) : Int)) ∧ IO w' lo hi v (markLiD k0 M) ∧ Kp lo hi w w' :=
  (markIntsK_any lo v M k0 w h.1 hz (by omega)).mono fun e w' ⟨q, ho, hg, hb⟩ => ⟨q, ⟨ho, h.2⟩, hb, fun j h1 h2 => hg.block j h2 (fun e => by have := h.2 j e.symm; omega)⟩
theorem hdLi_any (v : Value) (M : List Int) (k0 : Nat) (w : World) (hi : Nat) (h : NI w hi v (markLiD k0 M)) (hh : hi ≤ w.heap.size) (hz : LiSz M) (hk : k0 ≤ 3200000) :
    Calls Try.prog 81 #[v, .int .i64 (k0 : Int)] w fun e w' => e = .returned (.int .i64 ((k0 + nLi M : Nat) : Int)) ∧ Below w.heap.size w w' :=
  Calls.calm (heldIntsK_any v k0 M.length w (h.ints hh) hz (by omega))
theorem mkBo_any (v : Value) (M : List Bool) (k0 : Nat) (w : World) (lo hi : Nat) (h : BW w lo hi v M) (hl : lo ≤ hi) (hh : hi ≤ w.heap.size) (hz : BoSz M) (hk : k0 ≤ 3200000) :
    Calls Try.prog 80 #[v, .int .i64 (k0 : Int)] w fun e w' => e = .returned (.int .i64 ((k0 + nBo M : Nat) : Int)) ∧ BW w' lo hi v (markBoD k0 M) ∧ Kp lo hi w w' :=
  (markBoolsK_any lo v M k0 w h.1 hz (by omega)).mono fun e w' ⟨q, ho, hg, hb⟩ => ⟨q, ⟨ho, h.2⟩, hb, fun j h1 h2 => hg.block j h2 (fun e => by have := h.2 j e.symm; omega)⟩
theorem hdBo_any (v : Value) (M : List Bool) (k0 : Nat) (w : World) (hi : Nat) (h : NB w hi v (markBoD k0 M)) (hh : hi ≤ w.heap.size) (hz : BoSz M) (hk : k0 ≤ 3200000) :
    Calls Try.prog 82 #[v, .int .i64 (k0 : Int)] w fun e w' => e = .returned (.int .i64 ((k0 + nBo M : Nat) : Int)) ∧ Below w.heap.size w w' :=
  Calls.calm (heldBoolsK_any v k0 M.length w (h.bools hh) hz (by omega))
end Go.Proofs.Ytgamoiagpglcmaa
