/- The proof's own lemmas, part 16: Lu WeKk. -/
import Derived.Test.YtgamoiagpglcmaaProg
import Derived.Test.YtgamoiagpglcmaaMg12
import Derived.Test.YtgamoiagpglcmaaMg14
import Derived.Test.YtgamoiagpglcmaaMg11
import Derived.Test.YtgamoiagpglcmaaMg10
import Derived.Test.YtgamoiagpglcmaaMg13
/- Lists of int64 and of bool as arguments and results of a law: the laws' helpers in the shape that all kinds share. -/
namespace Go.Proofs.Ytgamoiagpglcmaa
open Go.RowKit
set_option linter.unusedVariables false
abbrev LiIn (w : World) (hi : Nat) (v : Value) (L : List Int) : Prop := NI w hi v L
abbrev LiOwn (w : World) (lo hi : Nat) (v : Value) (L : List Int) : Prop := IO w lo hi v L
def LiSz (L : List Int) : Prop := L.length ≤ 1048576
abbrev LiW (L : List Int) : Prop := WfL L
def nLi (L : List Int) : Nat := L.length
def markLiD (k0 : Nat) (L : List Int) : List Int := mkL (k0 : Int) L.length
abbrev BoIn (w : World) (hi : Nat) (v : Value) (L : List Bool) : Prop := NB w hi v L
abbrev BoOwn (w : World) (lo hi : Nat) (v : Value) (L : List Bool) : Prop := BW w lo hi v L
def BoSz (L : List Bool) : Prop := L.length ≤ 1048576
abbrev BoW (L : List Bool) : Prop := True
def nBo (L : List Bool) : Nat := L.length
def markBoD (k0 : Nat) (L : List Bool) : List Bool := mkB k0 L.length
theorem NI.agg_ {w : World} {hi : Nat} {v : Value} {L : List Int} (h : NI w hi v L) : ∃ (A : Option Addr) (n c : Nat), v = .slice A n c := h.slice
theorem NB.agg_ {w : World} {hi : Nat} {v : Value} {L : List Bool} (h : NB w hi v L) : ∃ (A : Option Addr) (n c : Nat), v = .slice A n c := h.slice
theorem IO.agg_ {w : World} {lo hi : Nat} {v : Value} {L : List Int} (h : IO w lo hi v L) : ∃ (A : Option Addr) (n c : Nat), v = .slice A n c := h.reads.slice
theorem BW.agg_ {w : World} {lo hi : Nat} {v : Value} {L : List Bool} (h : BW w lo hi v L) : ∃ (A : Option Addr) (n c : Nat), v = .slice A n c := h.reads.slice
theorem NI.len_ {w : World} {hi : Nat} {A : Option Addr} {n c : Nat} {L : List Int} (h : NI w hi (.slice A n c) L) : L.length = n ∧ n ≤ 9223372036854775807 := by
  obtain ⟨_, _, _, e, q1, q2, q3, _⟩ := h; injection e with z1 z2 z3; omega
theorem NB.len_ {w : World} {hi : Nat} {A : Option Addr} {n c : Nat} {L : List Bool} (h : NB w hi (.slice A n c) L) : L.length = n ∧ n ≤ 9223372036854775807 := by
  obtain ⟨_, _, _, e, q1, q2, q3, _⟩ := h; injection e with z1 z2 z3; omega
/-- A call that leaves memory as it was. -/
theorem Calls.calm {P : Program} {f : FuncId} {args : Array Value} {w : World} {r : Value} (h : Calls P f args w fun e w' => e = .returned r ∧ w = w') : Calls P f args w fun e w' => e = .returned r ∧ Below w.heap.size w w' :=
  h.mono fun e w' q => ⟨q.1, by rw [← q.2]; exact Below.refl _ _⟩
theorem toLi_any (v : Value) (L : List Int) (w : World) (hi : Nat) (h : NI w hi v L) (hh : hi ≤ w.heap.size) (hz : LiSz L) :
    Calls Try.prog 73 #[v] w fun e w' => ∃ u, e = .returned u ∧ IO w' w.heap.size w'.heap.size u L ∧ Below w.heap.size w w' :=
  (toInts_any v L w (h.intsR hh) hz).mono fun e w' ⟨u, q, ho, hb⟩ => ⟨u, q, IO.mk_ ho, hb⟩
theorem eqLi_any (u v : Value) (L : List Int) (w : World) (hi hi' : Nat) (hu : NI w hi u L) (hv : NI w hi' v L) (h1 : hi ≤ w.heap.size) (h2 : hi' ≤ w.heap.size) (hz : LiSz L) :
    Calls Try.prog 77 #[u, v] w fun e w' => e = .returned (.bool true) ∧ Below w.heap.size w w' := eqInts_any u v L w (hu.ints h1) (hv.ints h2) hz
theorem toBo_any (v : Value) (L : List Bool) (w : World) (hi : Nat) (h : NB w hi v L) (hh : hi ≤ w.heap.size) (hz : BoSz L) :
    Calls Try.prog 74 #[v] w fun e w' => ∃ u, e = .returned u ∧ BW w' w.heap.size w'.heap.size u L ∧ Below w.heap.size w w' :=
  (toBools_any v L w (h.boolsR hh) hz).mono fun e w' ⟨u, q, ho, hb⟩ => ⟨u, q, BW.mk_ ho, hb⟩
theorem eqBo_any (u v : Value) (L : List Bool) (w : World) (hi hi' : Nat) (hu : NB w hi u L) (hv : NB w hi' v L) (h1 : hi ≤ w.heap.size) (h2 : hi' ≤ w.heap.size) (hz : BoSz L) :
    Calls Try.prog 78 #[u, v] w fun e w' => e = .returned (.bool true) ∧ Below w.heap.size w w' := eqBools_any u v L w (hu.bools h1) (hv.bools h2) hz
theorem mkLi_any (v : Value) (M : List Int) (k0 : Nat) (w : World) (lo hi : Nat) (h : IO w lo hi v M) (hl : lo ≤ hi) (hh : hi ≤ w.heap.size) (hz : LiSz M) (hk : k0 ≤ 3200000) :
    Calls Try.prog 79 #[v, .int .i64 (k0 : Int)] w fun e w' => e = .returned (.int .i64 ((k0 + nLi M : Nat) : Int)) ∧ IO w' lo hi v (markLiD k0 M) ∧ Kp lo hi w w' :=
  (markIntsK_any lo v M k0 w h.1 hz (by omega)).mono fun e w' ⟨q, ho, hg, hb⟩ => ⟨q, ⟨ho, h.2⟩, hb, fun j h1 h2 => hg.block j h2 (fun e => by have := h.2 j e.symm; omega)⟩
theorem hdLi_any (v : Value) (M : List Int) (k0 : Nat) (w : World) (hi : Nat) (h : NI w hi v (markLiD k0 M)) (hh : hi ≤ w.heap.size) (hz : LiSz M) (hk : k0 ≤ 3200000) :
    Calls Try.prog 81 #[v, .int .i64 (k0 : Int)] w fun e w' => e = .returned (.int .i64 ((k0 + nLi M : Nat) : Int)) ∧ Below w.heap.size w w' :=
  Calls.calm (heldIntsK_any v k0 M.length w (h.ints hh) hz (by omega))
theorem mkBo_any (v : Value) (M : List Bool) (k0 : Nat) (w : World) (lo hi : Nat) (h : BW w lo hi v M) (hl : lo ≤ hi) (hh : hi ≤ w.heap.size) (hz : BoSz M) (hk : k0 ≤ 3200000) :
    Calls Try.prog 80 #[v, .int .i64 (k0 : Int)] w fun e w' => e = .returned (.int .i64 ((k0 + nBo M : Nat) : Int)) ∧ BW w' lo hi v (markBoD k0 M) ∧ Kp lo hi w w' :=
  (markBoolsK_any lo v M k0 w h.1 hz (by omega)).mono fun e w' ⟨q, ho, hg, hb⟩ => ⟨q, ⟨ho, h.2⟩, hb, fun j h1 h2 => hg.block j h2 (fun e => by have := h.2 j e.symm; omega)⟩
theorem hdBo_any (v : Value) (M : List Bool) (k0 : Nat) (w : World) (hi : Nat) (h : NB w hi v (markBoD k0 M)) (hh : hi ≤ w.heap.size) (hz : BoSz M) (hk : k0 ≤ 3200000) :
    Calls Try.prog 82 #[v, .int .i64 (k0 : Int)] w fun e w' => e = .returned (.int .i64 ((k0 + nBo M : Nat) : Int)) ∧ Below w.heap.size w w' :=
  Calls.calm (heldBoolsK_any v k0 M.length w (h.bools hh) hz (by omega))
end Go.Proofs.Ytgamoiagpglcmaa
/- The laws' helpers markWear and heldWear: their contracts. -/
namespace Go.Proofs.Ytgamoiagpglcmaa
open Go.RowKit
set_option linter.unusedVariables false
set_option linter.unusedSimpArgs false
def markWeD (k0 : Nat) (M : We) : We := ⟨mkL ((k0 : Nat) : Int) M.e.length, mkB (k0 + M.e.length) M.b.length, mkL ((k0 + M.e.length + M.b.length : Nat) : Int) M.c.length, M.n⟩
theorem markWeD_sz {k0 : Nat} {M : We} (h : WeSz M) : WeSz (markWeD k0 M) := by unfold WeSz markWeD; simp only [mkL_length, mkB_length]; exact h
def nWe (M : We) : Nat := M.e.length + M.b.length + M.c.length
set_option maxHeartbeats 1000000 in
theorem mkWe_any (v : Value) (M : We) (k0 : Nat) (w : World) (lo hi : Nat) (h : WeOwn w lo hi v M) (hl : lo ≤ hi) (hh : hi ≤ w.heap.size) (hz : WeSz M) (hk : k0 ≤ 2000000) :
    Calls Try.prog 20 #[v, .int .i64 (k0 : Int)] w fun e w' => e = .returned (.int .i64 ((k0 + nWe M : Nat) : Int)) ∧ WeOwn w' lo hi v (markWeD k0 M) ∧ Kp lo hi w w' := by
  obtain ⟨a0, a1, a2, rfl, h0, h1, h2, d01, d02, d12⟩ := h
  unfold WeSz at hz
  unfold nWe
  obtain ⟨q0, hq0⟩ : ∃ q : Nat, q = k0 + M.e.length := ⟨_, rfl⟩
  obtain ⟨q1, hq1⟩ : ∃ q : Nat, q = q0 + M.b.length := ⟨_, rfl⟩
  obtain ⟨q2, hq2⟩ : ∃ q : Nat, q = q1 + M.c.length := ⟨_, rfl⟩
  have HA0 := Lib.hid (fun (W : World) (q : IntsOwn W lo a0 M.e) => show Calls _ _ _ W (fun e w' => e = .returned (.int .i64 (q0 : Int)) ∧ IntsOwn w' lo a0 (mkL ((k0 : Nat) : Int) M.e.length) ∧ W.grownBy w' a0.ownBlock ∧ Below lo W w') from by rw [hq0]; exact markIntsK_any lo a0 M.e k0 W q (by omega) (by omega))
  have HA1 := Lib.hid (fun (W : World) (q : BoolsOwn W lo a1 M.b) => show Calls _ _ _ W (fun e w' => e = .returned (.int .i64 (q1 : Int)) ∧ BoolsOwn w' lo a1 (mkB (q0) M.b.length) ∧ W.grownBy w' a1.ownBlock ∧ Below lo W w') from by rw [hq1]; exact markBoolsK_any lo a1 M.b q0 W q (by omega) (by omega))
  have HA2 := Lib.hid (fun (W : World) (q : IntsOwn W lo a2 M.c) => show Calls _ _ _ W (fun e w' => e = .returned (.int .i64 (q2 : Int)) ∧ IntsOwn w' lo a2 (mkL ((q1 : Nat) : Int) M.c.length) ∧ W.grownBy w' a2.ownBlock ∧ Below lo W w') from by rw [hq2]; exact markIntsK_any lo a2 M.c q1 W q (by omega) (by omega))
  have H0 := Lib.hid h0
  have H1 := Lib.hid h1
  have H2 := Lib.hid h2
  have D01 := Lib.hid d01
  have D02 := Lib.hid d02
  have D12 := Lib.hid d12
  have HQ := Lib.hid (show q2 = k0 + (M.e.length + M.b.length + M.c.length) ∧ markWeD k0 M = ⟨mkL ((k0 : Nat) : Int) M.e.length, mkB (q0) M.b.length, mkL ((q1 : Nat) : Int) M.c.length, M.n⟩ by unfold markWeD; subst hq0 hq1 hq2; exact ⟨by omega, rfl⟩)
  have hb0 : (q0 : Int) ≤ 4400000 := by omega
  have hb1 : (q1 : Int) ≤ 4400000 := by omega
  have hb2 : (q2 : Int) ≤ 4400000 := by omega
  have hk0 : (k0 : Int) ≤ 3200000 := by omega
  have hpc : wec M a0 a1 a2 = #[a0, a1, a2, .int .i64 M.n] := rfl
  rw [hpc]
  have r0 := Rw.new w 27 #[a0, a1, a2, .int .i64 M.n]
  have b0 := (Below.refl w.heap.size w).alloc (Nat.le_refl _) (.cells #[a0, a1, a2, .int .i64 M.n] 27)
  have K := Lib.hid (show Kp lo hi w (w.alloc (.cells #[a0, a1, a2, .int .i64 M.n] 27)) from ⟨b0.mono (by omega), sm b0 hi (Nat.le_refl _)⟩)
  have A0 := Lib.hid (h0.same (sm b0 lo hh))
  have A1 := Lib.hid (h1.same (sm b0 lo hh))
  have A2 := Lib.hid (h2.same (sm b0 lo hh))
  have R := Lib.hid r0
  have HNE := Lib.hid (show ∀ (o : Option Nat), (∀ k, o = some k → k < hi) → some w.heap.size ≠ o from fun o ho e => by have := ho _ e.symm; omega)
  obtain ⟨c0, c1, c2, c3⟩ := r0.four
  clear h0 h1 h2 b0 r0 hz hk hpc d01 d02 d12 hq0 hq1 hq2
  go_enter Try.func20, Try.ntmps20
  go_wp2_with fail
  refine (HA0.out _ A0.out.1).mono ?_
  rintro e w1 ⟨rfl, ho, hg, hb⟩
  have K' := Lib.hid (K.out.grown hg hb (fun k e => ⟨(H0.out.1.blockOf e).1, H0.out.2 k e⟩))
  clear K
  have K := K'
  clear K'
  have R' := Lib.hid (grownRw R.out hg (HNE.out _ H0.out.2))
  clear R
  have R := R'
  clear R'
  clear A0
  have A0 := Lib.hid (show IO w1 lo hi a0 (mkL ((k0 : Nat) : Int) M.e.length) from ⟨ho, H0.out.2⟩)
  have A1' := Lib.hid (show BW w1 lo hi a1 _ from ⟨A1.out.1.kept hg (own_ne D01.out), A1.out.2⟩)
  clear A1
  have A1 := A1'
  clear A1'
  have A2' := Lib.hid (show IO w1 lo hi a2 _ from ⟨A2.out.1.kept hg (own_ne D02.out), A2.out.2⟩)
  clear A2
  have A2 := A2'
  clear A2'
  clear c0 c1 c2 c3 ho hg hb HA0
  obtain ⟨c0, c1, c2, c3⟩ := R.out.four
  go_wp2_with fail
  refine (HA1.out _ A1.out.1).mono ?_
  rintro e w2 ⟨rfl, ho, hg, hb⟩
  have K' := Lib.hid (K.out.grown hg hb (fun k e => ⟨(H1.out.1.blockOf e).1, H1.out.2 k e⟩))
  clear K
  have K := K'
  clear K'
  have R' := Lib.hid (grownRw R.out hg (HNE.out _ H1.out.2))
  clear R
  have R := R'
  clear R'
  clear A1
  have A1 := Lib.hid (show BW w2 lo hi a1 (mkB (q0) M.b.length) from ⟨ho, H1.out.2⟩)
  have A0' := Lib.hid (show IO w2 lo hi a0 _ from ⟨A0.out.1.kept hg (D01.out), A0.out.2⟩)
  clear A0
  have A0 := A0'
  clear A0'
  have A2' := Lib.hid (show IO w2 lo hi a2 _ from ⟨A2.out.1.kept hg (own_ne D12.out), A2.out.2⟩)
  clear A2
  have A2 := A2'
  clear A2'
  clear c0 c1 c2 c3 ho hg hb HA1
  obtain ⟨c0, c1, c2, c3⟩ := R.out.four
  go_wp2_with fail
  refine (HA2.out _ A2.out.1).mono ?_
  rintro e w3 ⟨rfl, ho, hg, hb⟩
  have K' := Lib.hid (K.out.grown hg hb (fun k e => ⟨(H2.out.1.blockOf e).1, H2.out.2 k e⟩))
  clear K
  have K := K'
  clear K'
  have R' := Lib.hid (grownRw R.out hg (HNE.out _ H2.out.2))
  clear R
  have R := R'
  clear R'
  clear A2
  have A2 := Lib.hid (show IO w3 lo hi a2 (mkL ((q1 : Nat) : Int) M.c.length) from ⟨ho, H2.out.2⟩)
  have A0' := Lib.hid (show IO w3 lo hi a0 _ from ⟨A0.out.1.kept hg (D02.out), A0.out.2⟩)
  clear A0
  have A0 := A0'
  clear A0'
  have A1' := Lib.hid (show BW w3 lo hi a1 _ from ⟨A1.out.1.kept hg (D12.out), A1.out.2⟩)
  clear A1
  have A1 := A1'
  clear A1'
  clear c0 c1 c2 c3 ho hg hb HA2
  obtain ⟨c0, c1, c2, c3⟩ := R.out.four
  go_wp2
  go_ret
  refine ⟨by rw [HQ.out.1] <;> rfl, ?_, K.out⟩
  rw [HQ.out.2]
  exact ⟨a0, a1, a2, rfl, A0.out, A1.out, A2.out, D01.out, D02.out, D12.out⟩
set_option maxHeartbeats 1000000 in
theorem hdWe_any (v : Value) (M : We) (k0 : Nat) (w : World) (hi : Nat) (h : WeIn w hi v (markWeD k0 M)) (hh : hi ≤ w.heap.size) (hz : WeSz M) (hk : k0 ≤ 2000000) :
    Calls Try.prog 21 #[v, .int .i64 (k0 : Int)] w fun e w' => e = .returned (.int .i64 ((k0 + nWe M : Nat) : Int)) ∧ Below w.heap.size w w' := by
  obtain ⟨a0, a1, a2, rfl, h0, h1, h2⟩ := h
  unfold WeSz at hz
  unfold nWe
  unfold markWeD at h0 h1 h2
  simp only at h0 h1 h2
  obtain ⟨q0, hq0⟩ : ∃ q : Nat, q = k0 + M.e.length := ⟨_, rfl⟩
  obtain ⟨q1, hq1⟩ : ∃ q : Nat, q = q0 + M.b.length := ⟨_, rfl⟩
  obtain ⟨q2, hq2⟩ : ∃ q : Nat, q = q1 + M.c.length := ⟨_, rfl⟩
  have HA0 := Lib.hid (fun (W : World) (q : NI W hi a0 (mkL ((k0 : Nat) : Int) M.e.length)) (c : hi ≤ W.heap.size) => show Calls _ _ _ W (fun e w' => e = .returned (.int .i64 (q0 : Int)) ∧ W = w') from by rw [hq0]; exact heldIntsK_any a0 k0 M.e.length W (q.ints c) (by omega) (by omega))
  have hs1 : k0 + M.e.length = q0 := by omega
  rw [hs1] at h1
  have HA1 := Lib.hid (fun (W : World) (q : NB W hi a1 (mkB (q0) M.b.length)) (c : hi ≤ W.heap.size) => show Calls _ _ _ W (fun e w' => e = .returned (.int .i64 (q1 : Int)) ∧ W = w') from by rw [hq1]; exact heldBoolsK_any a1 q0 M.b.length W (q.bools c) (by omega) (by omega))
  have hs2 : k0 + M.e.length + M.b.length = q1 := by omega
  rw [hs2] at h2
  have HA2 := Lib.hid (fun (W : World) (q : NI W hi a2 (mkL ((q1 : Nat) : Int) M.c.length)) (c : hi ≤ W.heap.size) => show Calls _ _ _ W (fun e w' => e = .returned (.int .i64 (q2 : Int)) ∧ W = w') from by rw [hq2]; exact heldIntsK_any a2 q1 M.c.length W (q.ints c) (by omega) (by omega))
  have HQ := Lib.hid (show q2 = k0 + (M.e.length + M.b.length + M.c.length) by omega)
  have r0 := Rw.new w 27 #[a0, a1, a2, .int .i64 M.n]
  have b0 := (Below.refl w.heap.size w).alloc (Nat.le_refl _) (.cells #[a0, a1, a2, .int .i64 M.n] 27)
  have hb0 : (q0 : Int) ≤ 4400000 := by omega
  have hc0 : ¬ ((q0 : Int) < 0) := by omega
  have hb1 : (q1 : Int) ≤ 4400000 := by omega
  have hc1 : ¬ ((q1 : Int) < 0) := by omega
  have hb2 : (q2 : Int) ≤ 4400000 := by omega
  have hc2 : ¬ ((q2 : Int) < 0) := by omega
  have hk0 : (k0 : Int) ≤ 3200000 := by omega
  have A0 := Lib.hid (h0.below b0 hh)
  have A1 := Lib.hid (h1.below b0 hh)
  have A2 := Lib.hid (h2.below b0 hh)
  have BB := Lib.hid b0
  show Calls _ _ #[.agg #[a0, a1, a2, .int .i64 M.n], _] _ _
  obtain ⟨c0, c1, c2, c3⟩ := r0.four
  clear h0 h1 h2 b0 r0 hz hk hq0 hq1 hq2 hs1 hs2
  go_enter Try.func21, Try.ntmps21
  go_wp2_with fail
  refine (HA0.out _ A0.out (by simp; omega)).mono ?_
  rintro e w1 ⟨rfl, rfl⟩
  go_wp2_with fail
  refine (HA1.out _ A1.out (by simp; omega)).mono ?_
  rintro e w2 ⟨rfl, rfl⟩
  go_wp2_with fail
  refine (HA2.out _ A2.out (by simp; omega)).mono ?_
  rintro e w3 ⟨rfl, rfl⟩
  go_wp2
  go_ret
  exact ⟨by rw [HQ.out] <;> rfl, BB.out⟩
end Go.Proofs.Ytgamoiagpglcmaa
