/- The proof's own lemmas, part 13: WeKk WxN HtN HtM. -/
import Derived.Test.YtainlanblpccjaaProg
import Derived.Test.YtainlanblpccjaaMg10
import Derived.Test.YtainlanblpccjaaMg11
import Derived.Test.YtainlanblpccjaaMg9
import Derived.Test.YtainlanblpccjaaMg2
import Derived.Test.YtainlanblpccjaaMg6
import Derived.RegionTactic
import Derived.Deep.RegionHeld3
/- The laws' helpers markWear and heldWear: their contracts. -/
namespace Go.Proofs.Ytainlanblpccjaa
open Go.RowKit
set_option linter.unusedVariables false
set_option linter.unusedSimpArgs false
def markWeD (k0 : Nat) (M : We) : We := ⟨mkL ((k0 : Nat) : Int) M.e.length, mkB (k0 + M.e.length) M.b.length, mkL ((k0 + M.e.length + M.b.length : Nat) : Int) M.c.length, M.n⟩
theorem markWeD_sz {k0 : Nat} {M : We} (h : WeSz M) : WeSz (markWeD k0 M) := by unfold WeSz markWeD; simp only [mkL_length, mkB_length]; exact h
def nWe (M : We) : Nat := M.e.length + M.b.length + M.c.length
set_option maxHeartbeats 1000000 in
theorem mkWe_any (v : Value) (M : We) (k0 : Nat) (w : World) (lo hi : Nat) (h : WeOwn w lo hi v M) (hl : lo ≤ hi) (hh : hi ≤ w.heap.size) (hz : WeSz M) (hk : k0 ≤ 2000000) :
    Calls Try.prog 20 #[v, .int .i64 (k0 : Int)] w fun e w' => e = .returned (.int .i64 ((k0 + nWe M : Nat) : Int)) ∧ WeOwn w' lo hi v (markWeD k0 M) ∧ Kp lo hi w w' := by
  obtain ⟨a0, a1, a2, rfl, h0, h1, h2, d01, d02, d12⟩ := h
  unfold WeSz at hz
  unfold nWe
  obtain ⟨q0, hq0⟩ : ∃ q : Nat, q = k0 + M.e.length := ⟨_, rfl⟩
  obtain ⟨q1, hq1⟩ : ∃ q : Nat, q = q0 + M.b.length := ⟨_, rfl⟩
  obtain ⟨q2, hq2⟩ : ∃ q : Nat, q = q1 + M.c.length := ⟨_, rfl⟩
  have HA0 := Lib.hid (fun (W : World) (q : IntsOwn W lo a0 M.e) => show Calls _ _ _ W (fun e w' => e = .returned (.int .i64 (q0 : Int)) ∧ IntsOwn w' lo a0 (mkL ((k0 : Nat) : Int) M.e.length) ∧ W.grownBy w' a0.ownBlock ∧ Below lo W w') from by rw [hq0]; exact markIntsK_any lo a0 M.e k0 W q (by omega) (by omega))
  have HA1 := Lib.hid (fun (W : World) (q : BoolsOwn W lo a1 M.b) => show Calls _ _ _ W (fun e w' => e = .returned (.int .i64 (q1 : Int)) ∧ BoolsOwn w' lo a1 (mkB (q0) M.b.length) ∧ W.grownBy w' a1.ownBlock ∧ Below lo W w') from by rw [hq1]; exact markBoolsK_any lo a1 M.b q0 W q (by omega) (by omega))
  have HA2 := Lib.hid (fun (W : World) (q : IntsOwn W lo a2 M.c) => show Calls _ _ _ W (fun e w' => e = .returned (.int .i64 (q2 : Int)) ∧ IntsOwn w' lo a2 (mkL ((q1 : Nat) : Int) M.c.length) ∧ W.grownBy w' a2.ownBlock ∧ Below lo W w') from by rw [hq2]; exact markIntsK_any lo a2 M.c q1 W q (by omega) (by omega))
  have H0 := Lib.hid h0
  have H1 := Lib.hid h1
  have H2 := Lib.hid h2
  have D01 := Lib.hid d01
  have D02 := Lib.hid d02
  have D12 := Lib.hid d12
  have HQ := Lib.hid (show q2 = k0 + (M.e.length + M.b.length + M.c.length) ∧ markWeD k0 M = ⟨mkL ((k0 : Nat) : Int) M.e.length, mkB (q0) M.b.length, mkL ((q1 : Nat) : Int) M.c.length, M.n⟩ by unfold markWeD; subst hq0 hq1 hq2; exact ⟨by omega, rfl⟩)
  have hb0 : (q0 : Int) ≤ 4400000 := by omega
  have hb1 : (q1 : Int) ≤ 4400000 := by omega
  have hb2 : (q2 : Int) ≤ 4400000 := by omega
  have hk0 : (k0 : Int) ≤ 3200000 := by omega
  have hpc : wec M a0 a1 a2 = #[a0, a1, a2, .int .i64 M.n] := rfl
  rw [hpc]
  have r0 := Rw.new w 27 #[a0, a1, a2, .int .i64 M.n]
  have b0 := (Below.refl w.heap.size w).alloc (Nat.le_refl _) (.cells #[a0, a1, a2, .int .i64 M.n] 27)
  have K := Lib.hid (show Kp lo hi w (w.alloc (.cells #[a0, a1, a2, .int .i64 M.n] 27)) from ⟨b0.mono (by omega), sm b0 hi (Nat.le_refl _)⟩)
  have A0 := Lib.hid (h0.same (sm b0 lo hh))
  have A1 := Lib.hid (h1.same (sm b0 lo hh))
  have A2 := Lib.hid (h2.same (sm b0 lo hh))
  have R := Lib.hid r0
  have HNE := Lib.hid (show ∀ (o : Option Nat), (∀ k, o = some k → k < hi) → some w.heap.size ≠ o from fun o ho e => by have := ho _ e.symm; omega)
  obtain ⟨c0, c1, c2, c3⟩ := r0.four
  clear h0 h1 h2 b0 r0 hz hk hpc d01 d02 d12 hq0 hq1 hq2
  go_enter Try.func20, Try.ntmps20
  go_wp2_with fail
  refine (HA0.out _ A0.out.1).mono ?_
  rintro e w1 ⟨rfl, ho, hg, hb⟩
  have K' := Lib.hid (K.out.grown hg hb (fun k e => ⟨(H0.out.1.blockOf e).1, H0.out.2 k e⟩))
  clear K
  have K := K'
  clear K'
  have R' := Lib.hid (grownRw R.out hg (HNE.out _ H0.out.2))
  clear R
  have R := R'
  clear R'
  clear A0
  have A0 := Lib.hid (show IO w1 lo hi a0 (mkL ((k0 : Nat) : Int) M.e.length) from ⟨ho, H0.out.2⟩)
  have A1' := Lib.hid (show BW w1 lo hi a1 _ from ⟨A1.out.1.kept hg (own_ne D01.out), A1.out.2⟩)
  clear A1
  have A1 := A1'
  clear A1'
  have A2' := Lib.hid (show IO w1 lo hi a2 _ from ⟨A2.out.1.kept hg (own_ne D02.out), A2.out.2⟩)
  clear A2
  have A2 := A2'
  clear A2'
  clear c0 c1 c2 c3 ho hg hb HA0
  obtain ⟨c0, c1, c2, c3⟩ := R.out.four
  go_wp2_with fail
  refine (HA1.out _ A1.out.1).mono ?_
  rintro e w2 ⟨rfl, ho, hg, hb⟩
  have K' := Lib.hid (K.out.grown hg hb (fun k e => ⟨(H1.out.1.blockOf e).1, H1.out.2 k e⟩))
  clear K
  have K := K'
  clear K'
  have R' := Lib.hid (grownRw R.out hg (HNE.out _ H1.out.2))
  clear R
  have R := R'
  clear R'
  clear A1
  have A1 := Lib.hid (show BW w2 lo hi a1 (mkB (q0) M.b.length) from ⟨ho, H1.out.2⟩)
  have A0' := Lib.hid (show IO w2 lo hi a0 _ from ⟨A0.out.1.kept hg (D01.out), A0.out.2⟩)
  clear A0
  have A0 := A0'
  clear A0'
  have A2' := Lib.hid (show IO w2 lo hi a2 _ from ⟨A2.out.1.kept hg (own_ne D12.out), A2.out.2⟩)
  clear A2
  have A2 := A2'
  clear A2'
  clear c0 c1 c2 c3 ho hg hb HA1
  obtain ⟨c0, c1, c2, c3⟩ := R.out.four
  go_wp2_with fail
  refine (HA2.out _ A2.out.1).mono ?_
  rintro e w3 ⟨rfl, ho, hg, hb⟩
  have K' := Lib.hid (K.out.grown hg hb (fun k e => ⟨(H2.out.1.blockOf e).1, H2.out.2 k e⟩))
  clear K
  have K := K'
  clear K'
  have R' := Lib.hid (grownRw R.out hg (HNE.out _ H2.out.2))
  clear R
  have R := R'
  clear R'
  clear A2
  have A2 := Lib.hid (show IO w3 lo hi a2 (mkL ((q1 : Nat) : Int) M.c.length) from ⟨ho, H2.out.2⟩)
  have A0' := Lib.hid (show IO w3 lo hi a0 _ from ⟨A0.out.1.kept hg (D02.out), A0.out.2⟩)
  clear A0
  have A0 := A0'
  clear A0'
  have A1' := Lib.hid (show BW w3 lo hi a1 _ from ⟨A1.out.1.kept hg (D12.out), A1.out.2⟩)
  clear A1
  have A1 := A1'
  clear A1'
  clear c0 c1 c2 c3 ho hg hb HA2
  obtain ⟨c0, c1, c2, c3⟩ := R.out.four
  go_wp2
  go_ret
  refine ⟨by rw [HQ.out.1] <;> rfl, ?_, K.out⟩
  rw [HQ.out.2]
  exact ⟨a0, a1, a2, rfl, A0.out, A1.out, A2.out, D01.out, D02.out, D12.out⟩
set_option maxHeartbeats 1000000 in
theorem hdWe_any (v : Value) (M : We) (k0 : Nat) (w : World) (hi : Nat) (h : WeIn w hi v (markWeD k0 M)) (hh : hi ≤ w.heap.size) (hz : WeSz M) (hk : k0 ≤ 2000000) :
    Calls Try.prog 21 #[v, .int .i64 (k0 : Int)] w fun e w' => e = .returned (.int .i64 ((k0 + nWe M : Nat) : Int)) ∧ Below w.heap.size w w' := by
  obtain ⟨a0, a1, a2, rfl, h0, h1, h2⟩ := h
  unfold WeSz at hz
  unfold nWe
  unfold markWeD at h0 h1 h2
  simp only at h0 h1 h2
  obtain ⟨q0, hq0⟩ : ∃ q : Nat, q = k0 + M.e.length := ⟨_, rfl⟩
  obtain ⟨q1, hq1⟩ : ∃ q : Nat, q = q0 + M.b.length := ⟨_, rfl⟩
  obtain ⟨q2, hq2⟩ : ∃ q : Nat, q = q1 + M.c.length := ⟨_, rfl⟩
  have HA0 := Lib.hid (fun (W : World) (q : NI W hi a0 (mkL ((k0 : Nat) : Int) M.e.length)) (c : hi ≤ W.heap.size) => show Calls _ _ _ W (fun e w' => e = .returned (.int .i64 (q0 : Int)) ∧ W = w') from by rw [hq0]; exact heldIntsK_any a0 k0 M.e.length W (q.ints c) (by omega) (by omega))
  have hs1 : k0 + M.e.length = q0 := by omega
  rw [hs1] at h1
  have HA1 := Lib.hid (fun (W : World) (q : NB W hi a1 (mkB (q0) M.b.length)) (c : hi ≤ W.heap.size) => show Calls _ _ _ W (fun e w' => e = .returned (.int .i64 (q1 : Int)) ∧ W = w') from by rw [hq1]; exact heldBoolsK_any a1 q0 M.b.length W (q.bools c) (by omega) (by omega))
  have hs2 : k0 + M.e.length + M.b.length = q1 := by omega
  rw [hs2] at h2
  have HA2 := Lib.hid (fun (W : World) (q : NI W hi a2 (mkL ((q1 : Nat) : Int) M.c.length)) (c : hi ≤ W.heap.size) => show Calls _ _ _ W (fun e w' => e = .returned (.int .i64 (q2 : Int)) ∧ W = w') from by rw [hq2]; exact heldIntsK_any a2 q1 M.c.length W (q.ints c) (by omega) (by omega))
  have HQ := Lib.hid (show q2 = k0 + (M.e.length + M.b.length + M.c.length) by omega)
  have r0 := Rw.new w 27 #[a0, a1, a2, .int .i64 M.n]
  have b0 := (Below.refl w.heap.size w).alloc (Nat.le_refl _) (.cells #[a0, a1, a2, .int .i64 M.n] 27)
  have hb0 : (q0 : Int) ≤ 4400000 := by omega
  have hc0 : ¬ ((q0 : Int) < 0) := by omega
  have hb1 : (q1 : Int) ≤ 4400000 := by omega
  have hc1 : ¬ ((q1 : Int) < 0) := by omega
  have hb2 : (q2 : Int) ≤ 4400000 := by omega
  have hc2 : ¬ ((q2 : Int) < 0) := by omega
  have hk0 : (k0 : Int) ≤ 3200000 := by omega
  have A0 := Lib.hid (h0.below b0 hh)
  have A1 := Lib.hid (h1.below b0 hh)
  have A2 := Lib.hid (h2.below b0 hh)
  have BB := Lib.hid b0
  show Calls _ _ #[.agg #[a0, a1, a2, .int .i64 M.n], _] _ _
  obtain ⟨c0, c1, c2, c3⟩ := r0.four
  clear h0 h1 h2 b0 r0 hz hk hq0 hq1 hq2 hs1 hs2
  go_enter Try.func21, Try.ntmps21
  go_wp2_with fail
  refine (HA0.out _ A0.out (by simp; omega)).mono ?_
  rintro e w1 ⟨rfl, rfl⟩
  go_wp2_with fail
  refine (HA1.out _ A1.out (by simp; omega)).mono ?_
  rintro e w2 ⟨rfl, rfl⟩
  go_wp2_with fail
  refine (HA2.out _ A2.out (by simp; omega)).mono ?_
  rintro e w3 ⟨rfl, rfl⟩
  go_wp2
  go_ret
  exact ⟨by rw [HQ.out] <;> rfl, BB.out⟩
end Go.Proofs.Ytainlanblpccjaa
/- States of the blocks as plain data: which are valid. No program in it. -/
namespace Go.Proofs.Ytainlanblpccjaa
open Go.RowKit
set_option linter.unusedVariables false
/-- One block's values are valid. -/
def WlOk (e : List Int) (b : List Bool) (c : List Int) (i : Nat) : Prop := (0 ≤ e.getD i 0 ∧ e.getD i 0 ≤ 1000) ∧ (0 ≤ c.getD i 0 ∧ c.getD i 0 ≤ 2) ∧ (c.getD i 0 = 0 ∨ b.getD i false = false)
def WeOk (M : We) : Prop := (1 ≤ M.e.length ∧ M.e.length ≤ 36) ∧ M.b.length = M.e.length ∧ M.c.length = M.e.length ∧ (1 ≤ M.n ∧ M.n ≤ 100) ∧ ∀ i, i < M.e.length → WlOk M.e M.b M.c i
end Go.Proofs.Ytainlanblpccjaa
/- Write counters as plain data. No program in it. -/
namespace Go.Proofs.Ytainlanblpccjaa
open Go.RowKit
set_option linter.unusedVariables false
structure Ht where
  c : List Int
  n : Int
def Ht.zero : Ht := ⟨[], 0⟩
/-- One count is in its bounds. -/
def CntOk (c : List Int) (i : Nat) : Prop := 0 ≤ c.getD i 0 ∧ c.getD i 0 ≤ 1000000
def HtOk (h : Ht) : Prop := (1 ≤ h.c.length ∧ h.c.length ≤ 48) ∧ (0 ≤ h.n ∧ h.n ≤ 15) ∧ ∀ i, i < h.c.length → CntOk h.c i
/-- The counters fit. -/
def HtSz (h : Ht) : Prop := h.c.length ≤ 1048576
/-- What NewHeat answers. -/
def newHt (l : Int) : Ht := ⟨List.replicate l.toNat 0, 0⟩
def NewHtIs (l : Int) (G : Ht) (c : Int) : Prop := ((1 ≤ l ∧ l ≤ 48) ∧ G = newHt l ∧ c = 0) ∨ (¬ (1 ≤ l ∧ l ≤ 48) ∧ G = Ht.zero ∧ c = 2)
theorem newHtIs (l : Int) : ∃ G c, NewHtIs l G c := by
  by_cases h : 1 ≤ l ∧ l ≤ 48
  · exact ⟨_, _, .inl ⟨h, rfl, rfl⟩⟩
  · exact ⟨_, _, .inr ⟨h, rfl, rfl⟩⟩
theorem newHtIs_sz {l : Int} {G : Ht} {c : Int} (h : NewHtIs l G c) : HtSz G := by
  rcases h with ⟨h, rfl, _⟩ | ⟨_, rfl, _⟩
  · unfold HtSz newHt; simp; omega
  · unfold HtSz Ht.zero; simp
/-- The sum of the first k counts. -/
def sumTo (c : List Int) : Nat → Int
  | 0 => 0
  | k + 1 => sumTo c k + c.getD k 0
theorem sumTo_le {c : List Int} (k : Nat) (h : ∀ i, i < k → CntOk c i) : 0 ≤ sumTo c k ∧ sumTo c k ≤ (k : Int) * 1000000 := by
  induction k with
  | zero => simp [sumTo]
  | succ k ih =>
    have a := ih (fun i hi => h i (by omega))
    have b := h k (by omega)
    unfold CntOk at b
    unfold sumTo
    omega
/-- Page l is hot among the counts. -/
def HotAt (c : List Int) (l : Int) : Prop := (0 ≤ l ∧ l < c.length) ∧ c.getD l.toNat 0 * (c.length : Int) > 2 * sumTo c c.length
def HotIs (M : Ht) (r : Bool) (l : Int) : Prop := r = true ∧ HotAt M.c l
open Classical in
/-- The hot pages among the first k. -/
noncomputable def hotTo (c : List Int) : Nat → List Int
  | 0 => []
  | k + 1 => if HotAt c (k : Int) then hotTo c k ++ [(k : Int)] else hotTo c k
theorem hotTo_yes {c : List Int} {k : Nat} (h : HotAt c (k : Int)) : hotTo c (k + 1) = hotTo c k ++ [(k : Int)] := by simp only [hotTo, if_pos h]
theorem hotTo_no {c : List Int} {k : Nat} (h : ¬ HotAt c (k : Int)) : hotTo c (k + 1) = hotTo c k := by simp only [hotTo, if_neg h]
theorem hotTo_le (c : List Int) (k : Nat) : (hotTo c k).length ≤ k := by
  induction k with
  | zero => simp [hotTo]
  | succ k ih =>
    unfold hotTo
    split
    · simp; omega
    · omega
noncomputable def hotL (M : Ht) (r : Bool) : List Int := bif r then hotTo M.c M.c.length else []
theorem hotL_le {M : Ht} {r : Bool} (z : HtSz M) : (hotL M r).length ≤ 1048576 := by
  have := hotTo_le M.c M.c.length
  unfold HtSz at z
  cases r
  · simp [hotL]
  · simp [hotL]; omega
def decL (c : List Int) : List Int := c.map (· / 2)
theorem decL_length (c : List Int) : (decL c).length = c.length := by simp [decL]
theorem decL_at (c : List Int) (i : Nat) (h : i < c.length) : (decL c).getD i 0 = c.getD i 0 / 2 := by simp [decL, List.getD_eq_getElem?_getD, h]
def decayH (M : Ht) : Ht := ⟨decL M.c, 0⟩
def decayE (M : Ht) (r : Bool) : Ht := bif r then decayH M else Ht.zero
theorem decayE_sz {M : Ht} {r : Bool} (z : HtSz M) : HtSz (decayE M r) := by
  unfold HtSz at z ⊢
  cases r
  · simp [decayE, Ht.zero]
  · simpa [decayE, decayH, decL_length] using z
def bumpL (c : List Int) (l : Nat) : List Int := c.set l (min (c.getD l 0 + 1) 1000000)
/-- What a noted write makes of the counters. -/
def noteH (M : Ht) (l : Nat) : Ht := if M.n + 1 = 16 then decayH ⟨bumpL M.c l, M.n + 1⟩ else ⟨bumpL M.c l, M.n + 1⟩
def NoteIs (M : Ht) (r : Bool) (l : Int) (G : Ht) (c : Int) : Prop :=
  (r = false ∧ G = Ht.zero ∧ c = 1) ∨ (r = true ∧ ¬ (0 ≤ l ∧ l < M.c.length) ∧ G = Ht.zero ∧ c = 2) ∨ (r = true ∧ (0 ≤ l ∧ l < M.c.length) ∧ G = noteH M l.toNat ∧ c = 0)
theorem noteIs (M : Ht) (r : Bool) (l : Int) : ∃ G c, NoteIs M r l G c := by
  cases r with
  | false => exact ⟨_, _, .inl ⟨rfl, rfl, rfl⟩⟩
  | true =>
    by_cases h : 0 ≤ l ∧ l < M.c.length
    · exact ⟨_, _, .inr (.inr ⟨rfl, h, rfl, rfl⟩)⟩
    · exact ⟨_, _, .inr (.inl ⟨rfl, h, rfl, rfl⟩)⟩
theorem noteIs_sz {M : Ht} {r : Bool} {l : Int} {G : Ht} {c : Int} (h : NoteIs M r l G c) (z : HtSz M) : HtSz G := by
  unfold HtSz at z ⊢
  rcases h with ⟨_, rfl, _⟩ | ⟨_, _, rfl, _⟩ | ⟨_, _, rfl, _⟩
  · simp [Ht.zero]
  · simp [Ht.zero]
  · unfold noteH
    split
    · simpa [decayH, decL_length, bumpL] using z
    · simpa [bumpL] using z
/-- One step of an own list that is halved in place. -/
theorem decL_step (c : List Int) (k : Nat) (h : k < c.length) : ((decL c).take k ++ c.drop k).set k (c.getD k 0 / 2) = (decL c).take (k + 1) ++ c.drop (k + 1) := by
  have hl := decL_length c
  rw [List.set_append_right _ _ (by simp; omega), List.length_take, Nat.min_eq_left (by omega), Nat.sub_self, List.drop_eq_getElem_cons h, List.set_cons_zero, List.take_succ_eq_append_getElem (by omega : k < (decL c).length), List.append_assoc, ← decL_at c k h, List.getD_eq_getElem?_getD, List.getElem?_eq_getElem (by omega : k < (decL c).length)]; rfl
theorem decL_mid (c : List Int) (k i : Nat) (hk : k ≤ i) (h : i < c.length) : ((decL c).take k ++ c.drop k).getD i 0 = c.getD i 0 := by
  have hl := decL_length c
  rw [List.getD_eq_getElem?_getD, List.getElem?_append_right (by simp; omega), List.length_take, Nat.min_eq_left (by omega), List.getElem?_drop, show k + (i - k) = i by omega, List.getD_eq_getElem?_getD]
end Go.Proofs.Ytainlanblpccjaa
/- Write counters in memory; what the laws' helpers for them do. -/
namespace Go.Proofs.Ytainlanblpccjaa
open Go.RowKit
set_option linter.unusedVariables false
set_option linter.unusedSimpArgs false
theorem Rw.two {w : World} {g : Nat} {t : TypeId} {a b : Value} (h : Rw w g t #[a, b]) : w.cell? ⟨g, 0, none⟩ = some a ∧ w.cell? ⟨g, 1, none⟩ = some b := ⟨h.cell 0, h.cell 1⟩
/-- The cells of counters whose list is the slice u. -/
def htc (M : Ht) (u : Value) : Array Value := #[u, .int .i64 M.n]
def HtIn (w : World) (hi : Nat) (v : Value) (M : Ht) : Prop := ∃ a, v = .agg (htc M a) ∧ NI w hi a M.c
def HtOwn (w : World) (lo hi : Nat) (v : Value) (M : Ht) : Prop := ∃ a, v = .agg (htc M a) ∧ IO w lo hi a M.c
section
variable {w w' : World} {lo hi lo' hi' B : Nat} {v : Value} {M : Ht}
theorem HtIn.below (h : HtIn w hi v M) (hb : Below B w w') (hB : hi ≤ B) : HtIn w' hi v M := by
  obtain ⟨a, e, h1⟩ := h; exact ⟨a, e, h1.below hb hB⟩
theorem HtIn.same (h : HtIn w hi v M) (hs : Same 0 hi w w') : HtIn w' hi v M := by
  obtain ⟨a, e, h1⟩ := h; exact ⟨a, e, h1.same hs⟩
theorem HtIn.wide (h : HtIn w hi v M) (hh : hi ≤ hi') : HtIn w hi' v M := by
  obtain ⟨a, e, h1⟩ := h; exact ⟨a, e, h1.wide hh⟩
theorem HtOwn.reads (h : HtOwn w lo hi v M) : HtIn w hi v M := by
  obtain ⟨a, e, h1⟩ := h; exact ⟨a, e, h1.reads⟩
theorem HtOwn.same (h : HtOwn w lo hi v M) (hs : Same lo hi w w') : HtOwn w' lo hi v M := by
  obtain ⟨a, e, h1⟩ := h; exact ⟨a, e, h1.same hs⟩
theorem HtOwn.wide (h : HtOwn w lo hi v M) (hl : lo' ≤ lo) (hh : hi ≤ hi') : HtOwn w lo' hi' v M := by
  obtain ⟨a, e, h1⟩ := h; exact ⟨a, e, h1.wide hl hh⟩
theorem HtOwn.zero (w : World) (lo hi : Nat) : HtOwn w lo hi (.agg #[.slice none 0 0, .int .i64 0]) Ht.zero := ⟨_, rfl, IO.nil _ _ _⟩
theorem HtIn.agg2 (h : HtIn w hi v M) : ∃ (A : Option Addr) (n c : Nat) (g : Int), v = .agg #[.slice A n c, .int .i64 g] := by
  obtain ⟨a, e, h1⟩ := h
  obtain ⟨A, n, c, rfl⟩ := h1.slice
  exact ⟨_, _, _, _, e⟩
theorem HtOwn.agg2 (h : HtOwn w lo hi v M) : ∃ (A : Option Addr) (n c : Nat) (g : Int), v = .agg #[.slice A n c, .int .i64 g] := h.reads.agg2
end
theorem IntsOwn.sliceOfH {w : World} {B : Nat} {v : Value} {l : List Int} (h : IntsOwn w B v l) : ∃ A n c, v = .slice A n c := by
  rcases h.shape with ⟨rfl, _⟩ | ⟨g, cap, rfl, _⟩ <;> exact ⟨_, _, _, rfl⟩
end Go.Proofs.Ytainlanblpccjaa
