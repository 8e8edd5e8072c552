/- The laws' helpers markPageMap and heldPageMap: their contracts. -/
import Derived.Test.YtmbgagkpabepcaaProg
import Derived.Test.YtmbgagkpabepcaaPmM
namespace Go.Proofs.Ytmbgagkpabepcaa
open Go.RowKit
set_option linter.unusedVariables false
/-- Only blocks from lo up to hi may have turned, and new ones may stand. -/
def Kp (lo hi : Nat) (w w' : World) : Prop := Below lo w w' ∧ Same hi w.heap.size w w'
theorem Kp.size {lo hi : Nat} {w w' : World} (h : Kp lo hi w w') : w.heap.size ≤ w'.heap.size := h.1.size
theorem Kp.call {lo hi : Nat} {w w' w'' : World} (h : Kp lo hi w w') (hb : Below w'.heap.size w' w'') (hl : lo ≤ w.heap.size) : Kp lo hi w w'' :=
  ⟨h.1.trans (hb.mono (by have := h.1.size; omega)), h.2.trans (sm hb hi h.1.size)⟩
theorem Kp.grown {lo hi : Nat} {w w' w'' : World} {row : Option Nat} (h : Kp lo hi w w') (hg : w'.grownBy w'' row) (hb : Below lo w' w'') (hr : ∀ k, row = some k → lo ≤ k ∧ k < hi) : Kp lo hi w w'' :=
  ⟨h.1.trans hb, fun j h1 h2 => (hg.block j (Nat.lt_of_lt_of_le h2 h.1.size) (fun e => by have := (hr j e.symm).2; omega)).trans (h.2 j h1 h2)⟩
def markM (M : Pm) : Pm := ⟨M.b, M.p, mkL 1 M.mp.length, mkB (1 + M.mp.length) M.tr.length⟩
theorem markM_sz {M : Pm} (h : PmSz M) : PmSz (markM M) := by unfold PmSz markM; rw [mkL_length, mkB_length]; exact h
theorem grownRw {w w' : World} {g : Nat} {t : TypeId} {cs : Array Value} {row : Option Nat} (h : Rw w g t cs) (hg : w.grownBy w' row) (hne : some g ≠ row) : Rw w' g t cs := (hg.block g h.lt hne).trans h
theorem own_ne {a b : Option Nat} (h : a = none ∨ a ≠ b) : b = none ∨ b ≠ a := by
  cases b with
  | none => exact .inl rfl
  | some x => rcases h with rfl | h; exact .inr (by simp); exact .inr (fun e => h e.symm)
set_option maxHeartbeats 1000000 in
theorem markPm_any (v : Value) (M : Pm) (w : World) (lo hi : Nat) (h : PmOwn w lo hi v M) (hl : lo ≤ hi) (hh : hi ≤ w.heap.size) (hz : PmSz M) :
    Calls Try.prog 54 #[v, .int .i64 1] w fun e w' => e = .returned (.int .i64 ((1 + M.mp.length + M.tr.length : Nat) : Int)) ∧ PmOwn w' lo hi v (markM M) ∧ Kp lo hi w w' := by
  obtain ⟨a, b, rfl, h1, h2, h3⟩ := h
  unfold PmSz at hz
  have HA := Lib.hid (fun (W : World) (q : IntsOwn W lo a M.mp) => markInts_any lo a M.mp W q (by omega))
  have HB := Lib.hid (fun (W : World) (q : BoolsOwn W lo b M.tr) => markBools_any lo b M.tr (1 + M.mp.length) W q (by omega) (by omega))
  have H1 := Lib.hid h1
  have H2 := Lib.hid h2
  have H3 := Lib.hid h3
  have HZ := Lib.hid hz
  have hn1 : ((1 + M.mp.length : Nat) : Int) ≤ 1048577 := by omega
  have r0 := Rw.new w 59 (pmc M a b)
  have b0 := (Below.refl w.heap.size w).alloc (Nat.le_refl _) (.cells (pmc M a b) 59)
  have K0 := Lib.hid (show Kp lo hi w (w.alloc (.cells (pmc M a b) 59)) from ⟨b0.mono (by omega), sm b0 hi (Nat.le_refl _)⟩)
  have A0 := Lib.hid (h1.same (sm b0 lo hh))
  have B0 := Lib.hid (h2.same (sm b0 lo hh))
  have hsz : (w.alloc (.cells (pmc M a b) 59)).heap.size = w.heap.size + 1 := by simp
  have R0 := Lib.hid r0
  have hne : ∀ (o : Option Nat), (∀ k, o = some k → k < hi) → some w.heap.size ≠ o := fun o ho e => by have := ho _ e.symm; omega
  have HNE := Lib.hid hne
  obtain ⟨c0, c1, c2, c3⟩ := r0.four
  clear h1 h2 h3 b0 r0 hz hne
  have hpc : pmc M a b = #[.int .i64 M.b, .int .i64 M.p, a, b] := rfl
  rw [hpc] at A0 B0 R0 K0 hsz
  go_enter Try.func54, Try.ntmps54
  go_wp2_with fail
  refine (HA.out _ A0.out.1).mono ?_
  rintro e w1 ⟨rfl, ho, hg, hb⟩
  have K1 := Lib.hid (K0.out.grown hg hb (fun k e => ⟨(H1.out.1.blockOf e).1, H1.out.2 k e⟩))
  have R1 := Lib.hid (grownRw R0.out hg (HNE.out _ H1.out.2))
  have B1 := Lib.hid (show BW w1 lo hi b M.tr from ⟨B0.out.1.kept hg (own_ne H3.out), B0.out.2⟩)
  have A1 := Lib.hid ho
  clear c0 c1 c2 c3 ho hg hb K0 A0 R0 B0 HA
  obtain ⟨c0, c1, c2, c3⟩ := R1.out.four
  go_wp2_with fail
  refine (HB.out _ B1.out.1).mono ?_
  rintro e w2 ⟨rfl, ho, hg, hb⟩
  have K2 := Lib.hid (K1.out.grown hg hb (fun k e => ⟨(H2.out.1.blockOf e).1, H2.out.2 k e⟩))
  have A2 := Lib.hid (A1.out.kept hg H3.out)
  have B2 := Lib.hid ho
  clear c0 c1 c2 c3 ho hg hb K1 A1 R1 B1 HB
  go_wp2
  go_ret
  exact ⟨by rfl, ⟨a, b, rfl, ⟨A2.out, H1.out.2⟩, ⟨B2.out, H2.out.2⟩, H3.out⟩, K2.out⟩
theorem heldIntsB_any (v : Value) (n : Nat) (w : World) (h : IntsIn w v (mkL 1 n)) (hl : n ≤ 1048576) :
    Calls Try.prog 56 #[v, .int .i64 1] w fun e w' => e = .returned (.int .i64 (1 + (n : Int))) ∧ Below w.heap.size w w' :=
  (heldInts_any v n w h hl).mono fun e w' q => ⟨q.1, by rw [← q.2]; exact Below.refl _ _⟩
end Go.Proofs.Ytmbgagkpabepcaa
