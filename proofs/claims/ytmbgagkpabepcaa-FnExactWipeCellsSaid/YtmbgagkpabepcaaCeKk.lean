/- The laws' helpers markCells and heldCells: their contracts. -/
import Derived.Test.YtmbgagkpabepcaaProg
import Derived.Test.YtmbgagkpabepcaaCeM
import Derived.Test.YtmbgagkpabepcaaPmK
import Derived.Test.YtmbgagkpabepcaaIntsK
namespace Go.Proofs.Ytmbgagkpabepcaa
open Go.RowKit
set_option linter.unusedVariables false
set_option linter.unusedSimpArgs false
def markCeD (k0 : Nat) (M : Ce) : Ce := ⟨mkL ((k0 : Nat) : Int) M.c.length⟩
theorem markCeD_sz {k0 : Nat} {M : Ce} (h : CeSz M) : CeSz (markCeD k0 M) := by unfold CeSz markCeD; simp only [mkL_length, mkB_length]; exact h
def nCe (M : Ce) : Nat := M.c.length
set_option maxHeartbeats 1000000 in
theorem mkCe_any (v : Value) (M : Ce) (k0 : Nat) (w : World) (lo hi : Nat) (h : CeOwn w lo hi v M) (hl : lo ≤ hi) (hh : hi ≤ w.heap.size) (hz : CeSz M) (hk : k0 ≤ 3200000) :
    Calls Try.prog 22 #[v, .int .i64 (k0 : Int)] w fun e w' => e = .returned (.int .i64 ((k0 + nCe M : Nat) : Int)) ∧ CeOwn w' lo hi v (markCeD k0 M) ∧ Kp lo hi w w' := by
  obtain ⟨a0, rfl, h0⟩ := h
  unfold CeSz at hz
  unfold nCe
  obtain ⟨q0, hq0⟩ : ∃ q : Nat, q = k0 + M.c.length := ⟨_, rfl⟩
  have HA0 := Lib.hid (fun (W : World) (q : IntsOwn W lo a0 M.c) => show Calls _ _ _ W (fun e w' => e = .returned (.int .i64 (q0 : Int)) ∧ IntsOwn w' lo a0 (mkL ((k0 : Nat) : Int) M.c.length) ∧ W.grownBy w' a0.ownBlock ∧ Below lo W w') from by rw [hq0]; exact markIntsK_any lo a0 M.c k0 W q (by omega) (by omega))
  have H0 := Lib.hid h0
  have HQ := Lib.hid (show q0 = k0 + (M.c.length) ∧ markCeD k0 M = ⟨mkL ((k0 : Nat) : Int) M.c.length⟩ by unfold markCeD; subst hq0; exact ⟨by omega, rfl⟩)
  have hb0 : (q0 : Int) ≤ 4400000 := by omega
  have hk0 : (k0 : Int) ≤ 3200000 := by omega
  have hpc : cec M a0 = #[a0] := rfl
  rw [hpc]
  have r0 := Rw.new w 27 #[a0]
  have b0 := (Below.refl w.heap.size w).alloc (Nat.le_refl _) (.cells #[a0] 27)
  have K := Lib.hid (show Kp lo hi w (w.alloc (.cells #[a0] 27)) from ⟨b0.mono (by omega), sm b0 hi (Nat.le_refl _)⟩)
  have A0 := Lib.hid (h0.same (sm b0 lo hh))
  have R := Lib.hid r0
  have HNE := Lib.hid (show ∀ (o : Option Nat), (∀ k, o = some k → k < hi) → some w.heap.size ≠ o from fun o ho e => by have := ho _ e.symm; omega)
  have c0 := r0.one
  clear h0 b0 r0 hz hk hpc  hq0
  go_enter Try.func22, Try.ntmps22
  go_wp2_with fail
  refine (HA0.out _ A0.out.1).mono ?_
  rintro e w1 ⟨rfl, ho, hg, hb⟩
  have K' := Lib.hid (K.out.grown hg hb (fun k e => ⟨(H0.out.1.blockOf e).1, H0.out.2 k e⟩))
  clear K
  have K := K'
  clear K'
  have R' := Lib.hid (grownRw R.out hg (HNE.out _ H0.out.2))
  clear R
  have R := R'
  clear R'
  clear A0
  have A0 := Lib.hid (show IO w1 lo hi a0 (mkL ((k0 : Nat) : Int) M.c.length) from ⟨ho, H0.out.2⟩)
  clear c0 ho hg hb HA0
  have c0 := R.out.one
  go_wp2
  go_ret
  refine ⟨by rw [HQ.out.1] <;> rfl, ?_, K.out⟩
  rw [HQ.out.2]
  exact ⟨a0, rfl, A0.out⟩
set_option maxHeartbeats 1000000 in
theorem hdCe_any (v : Value) (M : Ce) (k0 : Nat) (w : World) (hi : Nat) (h : CeIn w hi v (markCeD k0 M)) (hh : hi ≤ w.heap.size) (hz : CeSz M) (hk : k0 ≤ 3200000) :
    Calls Try.prog 23 #[v, .int .i64 (k0 : Int)] w fun e w' => e = .returned (.int .i64 ((k0 + nCe M : Nat) : Int)) ∧ Below w.heap.size w w' := by
  obtain ⟨a0, rfl, h0⟩ := h
  unfold CeSz at hz
  unfold nCe
  unfold markCeD at h0
  simp only at h0
  obtain ⟨q0, hq0⟩ : ∃ q : Nat, q = k0 + M.c.length := ⟨_, rfl⟩
  have HA0 := Lib.hid (fun (W : World) (q : NI W hi a0 (mkL ((k0 : Nat) : Int) M.c.length)) (c : hi ≤ W.heap.size) => show Calls _ _ _ W (fun e w' => e = .returned (.int .i64 (q0 : Int)) ∧ W = w') from by rw [hq0]; exact heldIntsK_any a0 k0 M.c.length W (q.ints c) (by omega) (by omega))
  have HQ := Lib.hid (show q0 = k0 + (M.c.length) by omega)
  have r0 := Rw.new w 27 #[a0]
  have b0 := (Below.refl w.heap.size w).alloc (Nat.le_refl _) (.cells #[a0] 27)
  have hb0 : (q0 : Int) ≤ 4400000 := by omega
  have hc0 : ¬ ((q0 : Int) < 0) := by omega
  have hk0 : (k0 : Int) ≤ 3200000 := by omega
  have A0 := Lib.hid (h0.below b0 hh)
  have BB := Lib.hid b0
  show Calls _ _ #[.agg #[a0], _] _ _
  have c0 := r0.one
  clear h0 b0 r0 hz hk hq0 
  go_enter Try.func23, Try.ntmps23
  go_wp2_with fail
  refine (HA0.out _ A0.out (by simp; omega)).mono ?_
  rintro e w1 ⟨rfl, rfl⟩
  go_wp2
  go_ret
  exact ⟨by rw [HQ.out] <;> rfl, BB.out⟩
end Go.Proofs.Ytmbgagkpabepcaa
