/- The laws' helpers markHeat and heldHeat: their contracts. -/
import Derived.Test.YtgkanacaijlljaaProg
import Derived.Test.YtgkanacaijlljaaHtM
import Derived.Test.YtgkanacaijlljaaPmK
namespace Go.Proofs.Ytgkanacaijlljaa
open Go.RowKit
set_option linter.unusedVariables false
def markH (M : Ht) : Ht := ⟨mkL 1 M.c.length, M.n⟩
theorem markH_sz {M : Ht} (h : HtSz M) : HtSz (markH M) := by unfold HtSz markH; rw [mkL_length]; exact h
set_option maxHeartbeats 1000000 in
theorem markHt_any (v : Value) (M : Ht) (w : World) (lo hi : Nat) (h : HtOwn w lo hi v M) (hl : lo ≤ hi) (hh : hi ≤ w.heap.size) (hz : HtSz M) :
    Calls Try.prog 24 #[v, .int .i64 1] w fun e w' => e = .returned (.int .i64 ((1 + M.c.length : Nat) : Int)) ∧ HtOwn w' lo hi v (markH M) ∧ Kp lo hi w w' := by
  obtain ⟨a, rfl, h1⟩ := h
  unfold HtSz at hz
  have HA := Lib.hid (fun (W : World) (q : IntsOwn W lo a M.c) => markInts_any lo a M.c W q (by omega))
  have H1 := Lib.hid h1
  have hn1 : ((1 + M.c.length : Nat) : Int) ≤ 1048577 := by omega
  have r0 := Rw.new w 27 (htc M a)
  have b0 := (Below.refl w.heap.size w).alloc (Nat.le_refl _) (.cells (htc M a) 27)
  have K0 := Lib.hid (show Kp lo hi w (w.alloc (.cells (htc M a) 27)) from ⟨b0.mono (by omega), sm b0 hi (Nat.le_refl _)⟩)
  have A0 := Lib.hid (h1.same (sm b0 lo hh))
  obtain ⟨c0, c1⟩ := r0.two
  clear h1 b0 r0 hz
  have hpc : htc M a = #[a, .int .i64 M.n] := rfl
  rw [hpc] at A0 K0
  go_enter Try.func24, Try.ntmps24
  go_wp2_with fail
  refine (HA.out _ A0.out.1).mono ?_
  rintro e w1 ⟨rfl, ho, hg, hb⟩
  have K1 := Lib.hid (K0.out.grown hg hb (fun k e => ⟨(H1.out.1.blockOf e).1, H1.out.2 k e⟩))
  have A1 := Lib.hid ho
  clear c0 c1 ho hg hb K0 A0 HA
  go_wp2
  go_ret
  exact ⟨by rfl, ⟨a, rfl, ⟨A1.out, H1.out.2⟩⟩, K1.out⟩
set_option maxHeartbeats 1000000 in
theorem heldHt_any (v : Value) (M : Ht) (w : World) (hi : Nat) (h : HtIn w hi v (markH M)) (hh : hi ≤ w.heap.size) (hz : HtSz M) :
    Calls Try.prog 25 #[v, .int .i64 1] w fun e w' => e = .returned (.int .i64 ((1 + M.c.length : Nat) : Int)) ∧ Below w.heap.size w w' := by
  obtain ⟨a, rfl, h1⟩ := h
  unfold HtSz at hz
  have HA := Lib.hid (fun (W : World) (q : NI W hi a (mkL 1 M.c.length)) (c : hi ≤ W.heap.size) => heldInts_any a M.c.length W (q.ints c) (by omega))
  have b0 := (Below.refl w.heap.size w).alloc (Nat.le_refl _) (.cells #[a, .int .i64 M.n] 27)
  have hn1 : ((1 + M.c.length : Nat) : Int) ≤ 1048577 := by omega
  have A0 := Lib.hid (h1.below b0 hh)
  have BB := Lib.hid b0
  have e1 : htc (markH M) a = #[a, .int .i64 M.n] := rfl
  rw [e1]
  clear h1 b0 hz e1
  go_enter Try.func25, Try.ntmps25
  go_wp2_with fail
  refine (HA.out _ A0.out (by simp; omega)).mono ?_
  rintro e w1 ⟨rfl, rfl⟩
  have hq1 : ¬ ((1 : Int) + (M.c.length : Int) < 0) := by omega
  clear HA
  go_wp2
  go_ret
  exact ⟨by rfl, BB.out⟩
end Go.Proofs.Ytgkanacaijlljaa
