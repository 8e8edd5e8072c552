/- The proof's own lemmas, part 56: FxKk IntsL TbKk. -/
import Derived.Test.YtainlanblpccjaaProg
import Derived.Test.YtainlanblpccjaaMg53
import Derived.Test.YtainlanblpccjaaMg54
import Derived.Test.YtainlanblpccjaaMg11
import Derived.Test.YtainlanblpccjaaMg6
/- The laws' helpers markFlash and heldFlash, in the shape that all kinds share (marks from 1 on). -/
namespace Go.Proofs.Ytainlanblpccjaa
open Go.RowKit
set_option linter.unusedVariables false
def nFx (F : Fl) : Nat := markN F.bs
def markFxD (k0 : Nat) (F : Fl) : Fl := ⟨F.d, F.b, F.p, markLs k0 F.bs, F.fu, F.ke, F.off, F.op⟩
theorem mkFx_any (v : Value) (M : Fl) (k0 : Nat) (w : World) (lo hi : Nat) (h : FxOwn w lo hi v M) (hl : lo ≤ hi) (hh : hi ≤ w.heap.size) (hz : FxSz M) (hk : k0 = 1) :
    Calls Try.prog 49 #[v, .int .i64 (k0 : Int)] w fun e w' => e = .returned (.int .i64 ((k0 + nFx M : Nat) : Int)) ∧ FxOwn w' lo hi v (markFxD k0 M) ∧ Kp lo hi w w' := by
  subst hk
  have h0 := h
  refine (markFlash_any v M w lo hi h hh (Nat.le_trans hl hh) hz).mono ?_
  rintro e w' ⟨rfl, ⟨G, hG, ho⟩, k⟩
  refine ⟨rfl, ?_, k⟩
  obtain ⟨u, rfl, _⟩ := h0
  have ho2 := ho
  obtain ⟨u', e, _⟩ := ho2
  obtain ⟨d, b, p, bs, fu, ke, off, op⟩ := M
  obtain ⟨d', b', p', bs', fu', ke', off', op'⟩ := G
  unfold flc at e
  simp only at hG e
  injection e with e
  simp only [Array.mk.injEq, List.cons.injEq, Value.int.injEq, Value.bool.injEq, true_and, and_true] at e
  obtain ⟨rfl, rfl, rfl, rfl, rfl, rfl, rfl, rfl⟩ := e
  subst hG
  exact ho
theorem hdFx_any (v : Value) (M : Fl) (k0 : Nat) (w : World) (hi : Nat) (h : FxIn w hi v (markFxD k0 M)) (hh : hi ≤ w.heap.size) (hz : FxSz M) (hk : k0 = 1) :
    Calls Try.prog 50 #[v, .int .i64 (k0 : Int)] w fun e w' => e = .returned (.int .i64 ((k0 + nFx M : Nat) : Int)) ∧ Below w.heap.size w w' := by
  subst hk
  exact heldFlash_any v M (markFxD 1 M) w 0 hi rfl h hh hz
end Go.Proofs.Ytainlanblpccjaa
/- The laws' helpers markInt64S and heldInt64S, from greater numbers on. -/
namespace Go.Proofs.Ytainlanblpccjaa
open Go.RowKit
set_option linter.unusedVariables false
set_option linter.unusedSimpArgs false
theorem markIntsL_any (B : Nat) (v : Value) (l : List Int) (k0 : Nat) (w : World) (h : IntsOwn w B v l) (hl : l.length ≤ 1048576) (hk0 : k0 ≤ 5000000) :
    Calls Try.prog 57 #[v, .int .i64 (k0 : Int)] w (MarkPostK B v k0 l.length w) := by
  rcases h.shape with ⟨rfl, rfl⟩ | ⟨g, cap, rfl, hg, hgl⟩
  · go_enter Try.func57, Try.ntmps57
    go_wp2
    go_loop [1, 5] (fun u i => u = .int .i64 (k0 : Int) ∧ i = .int .i64 0) (fun _ _ => 0)
    case atStart => exact ⟨rfl, rfl⟩
    case round =>
      obtain ⟨rfl, rfl⟩ := hrel
      go_wp2
      go_ret
      exact ⟨rfl, h, ⟨rfl, rfl, rfl, Nat.le_refl _, fun _ _ _ => rfl⟩, Below.refl _ _⟩
  · obtain ⟨n, hn⟩ : ∃ n, n = l.length := ⟨_, rfl⟩
    rw [← hn] at h hl ⊢
    have hnm : (n : Int) ≤ 1048576 := by omega
    have hk1 : (k0 : Int) ≤ 5000000 := by omega
    have H := Lib.hid h
    have HN := Lib.hid hn
    clear h hn
    go_enter Try.func57, Try.ntmps57
    go_wp2
    go_loopw [1, 5] (fun u i wr => ∃ k q : Nat, k ≤ n ∧ q = k0 + k ∧ i = .int .i64 k ∧ u = .int .i64 (q : Int) ∧ IntsOwn wr B (.slice (some ⟨g, 0, none⟩) n cap) (mkL (k0 : Int) k ++ l.drop k) ∧ w.grownBy wr (some g) ∧ Below B w wr) (fun _ i _ => n - (intOf i).toNat)
    case atStart => exact ⟨0, k0, by omega, rfl, rfl, rfl, H.out, ⟨rfl, rfl, rfl, Nat.le_refl _, fun _ _ _ => rfl⟩, Below.refl _ _⟩
    case round =>
      obtain ⟨k, q, hk, hq, rfl, rfl, hown, hgr, hb⟩ := hrel
      have hN := HN.out
      have hlen : (mkL (k0 : Int) k ++ l.drop k).length = n := by simp [mkL_length]; omega
      by_cases hlt : k < n
      · have hki : (k : Int) < (n : Int) := by omega
        have hqi : (q : Int) ≤ 7000000 := by omega
        have hc := hown.cell (j := k) hlen hlt
        have hf := hown.free hlen k
        have hs := hown.stored hlen k ((k0 : Int) + (k : Int))
        have hqq : (k0 : Int) + (k : Int) = (q : Int) := by omega
        rw [mkL_set (k0 : Int) l k (by omega), hqq] at hs
        have hgr2 : w.grownBy (wr.setCell ⟨g, k, none⟩ (.int .i64 (q : Int))) (some g) := ⟨hgr.os, hgr.tape, hgr.output, by simpa using hgr.size, fun j hj hne => (heap_setCell_other _ _ j _ (fun e => hne (by simp [e]))).trans (hgr.block j hj hne)⟩
        have hb2 := hb.setCell (p := ⟨g, k, none⟩) hg (.int .i64 (q : Int))
        have HQ := Lib.hid hq
        clear hown hgr hb hN hlen hq hqq
        generalize (mkL (k0 : Int) k ++ l.drop k).getD k 0 = old at *
        go_wp2
        go_roundw
        case rel => exact ⟨k + 1, q + 1, by omega, by have := HQ.out; omega, by go_num, by go_num, hs, hgr2, hb2⟩
        case measure => simp [intOf]; omega
      · obtain rfl : k = n := by omega
        rw [List.drop_eq_nil_of_le (by omega), List.append_nil] at hown
        subst hq
        clear hN hlen
        go_wp2
        go_ret
        exact ⟨rfl, hown, hgr, hb⟩
theorem heldIntsL_any (v : Value) (k0 n : Nat) (w : World) (h : IntsIn w v (mkL (k0 : Int) n)) (hl : n ≤ 1048576) (hk0 : k0 ≤ 5000000) :
    Calls Try.prog 87 #[v, .int .i64 (k0 : Int)] w fun e w' => e = .returned (.int .i64 ((k0 + n : Nat) : Int)) ∧ w = w' := by
  obtain ⟨A, n', cap, rfl, hn, hA⟩ := h
  rw [mkL_length] at hn
  subst hn
  have hnm : (n : Int) ≤ 1048576 := by omega
  have hk1 : (k0 : Int) ≤ 5000000 := by omega
  rcases Nat.eq_zero_or_pos n with h0 | h0
  · subst h0
    clear hA
    go_enter Try.func87, Try.ntmps87
    go_wp2
    go_loop [1, 5] (fun u i => u = .int .i64 (k0 : Int) ∧ i = .int .i64 0) (fun _ _ => 0)
    case atStart => exact ⟨rfl, rfl⟩
    case round =>
      obtain ⟨rfl, rfl⟩ := hrel
      go_wp2
      go_ret
      exact ⟨rfl, rfl⟩
  · obtain ⟨b, off, rfl, hbl, hx⟩ := hA h0
    have HX := Lib.hid hx
    clear hA hx h0
    go_enter Try.func87, Try.ntmps87
    go_wp2
    go_loop [1, 5] (fun u i => ∃ k q : Nat, k ≤ n ∧ q = k0 + k ∧ i = .int .i64 k ∧ u = .int .i64 (q : Int)) (fun _ i => n - (intOf i).toNat)
    case atStart => exact ⟨0, k0, by omega, rfl, rfl, rfl⟩
    case round =>
      obtain ⟨k, q, hk, hq, rfl, rfl⟩ := hrel
      by_cases hlt : k < n
      · have hki : (k : Int) < (n : Int) := by omega
        have hqi : (q : Int) ≤ 7000000 := by omega
        have hc := HX.out k hlt
        have hqq : (k0 : Int) + (k : Int) = (q : Int) := by omega
        rw [mkL_at (k0 : Int) hlt, hqq] at hc
        have HQ := Lib.hid hq
        clear hq hqq
        have hxx : ((q : Int) != (q : Int)) = false := by simp
        go_wp2
        go_round
        case rel => exact ⟨k + 1, q + 1, by omega, by have := HQ.out; omega, by go_num, by go_num⟩
        case measure => simp [intOf]; omega
      · obtain rfl : k = n := by omega
        subst hq
        go_wp2
        go_ret
        exact ⟨rfl, rfl⟩
end Go.Proofs.Ytainlanblpccjaa
/- The laws' helpers markBadTable and heldBadTable: their contracts. -/
namespace Go.Proofs.Ytainlanblpccjaa
open Go.RowKit
set_option linter.unusedVariables false
set_option linter.unusedSimpArgs false
def markTbD (k0 : Nat) (M : Tb) : Tb := ⟨M.d, M.b, M.p, M.sp, mkL ((k0 : Nat) : Int) M.bad.length, mkL ((k0 + M.bad.length : Nat) : Int) M.rm.length⟩
theorem markTbD_sz {k0 : Nat} {M : Tb} (h : TbSz M) : TbSz (markTbD k0 M) := by unfold TbSz markTbD; simp only [mkL_length, mkB_length]; exact h
def nTb (M : Tb) : Nat := M.bad.length + M.rm.length
set_option maxHeartbeats 1000000 in
theorem mkTb_any (v : Value) (M : Tb) (k0 : Nat) (w : World) (lo hi : Nat) (h : TbOwn w lo hi v M) (hl : lo ≤ hi) (hh : hi ≤ w.heap.size) (hz : TbSz M) (hk : k0 ≤ 3200000) :
    Calls Try.prog 58 #[v, .int .i64 (k0 : Int)] w fun e w' => e = .returned (.int .i64 ((k0 + nTb M : Nat) : Int)) ∧ TbOwn w' lo hi v (markTbD k0 M) ∧ Kp lo hi w w' := by
  obtain ⟨a4, a5, rfl, h4, h5, d45⟩ := h
  unfold TbSz at hz
  unfold nTb
  obtain ⟨q4, hq4⟩ : ∃ q : Nat, q = k0 + M.bad.length := ⟨_, rfl⟩
  obtain ⟨q5, hq5⟩ : ∃ q : Nat, q = q4 + M.rm.length := ⟨_, rfl⟩
  have HA4 := Lib.hid (fun (W : World) (q : IntsOwn W lo a4 M.bad) => show Calls _ _ _ W (fun e w' => e = .returned (.int .i64 (q4 : Int)) ∧ IntsOwn w' lo a4 (mkL ((k0 : Nat) : Int) M.bad.length) ∧ W.grownBy w' a4.ownBlock ∧ Below lo W w') from by rw [hq4]; exact markIntsL_any lo a4 M.bad k0 W q (by omega) (by omega))
  have HA5 := Lib.hid (fun (W : World) (q : IntsOwn W lo a5 M.rm) => show Calls _ _ _ W (fun e w' => e = .returned (.int .i64 (q5 : Int)) ∧ IntsOwn w' lo a5 (mkL ((q4 : Nat) : Int) M.rm.length) ∧ W.grownBy w' a5.ownBlock ∧ Below lo W w') from by rw [hq5]; exact markIntsL_any lo a5 M.rm q4 W q (by omega) (by omega))
  have H4 := Lib.hid h4
  have H5 := Lib.hid h5
  have D45 := Lib.hid d45
  have HQ := Lib.hid (show q5 = k0 + (M.bad.length + M.rm.length) ∧ markTbD k0 M = ⟨M.d, M.b, M.p, M.sp, mkL ((k0 : Nat) : Int) M.bad.length, mkL ((q4 : Nat) : Int) M.rm.length⟩ by unfold markTbD; subst hq4 hq5; exact ⟨by omega, rfl⟩)
  have hb4 : (q4 : Int) ≤ 5400000 := by omega
  have hb5 : (q5 : Int) ≤ 5400000 := by omega
  have hk0 : (k0 : Int) ≤ 3200000 := by omega
  have hpc : tbc M a4 a5 = #[.int .i64 M.d, .int .i64 M.b, .int .i64 M.p, .int .i64 M.sp, a4, a5] := rfl
  rw [hpc]
  have r0 := Rw.new w 75 #[.int .i64 M.d, .int .i64 M.b, .int .i64 M.p, .int .i64 M.sp, a4, a5]
  have b0 := (Below.refl w.heap.size w).alloc (Nat.le_refl _) (.cells #[.int .i64 M.d, .int .i64 M.b, .int .i64 M.p, .int .i64 M.sp, a4, a5] 75)
  have K := Lib.hid (show Kp lo hi w (w.alloc (.cells #[.int .i64 M.d, .int .i64 M.b, .int .i64 M.p, .int .i64 M.sp, a4, a5] 75)) from ⟨b0.mono (by omega), sm b0 hi (Nat.le_refl _)⟩)
  have A4 := Lib.hid (h4.same (sm b0 lo hh))
  have A5 := Lib.hid (h5.same (sm b0 lo hh))
  have R := Lib.hid r0
  have HNE := Lib.hid (show ∀ (o : Option Nat), (∀ k, o = some k → k < hi) → some w.heap.size ≠ o from fun o ho e => by have := ho _ e.symm; omega)
  obtain ⟨c0, c1, c2, c3, c4, c5⟩ := r0.six
  clear h4 h5 b0 r0 hz hk hpc d45 hq4 hq5
  go_enter Try.func58, Try.ntmps58
  go_wp2_with fail
  refine (HA4.out _ A4.out.1).mono ?_
  rintro e w1 ⟨rfl, ho, hg, hb⟩
  have K' := Lib.hid (K.out.grown hg hb (fun k e => ⟨(H4.out.1.blockOf e).1, H4.out.2 k e⟩))
  clear K
  have K := K'
  clear K'
  have R' := Lib.hid (grownRw R.out hg (HNE.out _ H4.out.2))
  clear R
  have R := R'
  clear R'
  clear A4
  have A4 := Lib.hid (show IO w1 lo hi a4 (mkL ((k0 : Nat) : Int) M.bad.length) from ⟨ho, H4.out.2⟩)
  have A5' := Lib.hid (show IO w1 lo hi a5 _ from ⟨A5.out.1.kept hg (own_ne D45.out), A5.out.2⟩)
  clear A5
  have A5 := A5'
  clear A5'
  clear c0 c1 c2 c3 c4 c5 ho hg hb HA4
  obtain ⟨c0, c1, c2, c3, c4, c5⟩ := R.out.six
  go_wp2_with fail
  refine (HA5.out _ A5.out.1).mono ?_
  rintro e w2 ⟨rfl, ho, hg, hb⟩
  have K' := Lib.hid (K.out.grown hg hb (fun k e => ⟨(H5.out.1.blockOf e).1, H5.out.2 k e⟩))
  clear K
  have K := K'
  clear K'
  have R' := Lib.hid (grownRw R.out hg (HNE.out _ H5.out.2))
  clear R
  have R := R'
  clear R'
  clear A5
  have A5 := Lib.hid (show IO w2 lo hi a5 (mkL ((q4 : Nat) : Int) M.rm.length) from ⟨ho, H5.out.2⟩)
  have A4' := Lib.hid (show IO w2 lo hi a4 _ from ⟨A4.out.1.kept hg (D45.out), A4.out.2⟩)
  clear A4
  have A4 := A4'
  clear A4'
  clear c0 c1 c2 c3 c4 c5 ho hg hb HA5
  obtain ⟨c0, c1, c2, c3, c4, c5⟩ := R.out.six
  go_wp2
  go_ret
  refine ⟨by rw [HQ.out.1] <;> rfl, ?_, K.out⟩
  rw [HQ.out.2]
  exact ⟨a4, a5, rfl, A4.out, A5.out, D45.out⟩
set_option maxHeartbeats 1000000 in
theorem hdTb_any (v : Value) (M : Tb) (k0 : Nat) (w : World) (hi : Nat) (h : TbIn w hi v (markTbD k0 M)) (hh : hi ≤ w.heap.size) (hz : TbSz M) (hk : k0 ≤ 3200000) :
    Calls Try.prog 59 #[v, .int .i64 (k0 : Int)] w fun e w' => e = .returned (.int .i64 ((k0 + nTb M : Nat) : Int)) ∧ Below w.heap.size w w' := by
  obtain ⟨a4, a5, rfl, h4, h5⟩ := h
  unfold TbSz at hz
  unfold nTb
  unfold markTbD at h4 h5
  simp only at h4 h5
  obtain ⟨q4, hq4⟩ : ∃ q : Nat, q = k0 + M.bad.length := ⟨_, rfl⟩
  obtain ⟨q5, hq5⟩ : ∃ q : Nat, q = q4 + M.rm.length := ⟨_, rfl⟩
  have HA4 := Lib.hid (fun (W : World) (q : NI W hi a4 (mkL ((k0 : Nat) : Int) M.bad.length)) (c : hi ≤ W.heap.size) => show Calls _ _ _ W (fun e w' => e = .returned (.int .i64 (q4 : Int)) ∧ W = w') from by rw [hq4]; exact heldIntsL_any a4 k0 M.bad.length W (q.ints c) (by omega) (by omega))
  have hs5 : k0 + M.bad.length = q4 := by omega
  rw [hs5] at h5
  have HA5 := Lib.hid (fun (W : World) (q : NI W hi a5 (mkL ((q4 : Nat) : Int) M.rm.length)) (c : hi ≤ W.heap.size) => show Calls _ _ _ W (fun e w' => e = .returned (.int .i64 (q5 : Int)) ∧ W = w') from by rw [hq5]; exact heldIntsL_any a5 q4 M.rm.length W (q.ints c) (by omega) (by omega))
  have HQ := Lib.hid (show q5 = k0 + (M.bad.length + M.rm.length) by omega)
  have r0 := Rw.new w 75 #[.int .i64 M.d, .int .i64 M.b, .int .i64 M.p, .int .i64 M.sp, a4, a5]
  have b0 := (Below.refl w.heap.size w).alloc (Nat.le_refl _) (.cells #[.int .i64 M.d, .int .i64 M.b, .int .i64 M.p, .int .i64 M.sp, a4, a5] 75)
  have hb4 : (q4 : Int) ≤ 5400000 := by omega
  have hc4 : ¬ ((q4 : Int) < 0) := by omega
  have hb5 : (q5 : Int) ≤ 5400000 := by omega
  have hc5 : ¬ ((q5 : Int) < 0) := by omega
  have hk0 : (k0 : Int) ≤ 3200000 := by omega
  have A4 := Lib.hid (h4.below b0 hh)
  have A5 := Lib.hid (h5.below b0 hh)
  have BB := Lib.hid b0
  show Calls _ _ #[.agg #[.int .i64 M.d, .int .i64 M.b, .int .i64 M.p, .int .i64 M.sp, a4, a5], _] _ _
  obtain ⟨c0, c1, c2, c3, c4, c5⟩ := r0.six
  clear h4 h5 b0 r0 hz hk hq4 hq5 hs5
  go_enter Try.func59, Try.ntmps59
  go_wp2_with fail
  refine (HA4.out _ A4.out (by simp; omega)).mono ?_
  rintro e w1 ⟨rfl, rfl⟩
  go_wp2_with fail
  refine (HA5.out _ A5.out (by simp; omega)).mono ?_
  rintro e w2 ⟨rfl, rfl⟩
  go_wp2
  go_ret
  exact ⟨by rw [HQ.out] <;> rfl, BB.out⟩
end Go.Proofs.Ytainlanblpccjaa
