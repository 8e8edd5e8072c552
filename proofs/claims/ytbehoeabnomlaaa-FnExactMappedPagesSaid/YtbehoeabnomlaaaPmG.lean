/- MappedPages, in the program and in the model: the contracts. -/
import Derived.Test.YtbehoeabnomlaaaProg
import Derived.Test.YtbehoeabnomlaaaPmP
import Derived.Test.YtbehoeabnomlaaaPmE
namespace Go.Proofs.Ytbehoeabnomlaaa
open Go.RowKit
set_option linter.unusedVariables false
set_option linter.unusedSimpArgs false
def mapL (mp : List Int) (tr : List Bool) : Nat → List Int
  | 0 => []
  | k + 1 => if mp.getD k 0 ≠ -1 ∧ tr.getD k false = false then mapL mp tr k ++ [(k : Int)] else mapL mp tr k
theorem mapL_le (mp : List Int) (tr : List Bool) (k : Nat) : (mapL mp tr k).length ≤ k := by
  induction k with
  | zero => simp [mapL]
  | succ k ih =>
    unfold mapL
    split
    · simp; omega
    · omega
/-- What MappedPages answers. -/
def mappedL (M : Pm) (r : Bool) : List Int := if r = true then mapL M.mp M.tr M.mp.length else []
theorem mappedL_le {M : Pm} {r : Bool} (hl : PmSz M) : (mappedL M r).length ≤ 1048576 := by
  unfold mappedL PmSz at *
  split
  · have := mapL_le M.mp M.tr M.mp.length; omega
  · simp
set_option maxHeartbeats 4000000 in
set_option maxRecDepth 100000 in
theorem implMapped_any (u : Value) (M : Pm) (r : Bool) (w : World) (hi : Nat) (h : PmIn w hi u M) (hh : hi ≤ w.heap.size) (hr : r = true ↔ PmOk M) (hl : PmSz M) (hW : PmW M) :
    Calls Try.prog 36 #[u] w (CopyPostI (mappedL M r) w) := by
  have HV := Lib.hid (fun (W : World) (hb : Below w.heap.size w W) => implPmOk_any u M r W hi (h.below hb hh) (Nat.le_trans hh hb.size) hr hl hW)
  obtain ⟨x, y, rfl, h1, h2⟩ := h
  obtain ⟨A, n, c, rfl⟩ := h1.slice
  obtain ⟨A', n', c', rfl⟩ := h2.slice
  obtain ⟨bb, p, mp, tr⟩ := M
  unfold pmc at *
  simp only at *
  have r0 := Rw.new w 28 #[.int .i64 bb, .int .i64 p, .slice A n c, .slice A' n' c']
  have b0 := (Below.refl w.heap.size w).alloc (Nat.le_refl _) (.cells #[.int .i64 bb, .int .i64 p, .slice A n c, .slice A' n' c'] 28)
  have hz : (w.alloc (.cells #[.int .i64 bb, .int .i64 p, .slice A n c, .slice A' n' c'] 28)).heap.size = w.heap.size + 1 := by simp
  have hn : mp.length = n := by obtain ⟨X1, X2, X3, e, _, _, hn, _⟩ := h1; injection e with e1 e2 e3; omega
  have hn' : tr.length = n' := by obtain ⟨X1, X2, X3, e, _, _, hn, _⟩ := h2; injection e with e1 e2 e3; omega
  have hlen : r = true → n' = n ∧ n ≤ 48 := fun e => by have := (hr.1 e).2.1; have q := (hr.1 e).1.1.2; simp only at this q; omega
  have hln : n ≤ 1048576 := by unfold PmSz at hl; simp only at hl; omega
  have hnm : (n : Int) ≤ 9223372036854775807 := by omega
  have HD := Lib.hid (fun (W : World) (hb : Below w.heap.size w W) (k : Nat) (rd : Bool) (hk : k < n) (hk' : k < n') (e : rd = true ↔ (mp.getD k 0 ≠ -1 ∧ tr.getD k false = false)) => hasData_any bb p mp tr A A' n c n' c' k rd W hi (h1.below hb hh) (h2.below hb hh) (Nat.le_trans hh hb.size) hk hk' hln e)
  have HP := Lib.hid (fun (W : World) => logicalPages_any bb p A A' n c n' c' W hnm)
  have HN := Lib.hid hn
  have HLE := Lib.hid hlen
  have R0 := Lib.hid r0
  have B0 := Lib.hid b0
  clear h1 h2 hr hl hW hn hn' r0 b0 hlen hln hnm
  go_enter Try.func36, Try.ntmps36
  go_wp2_with fail
  refine (HV.out _ B0.out).mono ?_
  rintro e w1 ⟨rfl, b1⟩
  rw [hz] at b1
  have B1 := Lib.hid (B0.out.trans (b1.mono (by omega)))
  have R1 := Lib.hid (R0.out.below b1 (by omega))
  obtain ⟨c0, c1, c2, c3⟩ := R1.out.four
  clear b1 HV B0 R0 hz
  cases r with
  | false =>
    clear HD HP
    go_wp2
    go_ret
    exact ⟨_, rfl, show IntsOwn _ _ _ [] from World.ownsRow_nil w1 _ _ 1, B1.out⟩
  | true =>
  obtain ⟨hnn, hln⟩ := HLE.out (by simp)
  have HNN := Lib.hid hnn
  have hnm : (n : Int) ≤ 48 := by omega
  have HL := Lib.hid (show mappedL ⟨bb, p, mp, tr⟩ true = mapL mp tr n by unfold mappedL; rw [if_pos rfl, ← HN.out])
  have HLEN := Lib.hid (mapL_le mp tr)
  clear hnn HLE
  go_wp2_with fail
  refine (HP.out _).mono ?_
  rintro e w2 ⟨rfl, b2⟩
  have B2 := Lib.hid (B1.out.trans (b2.mono B1.out.size))
  have R2 := Lib.hid (R1.out.below b2 R1.out.lt)
  clear b2 HP c0 c1 c2 c3 B1 R1
  go_wp2_with fail
  have hr2 := R2.out.lt
  go_loopw [3, 10] (fun v j wr => ∃ k : Nat, k ≤ n ∧ j = .int .i64 (k : Int) ∧ Hid (IntsOwn wr w2.heap.size v (mapL mp tr k)) ∧ Hid (Below w2.heap.size w2 wr)) (fun _ j _ => n - (intOf j).toNat)
  case atStart => exact ⟨0, by omega, rfl, Lib.hid (show IntsOwn _ _ _ [] from World.ownsRow_nil w2 _ _ 1), Lib.hid (Below.refl _ _)⟩
  case round =>
    obtain ⟨k, hk, rfl, hown, HB⟩ := hrel
    have RR := Lib.hid (R2.out.below HB.out hr2)
    obtain ⟨q0, q1, q2, q3⟩ := RR.out.four
    by_cases hlt : k < n
    · have hki : (k : Int) < (n : Int) := by omega
      obtain ⟨rd, hrd⟩ := prop_dec' (mp.getD k 0 ≠ -1 ∧ tr.getD k false = false)
      have HDD := Lib.hid (HD.out wr (B2.out.trans (HB.out.mono B2.out.size)) k rd hlt (by rw [HNN.out]; exact hlt) hrd)
      have HNX := Lib.hid (show mapL mp tr (k + 1) = if mp.getD k 0 ≠ -1 ∧ tr.getD k false = false then mapL mp tr k ++ [(k : Int)] else mapL mp tr k from rfl)
      have HRD := Lib.hid hrd
      have hln := HLEN.out k
      clear hrd
      go_wp2_with fail
      refine HDD.out.mono ?_
      rintro e w3 ⟨rfl, b3⟩
      have HB3 := Lib.hid (HB.out.trans (b3.mono HB.out.size))
      have hown3 := hown.out.later b3 (Nat.le_refl _)
      clear b3 HDD hown HB q0 q1 q2 q3
      cases rd with
      | false =>
        have HN2 := Lib.hid (show mapL mp tr (k + 1) = mapL mp tr k from by rw [HNX.out, if_neg (fun e => by have := HRD.out.2 e; cases this)])
        have HO := Lib.hid hown3
        clear hown3 HNX HRD
        go_wp2
        go_roundw
        case rel => exact ⟨k + 1, by omega, by go_num, Lib.hid (by rw [HN2.out]; exact HO.out), HB3⟩
        case measure => simp [intOf]; omega
      | true =>
        have HN2 := Lib.hid (show mapL mp tr (k + 1) = mapL mp tr k ++ [(k : Int)] from by rw [HNX.out, if_pos (HRD.out.1 (by rfl))])
        have hb' := HB3.out
        have hz' := HB3.out.size
        clear HNX HRD HB3
        go_wp2_with (at_builtin; refine wpList_append_int rfl _ _ rfl _ _ rfl hown3 hb' hz' _ _ rfl (by omega) ?_; intro v' w1 hown4 hb2; clear hown3 hb')
        go_roundw
        case rel => exact ⟨k + 1, by omega, by go_num, Lib.hid (by rw [HN2.out]; exact hown4), Lib.hid hb2⟩
        case measure => simp [intOf]; omega
    · obtain rfl : k = n := by omega
      go_wp2
      go_ret
      exact ⟨_, rfl, by rw [HL.out]; exact hown.out.low B2.out.size, B2.out.trans (HB.out.mono B2.out.size)⟩
set_option maxHeartbeats 4000000 in
set_option maxRecDepth 100000 in
theorem specMapped_any (u : Value) (M : Pm) (r : Bool) (w : World) (hi : Nat) (h : PmIn w hi u M) (hh : hi ≤ w.heap.size) (hr : r = true ↔ PmOk M) (hl : PmSz M) :
    Calls Try.prog 35 #[u] w (CopyPostI (mappedL M r) w) := by
  obtain ⟨x, y, rfl, h1, h2⟩ := h
  obtain ⟨A, n, c, rfl⟩ := h1.slice
  obtain ⟨A', n', c', rfl⟩ := h2.slice
  obtain ⟨bb, p, mp, tr⟩ := M
  unfold pmc at *
  simp only at *
  have r0 := (Rw.new w 28 #[.int .i64 bb, .int .i64 p, .slice A n c, .slice A' n' c']).alloc (.cells #[] 2)
  have b0 := ((Below.refl w.heap.size w).alloc (Nat.le_refl _) (.cells #[.int .i64 bb, .int .i64 p, .slice A n c, .slice A' n' c'] 28)).alloc (by simp) (.cells #[] 2)
  have hz : ((w.alloc (.cells #[.int .i64 bb, .int .i64 p, .slice A n c, .slice A' n' c'] 28)).alloc (.cells #[] 2)).heap.size = w.heap.size + 2 := by simp
  have hi1 := IntsOwn.made (w.alloc (.cells #[.int .i64 bb, .int .i64 p, .slice A n c, .slice A' n' c'] 28)) (B := w.heap.size + 1) (by simp)
  rw [show (w.alloc (.cells #[.int .i64 bb, .int .i64 p, .slice A n c, .slice A' n' c'] 28)).heap.size = w.heap.size + 1 by simp] at hi1
  have hn : mp.length = n := by obtain ⟨X1, X2, X3, e, _, _, hn, _⟩ := h1; injection e with e1 e2 e3; omega
  have HS := Lib.hid (specOkP_any w.heap.size bb p mp tr _ _ r _ hi r0 (h1.below b0 hh) (h2.below b0 hh) (by simp; omega) hr (by unfold PmSz at hl; simpa using hl))
  have HP := Lib.hid (fun (W : World) (hb : Below w.heap.size w W) (hR : Rw W w.heap.size 28 #[.int .i64 bb, .int .i64 p, .slice A n c, .slice A' n' c']) (e : r = true) (l x : Int) (ok : Bool) (hp : PhIs ⟨bb, p, mp, tr⟩ true l x ok) => specPhysP_any w.heap.size bb p mp tr _ _ l x ok W hi hR (h1.below hb hh) (h2.below hb hh) (Nat.le_trans hh hb.size) (hr.1 e) hp)
  have hlen : r = true → n ≤ 48 := fun e => by have q := (hr.1 e).1.1.2; simp only at q; omega
  have HLE := Lib.hid hlen
  obtain ⟨W0, hW0⟩ : ∃ W0, W0 = w.alloc (.cells #[.int .i64 bb, .int .i64 p, .slice A n c, .slice A' n' c'] 28) := ⟨_, rfl⟩
  have BW0 := Lib.hid (show Below w.heap.size w W0 ∧ W0.heap.size = w.heap.size + 1 ∧ Rw W0 w.heap.size 28 #[.int .i64 bb, .int .i64 p, .slice A n c, .slice A' n' c'] from by
    rw [hW0]
    exact ⟨(Below.refl w.heap.size w).alloc (Nat.le_refl _) _, by simp, Rw.new w _ _⟩)
  have BV0 := Lib.hid (show Below (w.heap.size + 1) W0 ((w.alloc (.cells #[.int .i64 bb, .int .i64 p, .slice A n c, .slice A' n' c'] 28)).alloc (.cells #[] 2)) from by
    rw [← hW0]
    exact (Below.refl _ _).alloc (by rw [BW0.out.2.1]; omega) _)
  clear hW0
  have HN := Lib.hid hn
  have R0 := Lib.hid r0
  have B0 := Lib.hid b0
  have HI1 := Lib.hid hi1
  clear h1 h2 hr hl hn r0 b0 hi1 hlen
  go_enter Try.func35, Try.ntmps35
  go_wp2_with fail
  refine HS.out.mono ?_
  rintro e w1 ⟨rfl, b1⟩
  rw [hz] at b1
  have B1 := Lib.hid (B0.out.trans (b1.mono (by omega)))
  have BV1 := Lib.hid (BV0.out.trans (b1.mono (by omega)))
  have R1 := Lib.hid (R0.out.below b1 (by omega))
  have hown1 := HI1.out.later b1 (by omega)
  clear b1 HS B0 R0 hz HI1
  cases r with
  | false =>
    have HO := Lib.hid hown1
    clear hown1
    go_wp2
    go_ret
    exact ⟨_, rfl, show IntsOwn _ _ _ [] from HO.out.low (by omega), B1.out⟩
  | true =>
  have hnm : (n : Int) ≤ 48 := by have := HLE.out (by simp); omega
  have HL := Lib.hid (show mappedL ⟨bb, p, mp, tr⟩ true = mapL mp tr n by unfold mappedL; rw [if_pos rfl, ← HN.out])
  have HLEN := Lib.hid (mapL_le mp tr)
  have HO1 := Lib.hid hown1
  have hr1 := R1.out.lt
  obtain ⟨q0, q1, q2, q3⟩ := R1.out.four
  clear hown1
  go_wp2_with fail
  clear q0 q1 q2 q3
  go_loopw [3, 4] (fun v j wr => ∃ k : Nat, k ≤ n ∧ j = .int .i64 (k : Int) ∧ Hid (IntsOwn wr (w.heap.size + 1) v (mapL mp tr k)) ∧ Hid (Below (w.heap.size + 1) W0 wr)) (fun _ j _ => n - (intOf j).toNat)
  case atStart => exact ⟨0, by omega, rfl, HO1, BV1⟩
  case round =>
    obtain ⟨k, hk, rfl, hown, HBV⟩ := hrel
    have HB := Lib.hid (BW0.out.1.trans (HBV.out.mono (by omega)))
    have RR := Lib.hid (BW0.out.2.2.below HBV.out (by omega))
    obtain ⟨q0, q1, q2, q3⟩ := RR.out.four
    by_cases hlt : k < n
    · have hki : (k : Int) < (n : Int) := by omega
      have HNX := Lib.hid (show mapL mp tr (k + 1) = if mp.getD k 0 ≠ -1 ∧ tr.getD k false = false then mapL mp tr k ++ [(k : Int)] else mapL mp tr k from rfl)
      have hln := HLEN.out k
      by_cases hd : mp.getD k 0 ≠ -1 ∧ tr.getD k false = false
      · have HN2 := Lib.hid (show mapL mp tr (k + 1) = mapL mp tr k ++ [(k : Int)] from by rw [HNX.out, if_pos hd])
        have HPP := Lib.hid (HP.out wr HB.out RR.out (by simp) (k : Int) (mp.getD k 0) true (.inl ⟨k, rfl, by have := HN.out; simp only; omega, rfl, hd.1, hd.2, rfl, rfl⟩))
        have hown3 := hown.out
        have hb' := HBV.out
        have hz' : w.heap.size + 1 ≤ wr.heap.size := by have := HBV.out.size; rw [BW0.out.2.1] at this; exact this
        clear HNX hd hown HB
        generalize mp.getD k 0 = xk at *
        go_wp2_with fail
        refine HPP.out.mono ?_
        rintro e w3 ⟨rfl, rfl⟩
        go_wp2_with (at_builtin; refine wpList_append_int rfl _ _ rfl _ _ rfl hown3 hb' hz' _ _ rfl (by omega) ?_; intro v' w1 hown4 hb2; clear hown3)
        go_roundw
        case rel => exact ⟨k + 1, by omega, by go_num, Lib.hid (by rw [HN2.out]; exact hown4), Lib.hid hb2⟩
        case measure => simp [intOf]; omega
      · have HN2 := Lib.hid (show mapL mp tr (k + 1) = mapL mp tr k from by rw [HNX.out, if_neg hd])
        have HPP := Lib.hid (HP.out wr HB.out RR.out (by simp) (k : Int) 0 false (.inr (.inl ⟨k, rfl, by have := HN.out; simp only; omega, rfl, by
          by_cases e : mp.getD k 0 = -1
          · exact .inl e
          · exact .inr ⟨e, by cases t : tr.getD k false; exact absurd ⟨e, t⟩ hd; rfl⟩, rfl, rfl⟩)))
        clear HNX hd
        go_wp2_with fail
        refine HPP.out.mono ?_
        rintro e w3 ⟨rfl, rfl⟩
        go_wp2
        go_roundw
        case rel => exact ⟨k + 1, by omega, by go_num, Lib.hid (by rw [HN2.out]; exact hown.out), HBV⟩
        case measure => simp [intOf]; omega
    · obtain rfl : k = n := by omega
      go_wp2
      go_ret
      exact ⟨_, rfl, by rw [HL.out]; exact hown.out.low (by omega), HB.out⟩
end Go.Proofs.Ytbehoeabnomlaaa
