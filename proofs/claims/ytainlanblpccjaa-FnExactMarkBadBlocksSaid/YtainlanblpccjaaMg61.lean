/- The proof's own lemmas, part 62: TbI. -/
import Derived.Test.YtainlanblpccjaaProg
import Derived.Test.YtainlanblpccjaaMg59
import Derived.Test.YtainlanblpccjaaMg7
import Derived.Test.YtainlanblpccjaaMg22
import Derived.Test.YtainlanblpccjaaMg60
/- Which tables of bad blocks are valid, in the program: the contracts. -/
namespace Go.Proofs.Ytainlanblpccjaa
open Go.RowKit
set_option linter.unusedVariables false
set_option linter.unusedSimpArgs false
theorem mayHold_tb (T : Tb) (A A' : Option Addr) (n c n' c' : Nat) (x : Int) (k : Nat) (r : Bool) (w : World) (hi : Nat) (h : TbShape T) (ha : NI w hi (.slice A n c) T.bad) (hh : hi ≤ w.heap.size) (hl : T.bad.length ≤ 1048576) (hk : (k : Int) < T.d * T.prim)
    (hr : r = true ↔ (x = T.home k ∨ (SpareOf T (T.home k / T.b) x ∧ T.home k ∈ T.bad))) :
    Calls Try.prog 223 #[.agg #[.int .i64 T.d, .int .i64 T.b, .int .i64 T.p, .int .i64 T.sp, .slice A n c, .slice A' n' c'], .int .i64 x, .int .i64 k] w fun e w' => e = .returned (.bool r) ∧ Below w.heap.size w w' := by
  obtain ⟨n1, n2, n3, n4, n5, n6, n7, n8, n9, n10, n11⟩ := h.nums
  have hk0 : (0 : Int) ≤ k := by omega
  obtain ⟨q1, q2, q3, q4, q5⟩ := home_die h hk0
  have q6 := die_lt h hk0 hk
  have q7 : (k : Int) / T.prim * T.b ≤ 3 * 12 := Int.mul_le_mul (by omega) n4 (by omega) (by omega)
  have q8 : 0 ≤ (k : Int) / T.prim * T.b := Int.mul_nonneg q5 (by omega)
  have q9 : ((k : Int) / T.prim + 1) * T.b = (k : Int) / T.prim * T.b + T.b := by rw [Int.add_mul, Int.one_mul]
  refine mayHold_any T.d T.b T.p T.sp T.prim ((k : Int) / T.prim) ((k : Int) % T.prim) (T.home k) ((k : Int) / T.prim) (((k : Int) / T.prim + 1) * T.b) x k A A' n c n' c' T.bad (T.d * T.b) r w hi ha hh h.2.2.2 hl
    n9.symm (by omega) (by omega) (by omega) (Int.tdiv_eq_ediv_of_nonneg hk0) (Int.tmod_eq_emod_of_nonneg hk0) rfl ⟨by omega, by omega⟩ ⟨by omega, by omega⟩ ⟨q3, by omega⟩
    (by omega) ?_ ⟨q5, by omega⟩ rfl (by omega) (by omega) ⟨by omega, n6⟩ ?_
  · rw [Int.tdiv_eq_ediv_of_nonneg q2, q1]
  · rw [hr, q1]; rfl
theorem mem_take_succ {l : List Int} {k : Nat} {z : Int} (hk : k < l.length) : z ∈ l.take (k + 1) ↔ z = l.getD k 0 ∨ z ∈ l.take k := by
  rw [List.take_add_one, List.mem_append, List.getD_eq_getElem?_getD, List.getElem?_eq_getElem hk]
  simp
  exact or_comm
set_option maxHeartbeats 4000000 in
set_option maxRecDepth 100000 in
theorem validRemap_any (d b p sp : Int) (bad rm : List Int) (A A' : Option Addr) (n c n' c' : Nat) (r : Bool) (w : World) (hi : Nat) (h : TbShape ⟨d, b, p, sp, bad, rm⟩) (ha : NI w hi (.slice A n c) bad) (hy : NI w hi (.slice A' n' c') rm) (hh : hi ≤ w.heap.size) (hw : ∀ j, j < rm.length → WfI (rm.getD j 0)) (hl : bad.length ≤ 1048576) (hl' : rm.length ≤ 1048576)
    (hr : r = true ↔ ((rm.length : Int) = d * (b - sp) ∧ ∀ i, i < rm.length → EntryOk ⟨d, b, p, sp, bad, rm⟩ i)) :
    Calls Try.prog 195 #[.agg #[.int .i64 d, .int .i64 b, .int .i64 p, .int .i64 sp, .slice A n c, .slice A' n' c']] w fun e w' => e = .returned (.bool r) ∧ Below w.heap.size w w' := by
  obtain ⟨n1, n2, n3, n4, n5, n6, n7, n8, n9, n10, n11⟩ := h.nums
  obtain ⟨m1, m2⟩ := h.rmLen
  simp only [Tb.prim] at m1 m2 n7 n8 n9 n1 n2 n3 n4 n5 n6
  obtain ⟨X1, X2, X3, e, _, _, hn, hA⟩ := hy
  obtain ⟨rfl, rfl, rfl⟩ : A' = X1 ∧ n' = X2 ∧ c' = X3 := by injection e with e1 e2 e3; exact ⟨e1, e2, e3⟩
  clear e
  have HP := Lib.hid (fun (W : World) => logical_any d b p sp (b - sp) (d * (b - sp)) (.slice A n c) (.slice A' n' c') W rfl (by omega) (by omega) rfl (by omega) (by omega))
  have R0 := Lib.hid (Rw.new w 75 #[.int .i64 d, .int .i64 b, .int .i64 p, .int .i64 sp, .slice A n c, .slice A' n' c'])
  have B0 := Lib.hid ((Below.refl w.heap.size w).alloc (Nat.le_refl _) (.cells #[.int .i64 d, .int .i64 b, .int .i64 p, .int .i64 sp, .slice A n c, .slice A' n' c'] 75))
  have HK := Lib.hid (fun (W : World) (h : Rw W w.heap.size 75 #[.int .i64 d, .int .i64 b, .int .i64 p, .int .i64 sp, .slice A n c, .slice A' n' c']) (hb : Below w.heap.size w W) => show W.cell? ⟨w.heap.size, 0, none⟩ = some (.int .i64 d) ∧ W.cell? ⟨w.heap.size, 1, none⟩ = some (.int .i64 b) ∧ W.cell? ⟨w.heap.size, 2, none⟩ = some (.int .i64 p) ∧ W.cell? ⟨w.heap.size, 3, none⟩ = some (.int .i64 sp) ∧ W.cell? ⟨w.heap.size, 4, none⟩ = some (.slice A n c) ∧ W.cell? ⟨w.heap.size, 5, none⟩ = some (.slice A' n' c') ∧ Below w.heap.size w W from by
    obtain ⟨c0, c1, c2, c3, c4, c5⟩ := h.six
    exact ⟨c0, c1, c2, c3, c4, c5, hb⟩)
  have HM := Lib.hid (fun (W : World) (x : Int) (k : Nat) (rk : Bool) (hb : Below w.heap.size w W) (hk : (k : Int) < d * (b - sp)) (hrk : rk = true ↔ (x = Tb.home ⟨d, b, p, sp, bad, rm⟩ k ∨ (SpareOf ⟨d, b, p, sp, bad, rm⟩ (Tb.home ⟨d, b, p, sp, bad, rm⟩ k / b) x ∧ Tb.home ⟨d, b, p, sp, bad, rm⟩ k ∈ bad))) =>
    mayHold_tb ⟨d, b, p, sp, bad, rm⟩ A A' n c n' c' x k rk W hi h (ha.below hb hh) (Nat.le_trans hh hb.size) hl hk hrk)
  have HI := Lib.hid (fun (W : World) (x : Int) (rb : Bool) (hb : Below w.heap.size w W) (hrb : rb = true ↔ x ∈ bad) => isBad_any d b p sp (.slice A n c) A' n' c' bad (d * b) x rb W hi (ha.below hb hh) (Nat.le_trans hh hb.size) h.2.2.2 hl hrb)
  have HW := Lib.hid hw
  have HA := Lib.hid hA
  have HR := Lib.hid hr
  have HN := Lib.hid hn
  have hnm : (n' : Int) ≤ 1048576 := by omega
  clear h ha hw hl hr hA
  generalize hq : d * (b - sp) = q at *
  clear hq
  by_cases g : (n' : Int) = q
  case neg =>
    have e1 : ((n' : Int) != q) = true := bne_iff_ne.2 g
    obtain rfl : r = false := not_true HR.out (fun e => g (by rw [← HN.out]; exact e.1))
    clear HR HA HW HI HM hn g
    go_enter Try.func195, Try.ntmps195
    go_wp2_with fail
    have k0 := HK.out _ (show Rw (w.alloc (.cells #[.int .i64 d, .int .i64 b, .int .i64 p, .int .i64 sp, .slice A n c, .slice A' n' c'] 75)).drew _ _ _ from R0.out) B0.out.drew
    go_region_held3 (fun W => W.cell? ⟨w.heap.size, 0, none⟩ = some (.int .i64 d) ∧ W.cell? ⟨w.heap.size, 1, none⟩ = some (.int .i64 b) ∧ W.cell? ⟨w.heap.size, 2, none⟩ = some (.int .i64 p) ∧ W.cell? ⟨w.heap.size, 3, none⟩ = some (.int .i64 sp) ∧ W.cell? ⟨w.heap.size, 4, none⟩ = some (.slice A n c) ∧ W.cell? ⟨w.heap.size, 5, none⟩ = some (.slice A' n' c') ∧ Below w.heap.size w W)
      (first
        | with_reducible exact k1
        | with_reducible exact k0)
      (first
        | (go_at_call 140
           refine (HP.out _).mono ?_
           rintro e w1 ⟨rfl, b1⟩
           have r1 := (show Rw (w.alloc (.cells #[.int .i64 d, .int .i64 b, .int .i64 p, .int .i64 sp, .slice A n c, .slice A' n' c'] 75)).drew _ _ _ from R0.out).below b1 (by simp)
           have k1 := HK.out w1 r1 (B0.out.drew.trans (b1.mono (by simp)))
           have R1 := Lib.hid r1
           clear b1 r1))
    go_wp2
    go_ret
    exact ⟨rfl, k1.2.2.2.2.2.2⟩
  have e1 : ((n' : Int) != q) = false := by simpa using g
  obtain ⟨gb, o, rfl, hg1, hx⟩ := HA.out (by omega)
  have HX := Lib.hid hx
  clear HA hx
  go_enter Try.func195, Try.ntmps195
  go_wp2_with fail
  have k0 := HK.out _ (show Rw (w.alloc (.cells #[.int .i64 d, .int .i64 b, .int .i64 p, .int .i64 sp, .slice A n c, .slice (some ⟨gb, o, none⟩) n' c'] 75)).drew _ _ _ from R0.out) B0.out.drew
  go_region_held3 (fun W => W.cell? ⟨w.heap.size, 0, none⟩ = some (.int .i64 d) ∧ W.cell? ⟨w.heap.size, 1, none⟩ = some (.int .i64 b) ∧ W.cell? ⟨w.heap.size, 2, none⟩ = some (.int .i64 p) ∧ W.cell? ⟨w.heap.size, 3, none⟩ = some (.int .i64 sp) ∧ W.cell? ⟨w.heap.size, 4, none⟩ = some (.slice A n c) ∧ W.cell? ⟨w.heap.size, 5, none⟩ = some (.slice (some ⟨gb, o, none⟩) n' c') ∧ Below w.heap.size w W)
    (first
      | with_reducible exact k1
      | with_reducible exact k0)
    (first
      | (go_at_call 140
         refine (HP.out _).mono ?_
         rintro e w1 ⟨rfl, b1⟩
         have r1 := (show Rw (w.alloc (.cells #[.int .i64 d, .int .i64 b, .int .i64 p, .int .i64 sp, .slice A n c, .slice (some ⟨gb, o, none⟩) n' c'] 75)).drew _ _ _ from R0.out).below b1 (by simp)
         have k1 := HK.out w1 r1 (B0.out.drew.trans (b1.mono (by simp)))
         have R1 := Lib.hid r1
         clear b1 r1))
  have HB1 := Lib.hid k1.2.2.2.2.2.2
  obtain ⟨c0, c1, c2, c3, c4, c5, _⟩ := k1
  have hM := R1.out.lt
  clear k0
  have HS0 := Lib.hid (BSet.made w1)
  have RM := Lib.hid (R1.out.alloc (.map #[] 0))
  have HB2 := Lib.hid (HB1.out.alloc (by have := HB1.out.size; omega) (.map #[] 0))
  have hmm := @run_makeMap Try.prog
  clear c0 c1 c2 c3 c4 c5
  obtain ⟨c0, c1, c2, c3, c4, c5⟩ := RM.out.six
  obtain ⟨M, hM1⟩ : ∃ M, M = w1.heap.size := ⟨_, rfl⟩
  rw [← hM1] at HS0 hM
  go_wp2_with fail
  rw [← hM1]
  clear hmm
  go_loopw [16] (fun i wr => ∃ k : Nat, ∃ S : Int → Bool, k ≤ n' ∧ i = .int .i64 k ∧ Hid (∀ j, j < k → EntryOk ⟨d, b, p, sp, bad, rm⟩ j) ∧ Hid (BSet wr M S k) ∧ Hid (∀ z, S z = true ↔ z ∈ rm.take k) ∧ Below w.heap.size w wr ∧ Hid (Rw wr w.heap.size 75 #[.int .i64 d, .int .i64 b, .int .i64 p, .int .i64 sp, .slice A n c, .slice (some ⟨gb, o, none⟩) n' c'])) (fun i _ => n' - (intOf i).toNat)
  case atStart => exact ⟨0, _, by omega, rfl, Lib.hid (fun j hj => by omega), HS0, Lib.hid (fun z => by simp), HB2.out, RM⟩
  case round =>
    clear c0 c1 c2 c3 c4 c5 HB1 R1 HS0 RM HB2 hM1
    obtain ⟨k, S, hk, rfl, HE, HS, HT, hb, RR⟩ := hrel
    obtain ⟨c0, c1, c2, c3, c4, c5⟩ := RR.out.six
    by_cases hlt : k < n'
    · have hki : (k : Int) < (n' : Int) := by omega
      have hc := (hb.cell (p := ⟨gb, o + k, none⟩) (by show gb < _; omega)).trans (HX.out k hlt)
      have HWX := Lib.hid (HW.out k (by omega))
      have HQ := Lib.hid (show EntryOk ⟨d, b, p, sp, bad, rm⟩ k ↔ (¬ rm.getD k 0 ∈ bad ∧ ¬ rm.getD k 0 ∈ rm.take k ∧ (rm.getD k 0 = Tb.home ⟨d, b, p, sp, bad, rm⟩ k ∨ (SpareOf ⟨d, b, p, sp, bad, rm⟩ (Tb.home ⟨d, b, p, sp, bad, rm⟩ k / b) (rm.getD k 0) ∧ Tb.home ⟨d, b, p, sp, bad, rm⟩ k ∈ bad))) from Iff.rfl)
      have HF := Lib.hid (show ¬ EntryOk ⟨d, b, p, sp, bad, rm⟩ k → r = false from fun e => not_true HR.out (fun f => e (f.2 k (by rw [hn]; exact hlt))))
      have HY := Lib.hid (show EntryOk ⟨d, b, p, sp, bad, rm⟩ k → ∀ j, j < k + 1 → EntryOk ⟨d, b, p, sp, bad, rm⟩ j from fun e j hj => by
        by_cases f : j = k
        · subst f; exact e
        · exact HE.out j (by omega))
      have HTK := Lib.hid (show ∀ z, z ∈ rm.take (k + 1) ↔ z = rm.getD k 0 ∨ z ∈ rm.take k from fun z => mem_take_succ (by rw [hn]; exact hlt))
      have HB := Lib.hid hb
      generalize rm.getD k 0 = x at *
      clear hb
      obtain ⟨s, hs⟩ : ∃ s, s = S x := ⟨_, rfl⟩
      have HS' := HT.out x
      rw [← hs] at HS'
      have HSX := Lib.hid HS'
      have Hs := Lib.hid hs.symm
      clear HS' hs
      have hlk := HS.out.look HWX.out
      rw [Hs.out] at hlk
      cases s with
      | true =>
        have HG := Lib.hid (HF.out (fun e => (HQ.out.1 e).2.1 (HSX.out.1 rfl)))
        clear HF HY HQ HTK HR HM HI Hs HSX
        go_wp2
        go_ret
        exact ⟨ret_bool HG.out.symm, HB.out⟩
      | false =>
        obtain ⟨rb, hrb⟩ := prop_dec' (x ∈ bad)
        have HRB := Lib.hid hrb
        have HCB := Lib.hid (HI.out wr x rb HB.out hrb)
        clear hrb
        go_wp2_with fail
        refine HCB.out.mono ?_
        rintro e w2 ⟨rfl, b2⟩
        have HB2 := Lib.hid (HB.out.trans (b2.mono HB.out.size))
        have RR2 := Lib.hid (RR.out.below b2 RR.out.lt)
        have HS2 := Lib.hid (HS.out.below b2 HS.out.lt)
        clear b2 HCB HB RR HS hlk hc c0 c1 c2 c3 c4 c5
        obtain ⟨c0, c1, c2, c3, c4, c5⟩ := RR2.out.six
        cases rb with
        | true =>
          have HG := Lib.hid (HF.out (fun e => (HQ.out.1 e).1 (HRB.out.1 rfl)))
          clear HF HY HQ HTK HR HM HI Hs HSX HRB
          go_wp2
          go_ret
          exact ⟨ret_bool HG.out.symm, HB2.out⟩
        | false =>
          obtain ⟨rk, hrk⟩ := prop_dec' (x = Tb.home ⟨d, b, p, sp, bad, rm⟩ k ∨ (SpareOf ⟨d, b, p, sp, bad, rm⟩ (Tb.home ⟨d, b, p, sp, bad, rm⟩ k / b) x ∧ Tb.home ⟨d, b, p, sp, bad, rm⟩ k ∈ bad))
          have HRK := Lib.hid hrk
          have HCM := Lib.hid (HM.out w2 x k rk HB2.out (by rw [← g]; exact hki) hrk)
          clear hrk
          go_wp2_with fail
          refine HCM.out.mono ?_
          rintro e w3 ⟨rfl, b3⟩
          have HB3 := Lib.hid (HB2.out.trans (b3.mono HB2.out.size))
          have RR3 := Lib.hid (RR2.out.below b3 RR2.out.lt)
          have HS3 := Lib.hid (HS2.out.below b3 HS2.out.lt)
          clear b3 HCM HB2 RR2 HS2 c0 c1 c2 c3 c4 c5
          cases rk with
          | false =>
            have HG := Lib.hid (HF.out (fun e => by have := HRK.out.2 (HQ.out.1 e).2.2; cases this))
            clear HF HY HQ HTK HR HM HI Hs HSX HRB HRK
            go_wp2
            go_ret
            exact ⟨ret_bool HG.out.symm, HB3.out⟩
          | true =>
            have HE2 := Lib.hid (HY.out (HQ.out.2 ⟨fun e => Bool.noConfusion (HRB.out.2 e), fun e => Bool.noConfusion (HSX.out.2 e), HRK.out.1 rfl⟩))
            obtain ⟨w4, hpt, hs4, hg4⟩ := HS3.out.put (by omega) HWX.out
            have HS4 := Lib.hid hs4
            have HB4 := Lib.hid (HB3.out.grown hg4 HB3.out.size (fun j e => by injection e with e; omega))
            have RR4 := Lib.hid (RR3.out.grown hg4 (by omega))
            have HT4 := Lib.hid (show ∀ z, (z == x || S z) = true ↔ z ∈ rm.take (k + 1) from fun z => by rw [HTK.out z, ← HT.out z]; simp)
            clear hs4 hg4 HF HY HQ HTK HR HM HI Hs HSX HRB HRK
            go_wp2_with fail
            go_roundw
            case rel => exact ⟨k + 1, _, by omega, by go_num, HE2, HS4, HT4, HB4.out, RR4⟩
            case measure => simp [intOf]; omega
    · obtain rfl : k = n' := by omega
      obtain rfl : r = true := HR.out.2 ⟨by rw [HN.out]; exact g, fun i hi => HE.out i (by rw [HN.out] at hi; exact hi)⟩
      have HB := Lib.hid hb
      clear HR HM HI HW HX
      go_wp2
      go_ret
      exact ⟨rfl, HB.out⟩
end Go.Proofs.Ytainlanblpccjaa
