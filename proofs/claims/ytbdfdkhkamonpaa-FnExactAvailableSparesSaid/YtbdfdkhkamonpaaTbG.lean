/- The available spare blocks of a die: the program's map, AvailableSpares on both sides: the contracts. -/
import Derived.Test.YtbdfdkhkamonpaaProg
import Derived.Test.YtbdfdkhkamonpaaTbF
import Derived.Test.YtbdfdkhkamonpaaTbL
namespace Go.Proofs.Ytbdfdkhkamonpaa
open Go.RowKit Go.Maps
set_option linter.unusedVariables false
set_option linter.unusedSimpArgs false
/-- The available spare blocks, as a set. -/
def freeS (T : Tb) (F E : Int) (x : Int) : Bool := decide (F ≤ x ∧ x < E) && !(T.bad.contains x) && !(T.rm.contains x)
set_option maxHeartbeats 4000000 in
set_option maxRecDepth 100000 in
theorem freeSp_any (T : Tb) (A A' : Option Addr) (na c ny c' : Nat) (l E F : Int) (n : Nat) (w : World) (hi : Nat) (ha : NI w hi (.slice A na c) T.bad) (hy : NI w hi (.slice A' ny c') T.rm) (hh : hi ≤ w.heap.size) (hl : TbSz T) (hw1 : WfL T.bad) (hw2 : WfL T.rm)
    (hl0 : 0 ≤ l ∧ l ≤ 1000) (hE : (l + 1) * T.b = E) (hE2 : 0 ≤ E ∧ E ≤ 100000) (hsp : T.sp = (n : Int)) (hn : n ≤ 4) (hF : F = E - T.sp) :
    Calls Try.prog 75 #[.agg #[.int .i64 T.d, .int .i64 T.b, .int .i64 T.p, .int .i64 T.sp, .slice A na c, .slice A' ny c'], .int .i64 l] w fun e w' => ∃ g m, e = .returned (.map (some g)) ∧ w.heap.size ≤ g ∧ BSet w' g (freeS T F E) m ∧ Below w.heap.size w w' := by
  have HSP := Lib.hid (fun (W : World) => spares_any T.d T.b T.p T.sp l E (.slice A na c) (.slice A' ny c') W hl0 hE (by omega) (by omega) (by omega))
  obtain ⟨X1, X2, X3, e, _, _, hna, hA⟩ := ha
  injection e with q1 q2 q3
  subst q1 q2 q3
  obtain ⟨X1, X2, X3, e, _, _, hny, hY⟩ := hy
  injection e with q1 q2 q3
  subst q1 q2 q3
  unfold TbSz at hl
  obtain ⟨d, b, p, sp, bad, rm⟩ := T
  simp only at *
  subst hsp
  have hEF : E = F + n := by omega
  have hnaI : (na : Int) ≤ 1048576 := by omega
  have hnyI : (ny : Int) ≤ 1048576 := by omega
  have hFb : -10 ≤ F ∧ F ≤ 100000 := by omega
  have b0 := (Below.refl w.heap.size w).alloc (Nat.le_refl _) (.cells #[.int .i64 d, .int .i64 b, .int .i64 p, .int .i64 (n : Int), .slice A na c, .slice A' ny c'] 52)
  have r0 := Rw.new w 52 #[.int .i64 d, .int .i64 b, .int .i64 p, .int .i64 (n : Int), .slice A na c, .slice A' ny c']
  have s0 := BSet.made (w.alloc (.cells #[.int .i64 d, .int .i64 b, .int .i64 p, .int .i64 (n : Int), .slice A na c, .slice A' ny c'] 52))
  rw [show (w.alloc (.cells #[.int .i64 d, .int .i64 b, .int .i64 p, .int .i64 (n : Int), .slice A na c, .slice A' ny c'] 52)).heap.size = w.heap.size + 1 by simp] at s0
  have R1 := Lib.hid (r0.alloc (.map #[] 0))
  have B1 := Lib.hid (b0.alloc (by simp) (.map #[] 0))
  have S1 := Lib.hid s0
  have hz2 : ((w.alloc (.cells #[.int .i64 d, .int .i64 b, .int .i64 p, .int .i64 (n : Int), .slice A na c, .slice A' ny c'] 52)).alloc (.map #[] 0)).heap.size = w.heap.size + 2 := by simp
  have HZ2 := Lib.hid hz2
  have HA := Lib.hid hA
  have HY := Lib.hid hY
  have HH := Lib.hid hh
  have HW1 := Lib.hid (show ∀ i, i < na → WfI (bad.getD i 0) from fun i hi => hw1 i (by omega))
  have HW2 := Lib.hid (show ∀ i, i < ny → WfI (rm.getD i 0) from fun i hi => hw2 i (by omega))
  have HNA := Lib.hid hna
  have HNY := Lib.hid hny
  have hmm := @run_makeMap Try.prog
  obtain ⟨c0, c1, c2, c3, c4, c5⟩ := R1.out.six
  clear b0 r0 s0 hA hY hh hw1 hw2 hna hny hE hF hl hz2
  go_enter Try.func75, Try.ntmps75
  go_wp2_with fail
  refine (HSP.out _).mono ?_
  rintro e w1 ⟨rfl, b1⟩
  have R2 := Lib.hid (R1.out.below b1 (by rw [HZ2.out]; omega))
  have S2 := Lib.hid (S1.out.below b1 (by rw [HZ2.out]; omega))
  have B2 := Lib.hid (B1.out.trans (b1.mono B1.out.size))
  have Z2 := Lib.hid (show w.heap.size + 2 ≤ w1.heap.size by have := b1.size; rw [HZ2.out] at this; exact this)
  have S3 := Lib.hid (S2.out.alike (S' := fun x => decide (F ≤ x ∧ x < F + ((0 : Nat) : Int))) (fun x _ => by simp <;> omega))
  clear b1 c0 c1 c2 c3 c4 c5 R1 S1 B1 S2 hmm HSP HZ2
  have hEn : E - (n : Int) = F := by omega
  rw [hEn]
  go_wp2_with fail
  go_loopw [8] (fun i wr => ∃ k : Nat, k ≤ n ∧ i = .int .i64 (F + (k : Int)) ∧ Hid (BSet wr (w.heap.size + 1) (fun x => decide (F ≤ x ∧ x < F + (k : Int))) k) ∧ Hid (Rw wr w.heap.size 52 #[.int .i64 d, .int .i64 b, .int .i64 p, .int .i64 (n : Int), .slice A na c, .slice A' ny c']) ∧ Hid (Below w.heap.size w wr) ∧ Hid (w.heap.size + 2 ≤ wr.heap.size)) (fun i _ => (F + n - intOf i).toNat)
  case atStart => exact ⟨0, by omega, by simp, S3, R2, B2, Z2⟩
  case round =>
    clear S3 R2 B2 Z2
    obtain ⟨k, hk, rfl, HS, HR, HB, HZ⟩ := hrel
    by_cases hlt : k < n
    · have dl : decide (F + (k : Int) < E) = true := by simp; omega
      have hw4 : IntKind.i64.wrap (F + (k : Int) + 1) = F + ((k + 1 : Nat) : Int) := by rw [IntWalk.i64_in _ (by omega)]; omega
      have hz := HZ.out
      obtain ⟨w4, hpt, hs4, hg4⟩ := HS.out.put (by omega) (show WfI (F + (k : Int)) from wfI_of (by omega) (by omega))
      have HS4 := Lib.hid (hs4.alike (S' := fun x => decide (F ≤ x ∧ x < F + ((k + 1 : Nat) : Int))) (fun x _ => by
        rw [Bool.eq_iff_iff]; simp only [Bool.or_eq_true, beq_iff_eq, decide_eq_true_eq]; omega))
      have HR4 := Lib.hid (show Rw w4 w.heap.size _ _ from (hg4.block _ (by omega) (fun e => by injection e with e; omega)).trans HR.out)
      have HB4 := Lib.hid (HB.out.grown hg4 HB.out.size (fun j e => by injection e with e; omega))
      have HZ4 := Lib.hid (show w.heap.size + 2 ≤ w4.heap.size from Nat.le_trans hz hg4.size)
      clear hs4 hg4 hz HS HR HB HZ
      go_wp2_with fail
      go_roundw
      case rel => exact ⟨k + 1, by omega, by go_num, HS4, HR4, HB4, HZ4⟩
      case measure => simp [intOf]; omega
    · obtain rfl : k = n := by omega
      have dl : decide (F + (k : Int) < E) = false := by simp; omega
      have S5 := Lib.hid (HS.out.alike (S' := fun x => decide (F ≤ x ∧ x < E) && !((bad.take 0).contains x)) (fun x _ => by
        rw [Bool.eq_iff_iff]; simp; omega))
      obtain ⟨c0, c1, c2, c3, c4, c5⟩ := HR.out.six
      clear HS
      go_wp2_with fail
      clear c0 c1 c2 c3 c4 c5
      go_loopw [31] (fun i wr => ∃ j : Nat, j ≤ na ∧ i = .int .i64 (j : Int) ∧ Hid (BSet wr (w.heap.size + 1) (fun x => decide (F ≤ x ∧ x < E) && !((bad.take j).contains x)) k) ∧ Hid (Rw wr w.heap.size 52 #[.int .i64 d, .int .i64 b, .int .i64 p, .int .i64 (k : Int), .slice A na c, .slice A' ny c']) ∧ Hid (Below w.heap.size w wr) ∧ Hid (w.heap.size + 2 ≤ wr.heap.size)) (fun i _ => na - (intOf i).toNat)
      case atStart => exact ⟨0, by omega, rfl, S5, HR, HB, HZ⟩
      case round =>
        clear S5 HR HB HZ
        obtain ⟨j, hj, rfl, HS, HR, HB, HZ⟩ := hrel
        by_cases hlt2 : j < na
        · have hji : (j : Int) < (na : Int) := by omega
          obtain ⟨pb, po, rfl, hp2, hpx⟩ := HA.out (by omega)
          have e1 := (HB.out.cell (p := ⟨pb, po + j, none⟩) (by have := HH.out; show pb < _; omega)).trans (hpx j hlt2)
          have hwk := HW1.out j hlt2
          have hkl : j < bad.length := by rw [HNA.out]; exact hlt2
          have HT := Lib.hid (show ∀ x, (x != bad.getD j 0 && (decide (F ≤ x ∧ x < E) && !((bad.take j).contains x))) = (decide (F ≤ x ∧ x < E) && !((bad.take (j + 1)).contains x)) from fun x => by
            rw [List.take_succ_eq_append_getElem hkl, List.getD_eq_getElem?_getD, List.getElem?_eq_getElem hkl, Bool.eq_iff_iff]
            simp only [Option.getD_some, Bool.and_eq_true, bne_iff_ne, ne_eq, Bool.not_eq_true', decide_eq_true_eq, ← Bool.not_eq_true, List.contains_iff_mem, List.mem_append, List.mem_singleton, not_or]
            constructor
            · rintro ⟨h1, h2, h3⟩; exact ⟨h2, h3, h1⟩
            · rintro ⟨h2, h3, h1⟩; exact ⟨h1, h2, h3⟩)
          have hz := HZ.out
          have hs := HS.out
          generalize bad.getD j 0 = y at *
          clear hpx HA HY HW1 HW2 HS
          go_wp2_with (at_delete; refine wpList_del_bset rfl _ _ rfl rfl hs y rfl hwk ?_; intro w4 hs4 hg4; have HS4 := Lib.hid (hs4.alike (fun x _ => HT.out x)); have HR4 := Lib.hid (show Rw w4 w.heap.size _ _ from (hg4.block _ (by omega) (fun e => by injection e with e; omega)).trans HR.out); have HB4 := Lib.hid (HB.out.grown hg4 HB.out.size (fun j e => by injection e with e; omega)); have HZ4 := Lib.hid (show w.heap.size + 2 ≤ w4.heap.size from Nat.le_trans hz hg4.size); clear hs4 hg4 hs hz)
          go_roundw
          case rel => exact ⟨j + 1, by omega, by go_num, HS4, HR4, HB4, HZ4⟩
          case measure => simp [intOf]; omega
        · obtain rfl : j = na := by omega
          have S6 := Lib.hid (HS.out.alike (S' := fun x => decide (F ≤ x ∧ x < E) && !(bad.contains x) && !((rm.take 0).contains x)) (fun x _ => by
            rw [show bad.take j = bad by rw [← HNA.out, List.take_length]]; simp))
          obtain ⟨c0, c1, c2, c3, c4, c5⟩ := HR.out.six
          clear HS
          go_wp2_with fail
          clear c0 c1 c2 c3 c4 c5
          go_loopw [41] (fun i wr => ∃ t : Nat, t ≤ ny ∧ i = .int .i64 (t : Int) ∧ Hid (BSet wr (w.heap.size + 1) (fun x => decide (F ≤ x ∧ x < E) && !(bad.contains x) && !((rm.take t).contains x)) k) ∧ Hid (Below w.heap.size w wr) ∧ Hid (w.heap.size + 2 ≤ wr.heap.size)) (fun i _ => ny - (intOf i).toNat)
          case atStart => exact ⟨0, by omega, rfl, S6, HB, HZ⟩
          case round =>
            clear S6 HR HB HZ
            obtain ⟨t, ht, rfl, HS, HB, HZ⟩ := hrel
            by_cases hlt3 : t < ny
            · have hti : (t : Int) < (ny : Int) := by omega
              obtain ⟨pb, po, rfl, hp2, hpx⟩ := HY.out (by omega)
              have e1 := (HB.out.cell (p := ⟨pb, po + t, none⟩) (by have := HH.out; show pb < _; omega)).trans (hpx t hlt3)
              have hwk := HW2.out t hlt3
              have hkl : t < rm.length := by rw [HNY.out]; exact hlt3
              have HT := Lib.hid (show ∀ x, (x != rm.getD t 0 && (decide (F ≤ x ∧ x < E) && !(bad.contains x) && !((rm.take t).contains x))) = (decide (F ≤ x ∧ x < E) && !(bad.contains x) && !((rm.take (t + 1)).contains x)) from fun x => by
                rw [List.take_succ_eq_append_getElem hkl, List.getD_eq_getElem?_getD, List.getElem?_eq_getElem hkl, Bool.eq_iff_iff]
                simp only [Option.getD_some, Bool.and_eq_true, bne_iff_ne, ne_eq, Bool.not_eq_true', decide_eq_true_eq, ← Bool.not_eq_true, List.contains_iff_mem, List.mem_append, List.mem_singleton, not_or]
                constructor
                · rintro ⟨h1, ⟨h2, h3⟩, h4⟩; exact ⟨⟨h2, h3⟩, h4, h1⟩
                · rintro ⟨⟨h2, h3⟩, h4, h1⟩; exact ⟨h1, ⟨h2, h3⟩, h4⟩)
              have hz := HZ.out
              have hs := HS.out
              generalize rm.getD t 0 = y at *
              clear hpx HA HY HW1 HW2 HS
              go_wp2_with (at_delete; refine wpList_del_bset rfl _ _ rfl rfl hs y rfl hwk ?_; intro w4 hs4 hg4; have HS4 := Lib.hid (hs4.alike (fun x _ => HT.out x)); have HB4 := Lib.hid (HB.out.grown hg4 HB.out.size (fun j e => by injection e with e; omega)); have HZ4 := Lib.hid (show w.heap.size + 2 ≤ w4.heap.size from Nat.le_trans hz hg4.size); clear hs4 hg4 hs hz)
              go_roundw
              case rel => exact ⟨t + 1, by omega, by go_num, HS4, HB4, HZ4⟩
              case measure => simp [intOf]; omega
            · obtain rfl : t = ny := by omega
              have HSE := Lib.hid (HS.out.alike (S' := freeS ⟨d, b, p, (k : Int), bad, rm⟩ F E) (fun x _ => by rw [show rm.take t = rm by rw [← HNY.out, List.take_length]]; rfl))
              clear HS HA HY HW1 HW2
              go_wp2
              go_ret
              exact ⟨_, _, rfl, by omega, HSE.out, HB.out⟩
end Go.Proofs.Ytbdfdkhkamonpaa
