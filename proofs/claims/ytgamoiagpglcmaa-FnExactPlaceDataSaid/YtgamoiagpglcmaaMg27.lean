/- The proof's own lemmas, part 28: WrI. -/
import Derived.Test.YtgamoiagpglcmaaProg
import Derived.Test.YtgamoiagpglcmaaMg19
import Derived.Test.YtgamoiagpglcmaaShelf
import Derived.Test.YtgamoiagpglcmaaMg17
import Derived.Test.YtgamoiagpglcmaaMg11
import Derived.Test.YtgamoiagpglcmaaMg7
import Derived.Test.YtgamoiagpglcmaaMg3
import Derived.BigQuiet
import Derived.Deep.QuietTactic
import Derived.StillTailTactics
import Derived.Lib.Hide
/- The first block in an order, in the program: the contracts. -/
namespace Go.Proofs.Ytgamoiagpglcmaa
open Go.RowKit
set_option linter.unusedVariables false
set_option linter.unusedSimpArgs false
theorem cmpC_any (x y : Int) (w : World) : Calls Try.prog 110 #[.int .i64 x, .int .i64 y] w fun e w' => e = .returned (.int .i64 (cmpI x y)) ∧ w = w' := by
  have n1 : (x != x) = false := by simp
  have n2 : (y != y) = false := by simp
  unfold cmpI
  by_cases h1 : x < y
  · rw [if_pos h1]
    have d1 : decide (x < y) = true := by simpa using h1
    clear h1
    go_enter Try.func110, Try.ntmps110
    go_wp2
    go_ret
    exact ⟨rfl, rfl⟩
  · rw [if_neg h1]
    have d1 : decide (x < y) = false := by simpa using h1
    by_cases h2 : y < x
    · rw [if_pos h2]
      have d2 : decide (y < x) = true := by simpa using h2
      have d3 : decide (x > y) = true := by simpa using h2
      clear h1 h2
      go_enter Try.func110, Try.ntmps110
      go_wp2
      go_ret
      exact ⟨rfl, rfl⟩
    · rw [if_neg h2]
      have d2 : decide (y < x) = false := by simpa using h2
      have d3 : decide (x > y) = false := by simpa using h2
      clear h1 h2
      go_enter Try.func110, Try.ntmps110
      go_wp2
      go_ret
      exact ⟨rfl, rfl⟩
theorem cmpOr_any (a b : Int) (g c : Nat) (w : World) (h : Rw w g 3 #[.int .i64 a, .int .i64 b]) : Calls Try.prog 156 #[.slice (some ⟨g, 0, none⟩) 2 c] w fun e w' => e = .returned (.int .i64 (orI a b)) ∧ w = w' := by
  have c0 := h.cell 0
  have c1 := h.cell 1
  simp only [List.getElem?_toArray, List.getElem?_cons_zero, List.getElem?_cons_succ] at c0 c1
  have HC := Lib.hid (And.intro c0 c1)
  obtain ⟨v, hv⟩ : ∃ v, v = orI a b := ⟨_, rfl⟩
  rw [← hv]
  have HV := Lib.hid (show v = if a = 0 then b else a from hv)
  clear h c0 c1 hv
  go_enter Try.func156, Try.ntmps156
  go_wp2
  go_loop [8] (fun i => ∃ k : Nat, k ≤ 2 ∧ i = .int .i64 k ∧ Hid (0 < k → a = 0) ∧ Hid (1 < k → b = 0)) (fun i => 2 - (intOf i).toNat)
  case atStart => exact ⟨0, by omega, rfl, Lib.hid (by omega), Lib.hid (by omega)⟩
  case round =>
    obtain ⟨k, hk, rfl, H1, H2⟩ := hrel
    obtain ⟨c0, c1⟩ := HC.out
    obtain rfl | rfl | rfl : k = 0 ∨ k = 1 ∨ k = 2 := by omega
    · by_cases ha : a = 0
      · have d1 : (a != 0) = false := by simpa using ha
        have HA := Lib.hid ha
        clear ha
        go_wp2
        go_round
        case rel => exact ⟨1, by omega, rfl, Lib.hid (fun _ => HA.out), Lib.hid (by omega)⟩
        case measure => simp [intOf]
      · have d1 : (a != 0) = true := by simpa using ha
        have HG := Lib.hid (show v = a by rw [HV.out, if_neg ha])
        clear ha
        go_wp2
        go_ret
        exact ⟨ret_int HG.out.symm, rfl⟩
    · have HG := Lib.hid (show v = b by rw [HV.out, if_pos (H1.out (by omega))])
      by_cases hb : b = 0
      · have d1 : (b != 0) = false := by simpa using hb
        have HA := Lib.hid hb
        clear hb
        go_wp2
        go_round
        case rel => exact ⟨2, by omega, rfl, Lib.hid (fun _ => H1.out (by omega)), Lib.hid (fun _ => HA.out)⟩
        case measure => simp [intOf]
      · have d1 : (b != 0) = true := by simpa using hb
        clear hb
        go_wp2
        go_ret
        exact ⟨ret_int HG.out.symm, rfl⟩
    · have HG := Lib.hid (show v = 0 by rw [HV.out, if_pos (H1.out (by omega)), H2.out (by omega)])
      go_wp2
      go_ret
      exact ⟨ret_int HG.out.symm, rfl⟩
set_option maxHeartbeats 1000000 in
theorem minF_any (u : Value) (l : List Int) (c : Int → Int → Int) (gO : Nat) (w : World) (hi : Nat) (hu : NI w hi u l) (hh : hi ≤ w.heap.size) (h0 : 0 < l.length) (h1 : l.length ≤ 1048576)
    (hc : ∀ (W : World) (i j : Nat), Below w.heap.size w W → i < l.length → j < l.length → Calls Try.prog 155 #[.int .i64 (l.getD i 0), .int .i64 (l.getD j 0), .pointer (some ⟨gO, 0, none⟩)] W fun e w' => e = .returned (.int .i64 (c (l.getD i 0) (l.getD j 0))) ∧ Below W.heap.size W w') :
    Calls Try.prog 154 #[u, .func (.func 155) #[] #[.pointer (some ⟨gO, 0, none⟩)]] w fun e w' => e = .returned (.int .i64 (bestF c l l.length)) ∧ Below w.heap.size w w' := by
  obtain ⟨A, n, cp, rfl, _, _, hn, hA⟩ := hu
  rw [hn] at h0 h1 hc ⊢
  obtain ⟨b, o, rfl, hb1, hx⟩ := hA h0
  have e0 := hx 0 h0
  simp only [Nat.add_zero] at e0
  have d0 : decide ((n : Int) < 1) = false := by simp; omega
  have hnm : (n : Int) ≤ 1048576 := by omega
  have hn0 : (0 : Int) < (n : Int) := by omega
  have HX := Lib.hid hx
  have HB0 := Lib.hid (show b < w.heap.size by omega)
  have HCM := Lib.hid hc
  have HAT := Lib.hid (fun k => bestBy_at c l k)
  have HYES := Lib.hid (fun k h => bestBy_yes (c := c) (l := l) (k := k) h)
  have HNO := Lib.hid (fun k h => bestBy_no (c := c) (l := l) (k := k) h)
  have HF := Lib.hid (show bestF c l n = bestBy c l (n - 1) by obtain ⟨m, rfl⟩ : ∃ m, n = m + 1 := ⟨n - 1, by omega⟩; rfl)
  have B0 := Lib.hid (Below.refl w.heap.size w)
  have HZ := Lib.hid (show l.getD 0 0 = bestBy c l 0 from rfl)
  clear hA hx hc hn h1
  go_enter Try.func154, Try.ntmps154
  go_wp2
  clear d0 e0
  go_loopw [5, 6] (fun m i wr => ∃ (k : Nat) (x : Int), k + 1 ≤ n ∧ i = .int .i64 (((k + 1 : Nat)) : Int) ∧ m = .int .i64 x ∧ Hid (x = bestBy c l k) ∧ Hid (Below w.heap.size w wr)) (fun _ i _ => n - (intOf i).toNat)
  case atStart => exact ⟨0, _, by omega, rfl, rfl, Lib.hid HZ.out, B0⟩
  case round =>
    obtain ⟨k, x, hk, rfl, rfl, HE, HB⟩ := hrel
    by_cases hlt : k + 1 < n
    · have hki : (((k + 1 : Nat)) : Int) < (n : Int) := by omega
      obtain ⟨j, hj, ej⟩ := HAT.out k
      have e1 := (HB.out.cell (p := ⟨b, o + (k + 1), none⟩) HB0.out).trans (HX.out (k + 1) hlt)
      have HC := Lib.hid (fun (W : World) (q : Below wr.heap.size wr W) => HCM.out W (k + 1) j (HB.out.trans (q.mono HB.out.size)) hlt (by omega))
      rw [← ej, ← HE.out] at HC
      have HY := Lib.hid (HYES.out k)
      have HN := Lib.hid (HNO.out k)
      rw [← HE.out] at HY HN
      obtain ⟨y, hy⟩ : ∃ y, y = l.getD (k + 1) 0 := ⟨_, rfl⟩
      rw [← hy] at e1 HC HY HN
      have HRY := Lib.hid hy
      obtain ⟨kk, hkk⟩ : ∃ kk, kk = k + 1 := ⟨_, rfl⟩
      rw [← hkk] at e1 hki HY HN ⊢
      have HKK := Lib.hid hkk
      have hkm : kk < n := by omega
      obtain ⟨v, hv⟩ : ∃ v, v = c y x := ⟨_, rfl⟩
      rw [← hv] at HC HY HN
      clear hv hy ej hj HYES HNO HAT HCM
      by_cases h : v < 0
      · have d1 : decide (v < 0) = true := by simpa using h
        have HG := Lib.hid (HY.out h)
        clear h HY HN hkk
        go_wp2_with fail
        refine (HC.out _ (Below.refl _ _)).mono ?_
        rintro e w1 ⟨rfl, b1⟩
        have HB1 := Lib.hid (HB.out.trans (b1.mono HB.out.size))
        have e2 := (HB1.out.cell (p := ⟨b, o + kk, none⟩) HB0.out).trans (HX.out kk hkm)
        rw [HKK.out, ← HRY.out, ← HKK.out] at e2
        clear b1 e1
        go_wp2
        go_roundw
        case rel => exact ⟨kk, y, by omega, by go_num, rfl, Lib.hid HG.out.symm, HB1⟩
        case measure => simp [intOf] <;> omega
      · have d1 : decide (v < 0) = false := by simpa using h
        have HG := Lib.hid (HN.out (by omega))
        clear h HY HN hkk
        go_wp2_with fail
        refine (HC.out _ (Below.refl _ _)).mono ?_
        rintro e w1 ⟨rfl, b1⟩
        have HB1 := Lib.hid (HB.out.trans (b1.mono HB.out.size))
        clear b1 e1
        go_wp2
        go_roundw
        case rel => exact ⟨kk, x, by omega, by go_num, rfl, Lib.hid HG.out.symm, HB1⟩
        case measure => simp [intOf] <;> omega
    · obtain rfl : n = k + 1 := by omega
      have hki : ¬ ((((k + 1 : Nat)) : Int) < ((k + 1 : Nat) : Int)) := by omega
      go_wp2
      go_ret
      exact ⟨ret_int (by rw [HF.out, HE.out]; rfl), HB.out⟩
theorem firstB_any (gF : Nat) (cb : Array Value) (u : Value) (l : List Int) (o : Int → Int → Int) (w : World) (hi : Nat) (hu : NI w hi u l) (hh : hi ≤ w.heap.size) (h1 : l.length ≤ 1048576)
    (hc : ∀ (W : World) (gO : Nat) (i j : Nat), Below w.heap.size w W → Rw W gO 126 #[.func (.func gF) #[] cb] → i < l.length → j < l.length → Calls Try.prog 155 #[.int .i64 (l.getD i 0), .int .i64 (l.getD j 0), .pointer (some ⟨gO, 0, none⟩)] W fun e w' => e = .returned (.int .i64 (byNum o (l.getD i 0) (l.getD j 0))) ∧ Below W.heap.size W w') :
    Calls Try.prog 108 #[u, .func (.func gF) #[] cb] w fun e w' => e = .returned (.int .i64 (firstV o l)) ∧ Below w.heap.size w w' := by
  have R0 := Rw.new w 126 #[.func (.func gF) #[] cb]
  have b0 := (Below.refl w.heap.size w).alloc (Nat.le_refl _) (.cells #[.func (.func gF) #[] cb] 126)
  have B0 := Lib.hid b0
  have HM := Lib.hid (fun (h0 : 0 < l.length) => minF_any u l (byNum o) w.heap.size (w.alloc (.cells #[.func (.func gF) #[] cb] 126)) hi (hu.below b0 hh) (by simp; omega) h0 h1
    (fun W i j hb hi hj => hc W w.heap.size i j (b0.trans (hb.mono (by simp))) (R0.below hb (by simp)) hi hj))
  have HV := Lib.hid (show firstV o l = bestF (byNum o) l l.length from rfl)
  have HV0 := Lib.hid (fun (e : l.length = 0) => show firstV o l = -1 by rw [HV.out, e]; rfl)
  obtain ⟨A, n, cp, rfl, _, _, hn, hA⟩ := hu
  rw [hn] at HM HV HV0 h1
  generalize bestF (byNum o) l n = bv at *
  generalize firstV o l = fv at *
  have hnm : (n : Int) ≤ 1048576 := by omega
  clear hA hn hc h1 b0 R0
  by_cases h0 : 0 < n
  · have d0 : ((n : Int) == 0) = false := by simp; omega
    have HM1 := Lib.hid (HM.out h0)
    clear HM HV0 h0
    go_enter Try.func108, Try.ntmps108
    go_wp2_with fail
    refine HM1.out.mono ?_
    rintro e w1 ⟨rfl, b1⟩
    have B1 := Lib.hid (B0.out.trans (b1.mono (by simp)))
    clear b1
    go_wp2
    go_ret
    exact ⟨ret_int HV.out.symm, B1.out⟩
  · obtain rfl : n = 0 := by omega
    have HG := Lib.hid (HV0.out rfl)
    clear HM HV HV0 h0
    go_enter Try.func108, Try.ntmps108
    go_wp2
    go_ret
    exact ⟨ret_int HG.out.symm, B0.out⟩
end Go.Proofs.Ytgamoiagpglcmaa
