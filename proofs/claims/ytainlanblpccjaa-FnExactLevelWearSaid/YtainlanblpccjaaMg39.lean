/- The proof's own lemmas, part 40: WxI. -/
import Derived.Test.YtainlanblpccjaaProg
import Derived.Test.YtainlanblpccjaaMg10
import Derived.Test.YtainlanblpccjaaMg12
import Derived.Test.YtainlanblpccjaaMg13
import Derived.Test.YtainlanblpccjaaMg11
import Derived.Deep.RegionLaw
import Derived.StillTailTactics
/- Which states of the blocks are valid, in the program: the contracts. -/
namespace Go.Proofs.Ytainlanblpccjaa
open Go.RowKit
set_option linter.unusedVariables false
set_option linter.unusedSimpArgs false

set_option maxHeartbeats 4000000 in
theorem vBlock_any (g i ne nb nc ce cb cc pe oe pb ob pc oc : Nat) (x y bd : Int) (b q : Bool) (w : World)
    (hR : Rw w g 27 #[.slice (some ⟨pe, oe, none⟩) ne ce, .slice (some ⟨pb, ob, none⟩) nb cb, .slice (some ⟨pc, oc, none⟩) nc cc, .int .i64 bd])
    (he : w.cell? ⟨pe, oe + i, none⟩ = some (.int .i64 x)) (hb : w.cell? ⟨pb, ob + i, none⟩ = some (.bool b)) (hc : w.cell? ⟨pc, oc + i, none⟩ = some (.int .i64 y))
    (h1 : i < ne) (h2 : i < nb) (h3 : i < nc) (hn : i ≤ 1048576) (hq : q = true ↔ (0 ≤ x ∧ x ≤ 1000) ∧ (0 ≤ y ∧ y ≤ 2) ∧ (y = 0 ∨ b = false)) :
    Calls Try.prog 111 #[.pointer (some ⟨g, 0, none⟩), .int .i64 (i : Int)] w fun e w' => e = .returned (.bool q) ∧ w = w' := by
  obtain ⟨q0, q1, q2, q3⟩ := hR.four
  have k1 : (i : Int) < (ne : Int) := by omega
  have k2 : (i : Int) < (nb : Int) := by omega
  have k3 : (i : Int) < (nc : Int) := by omega
  have HQ := Lib.hid hq
  have hx : x < 0 ∨ 1000 < x ∨ (0 ≤ x ∧ x ≤ 1000) := by omega
  have hy : y = 0 ∨ y = 1 ∨ y = 2 ∨ (y ≠ 0 ∧ y ≠ 1 ∧ y ≠ 2) := by omega
  clear hR hq h1 h2 h3
  rcases hx with hx | hx | hx
  · have d1 : decide (x ≥ 0) = false := by simp; omega
    have d2 : decide (0 ≤ x) = false := by simp; omega
    obtain rfl : q = false := not_true HQ.out (fun e => by have := e.1; omega)
    clear HQ hx
    rcases hy with rfl | rfl | rfl | ⟨e0, e1, e2⟩
    all_goals try (have b0 : (y == 0) = false := by simpa using e0)
    all_goals try (have b1 : (y == 1) = false := by simpa using e1)
    all_goals try (have b2 : (y == 2) = false := by simpa using e2)
    all_goals try clear e0 e1 e2
    all_goals
      go_enter Try.func111, Try.ntmps111
      go_wp2
      go_ret
      exact ⟨rfl, rfl⟩
  · have d1 : decide (x ≥ 0) = true := by simp; omega
    have d2 : decide (0 ≤ x) = true := by simp; omega
    have d3 : decide (x ≤ 1000) = false := by simp; omega
    obtain rfl : q = false := not_true HQ.out (fun e => by have := e.1; omega)
    clear HQ hx
    rcases hy with rfl | rfl | rfl | ⟨e0, e1, e2⟩
    all_goals try (have b0 : (y == 0) = false := by simpa using e0)
    all_goals try (have b1 : (y == 1) = false := by simpa using e1)
    all_goals try (have b2 : (y == 2) = false := by simpa using e2)
    all_goals try clear e0 e1 e2
    all_goals
      go_enter Try.func111, Try.ntmps111
      go_wp2
      go_ret
      exact ⟨rfl, rfl⟩
  · have d1 : decide (x ≥ 0) = true := by simp; omega
    have d2 : decide (0 ≤ x) = true := by simp; omega
    have d3 : decide (x ≤ 1000) = true := by simp; omega
    rcases hy with rfl | rfl | rfl | ⟨e0, e1, e2⟩
    · obtain rfl : q = true := HQ.out.2 ⟨hx, by omega, .inl rfl⟩
      clear HQ hx
      go_enter Try.func111, Try.ntmps111
      go_wp2
      go_ret
      exact ⟨rfl, rfl⟩
    · obtain rfl : q = !b := by rw [Bool.eq_iff_iff, HQ.out]; simp; omega
      clear HQ hx
      go_enter Try.func111, Try.ntmps111
      go_wp2
      go_ret
      exact ⟨rfl, rfl⟩
    · obtain rfl : q = !b := by rw [Bool.eq_iff_iff, HQ.out]; simp; omega
      clear HQ hx
      go_enter Try.func111, Try.ntmps111
      go_wp2
      go_ret
      exact ⟨rfl, rfl⟩
    · obtain rfl : q = false := not_true HQ.out (fun e => by have := e.2.1; omega)
      have b0 : (y == 0) = false := by simpa using e0
      have b1 : (y == 1) = false := by simpa using e1
      have b2 : (y == 2) = false := by simpa using e2
      clear HQ hx e0 e1 e2
      go_enter Try.func111, Try.ntmps111
      go_wp2
      go_ret
      exact ⟨rfl, rfl⟩
theorem vBound_any (x : Int) (q : Bool) (w : World) (hq : q = true ↔ (1 ≤ x ∧ x ≤ 100)) : Calls Try.prog 112 #[.int .i64 x] w fun e w' => e = .returned (.bool q) ∧ w = w' := by
  by_cases h1 : 1 ≤ x
  case neg =>
    obtain rfl : q = false := not_true hq (fun e => h1 e.1)
    have d1 : decide (1 ≤ x) = false := by simp; omega
    have d1' : decide (x ≥ 1) = false := by simp; omega
    clear hq
    go_enter Try.func112, Try.ntmps112
    go_wp2
    go_ret
    exact ⟨rfl, rfl⟩
  have d1 : decide (1 ≤ x) = true := by simp; omega
  have d1' : decide (x ≥ 1) = true := by simp; omega
  obtain rfl : q = decide (x ≤ 100) := by
    rw [Bool.eq_iff_iff, hq]; simp only [decide_eq_true_eq]; exact ⟨fun e => e.2, fun e => ⟨h1, e⟩⟩
  clear hq
  go_enter Try.func112, Try.ntmps112
  go_wp2
  go_ret
  exact ⟨rfl, rfl⟩
set_option maxHeartbeats 4000000 in
set_option maxRecDepth 100000 in
theorem implWeOk_any (u : Value) (M : We) (r : Bool) (w : World) (hi : Nat) (h : WeIn w hi u M) (hh : hi ≤ w.heap.size) (hr : r = true ↔ WeOk M) (hl : WeSz M) :
    Calls Try.prog 37 #[u] w fun e w' => e = .returned (.bool r) ∧ Below w.heap.size w w' := by
  obtain ⟨ae, ab, ac, rfl, h1, h2, h3⟩ := h
  obtain ⟨Ae, n, ce, rfl, _, _, hn1, hA1⟩ := h1
  obtain ⟨Ab, nb, cb, rfl, _, _, hn2, hA2⟩ := h2
  obtain ⟨Ac, nc, cc, rfl, _, _, hn3, hA3⟩ := h3
  obtain ⟨E, Bd, C, bd⟩ := M
  unfold wec
  unfold WeSz at hl
  simp only at *
  have HR := Lib.hid (show r = true ↔ (1 ≤ n ∧ n ≤ 36) ∧ nb = n ∧ nc = n ∧ (1 ≤ bd ∧ bd ≤ 100) ∧ ∀ i, i < n → WlOk E Bd C i by rw [hr, WeOk]; simp only [hn1, hn2, hn3])
  have r0 := Rw.new w 27 #[.slice Ae n ce, .slice Ab nb cb, .slice Ac nc cc, .int .i64 bd]
  have b0 := (Below.refl w.heap.size w).alloc (Nat.le_refl _) (.cells #[.slice Ae n ce, .slice Ab nb cb, .slice Ac nc cc, .int .i64 bd] 27)
  have R0 := Lib.hid r0
  have B0 := Lib.hid b0
  obtain ⟨q0, q1, q2, q3⟩ := r0.four
  have HA1 := Lib.hid hA1
  have HA2 := Lib.hid hA2
  have HA3 := Lib.hid hA3
  have HH := Lib.hid hh
  have m1 : (n : Int) ≤ 1048576 := by omega
  have m2 : (nb : Int) ≤ 1048576 := by omega
  have m3 : (nc : Int) ≤ 1048576 := by omega
  clear hr hl r0 b0 hA1 hA2 hA3 hh hn1 hn2 hn3
  by_cases g1 : 1 ≤ n
  case neg =>
    obtain rfl : n = 0 := by omega
    obtain rfl : r = false := not_true HR.out (fun e => g1 e.1.1)
    clear HR HA1 HA2 HA3 g1
    go_enter Try.func37, Try.ntmps37
    go_wp2
    go_ret
    exact ⟨rfl, B0.out⟩
  have d1 : decide ((n : Int) < 1) = false := by simp; omega
  have d1' : decide (n < 1) = false := by simp; omega
  have d1'' : decide (n = 0) = false := by simp; omega
  by_cases g2 : n ≤ 36
  case neg =>
    obtain rfl : r = false := not_true HR.out (fun e => g2 e.1.2)
    have d2 : decide ((n : Int) > 36) = true := by simp; omega
    clear HR HA1 HA2 HA3 g1 g2
    go_enter Try.func37, Try.ntmps37
    go_wp2
    go_ret
    exact ⟨rfl, B0.out⟩
  have d2 : decide ((n : Int) > 36) = false := by simp; omega
  by_cases g3 : nb = n
  case neg =>
    obtain rfl : r = false := not_true HR.out (fun e => g3 e.2.1)
    have d3 : ((nb : Int) != (n : Int)) = true := by simp; omega
    clear HR HA1 HA2 HA3 g1 g2 g3
    go_enter Try.func37, Try.ntmps37
    go_wp2
    go_ret
    exact ⟨rfl, B0.out⟩
  have d3 : ((nb : Int) != (n : Int)) = false := by simp; omega
  by_cases g4 : nc = n
  case neg =>
    obtain rfl : r = false := not_true HR.out (fun e => g4 e.2.2.1)
    have d4 : ((nc : Int) != (n : Int)) = true := by simp; omega
    clear HR HA1 HA2 HA3 g1 g2 g3 g4
    go_enter Try.func37, Try.ntmps37
    go_wp2
    go_ret
    exact ⟨rfl, B0.out⟩
  have d4 : ((nc : Int) != (n : Int)) = false := by simp; omega
  have HG := Lib.hid (And.intro (And.intro g1 g2) (And.intro g3 g4))
  clear g1 g2 g3 g4
  go_enter Try.func37, Try.ntmps37
  go_wp2
  go_loopw [4, 29] (fun _ i wr => ∃ k : Nat, k ≤ n ∧ i = .int .i64 k ∧ Hid (∀ j, j < k → WlOk E Bd C j) ∧ Hid (Below w.heap.size w wr) ∧ Hid (Rw wr w.heap.size 27 #[.slice Ae n ce, .slice Ab nb cb, .slice Ac nc cc, .int .i64 bd])) (fun _ i _ => n - (intOf i).toNat)
  case atStart => exact ⟨0, by omega, rfl, Lib.hid (fun j hj => by omega), B0, R0⟩
  case round =>
    obtain ⟨k, hk, rfl, HE, HB, HRw⟩ := hrel
    clear q0 q1 q2 q3
    obtain ⟨q0, q1, q2, q3⟩ := HRw.out.four
    by_cases hlt : k < n
    · have hki : (k : Int) < (n : Int) := by omega
      have hG := HG.out
      obtain ⟨pe, oe, rfl, hpe, hxe⟩ := HA1.out (by omega)
      obtain ⟨pb, ob, rfl, hpb, hxb⟩ := HA2.out (by omega)
      obtain ⟨pc, oc, rfl, hpc, hxc⟩ := HA3.out (by omega)
      obtain ⟨q, hq⟩ := prop_dec' (WlOk E Bd C k)
      have HV := Lib.hid (vBlock_any w.heap.size k n nb nc ce cb cc pe oe pb ob pc oc (E.getD k 0) (C.getD k 0) bd (Bd.getD k false) q wr HRw.out
        ((HB.out.cell (p := ⟨pe, oe + k, none⟩) (by have := HH.out; show pe < _; omega)).trans (hxe k hlt))
        ((HB.out.cell (p := ⟨pb, ob + k, none⟩) (by have := HH.out; show pb < _; omega)).trans (hxb k (by omega)))
        ((HB.out.cell (p := ⟨pc, oc + k, none⟩) (by have := HH.out; show pc < _; omega)).trans (hxc k (by omega))) hlt (by omega) (by omega) (by omega) hq)
      have HF := Lib.hid (fun (e : q = false) => show r = false from not_true HR.out (fun f => by have := hq.2 (f.2.2.2.2 k hlt); rw [e] at this; cases this))
      have HY := Lib.hid (fun (e : q = true) => show ∀ j, j < k + 1 → WlOk E Bd C j from fun j hj => by
        by_cases f : j = k
        · subst f; exact hq.1 e
        · exact HE.out j (by omega))
      clear hxe hxb hxc hpe hpb hpc hq hG HA1 HA2 HA3
      go_wp2_with fail
      refine HV.out.mono ?_
      rintro e w1 ⟨rfl, rfl⟩
      cases q with
      | false =>
        have HG2 := Lib.hid (HF.out rfl)
        clear HF HY HR HE HG
        go_wp2
        go_ret
        exact ⟨ret_bool HG2.out.symm, HB.out⟩
      | true =>
        have HY2 := Lib.hid (HY.out rfl)
        clear HF HY HR HE
        go_wp2
        go_roundw
        case rel => exact ⟨k + 1, by omega, by go_num, HY2, HB, HRw⟩
        case measure => simp [intOf]; omega
    · obtain rfl : k = n := by omega
      obtain ⟨q, hq⟩ := prop_dec' (1 ≤ bd ∧ bd ≤ 100)
      have hqr : q = r := by
        rw [Bool.eq_iff_iff, hq, HR.out]
        exact ⟨fun e => ⟨HG.out.1, HG.out.2.1, HG.out.2.2, e, HE.out⟩, fun e => e.2.2.2.1⟩
      subst hqr
      have HV := Lib.hid (fun (W : World) => vBound_any bd q W hq)
      clear HR HE HG HA1 HA2 HA3 hq
      go_wp2_with fail
      refine (HV.out _).mono ?_
      rintro e w1 ⟨rfl, rfl⟩
      go_wp2
      go_ret
      exact ⟨rfl, HB.out⟩
end Go.Proofs.Ytainlanblpccjaa
