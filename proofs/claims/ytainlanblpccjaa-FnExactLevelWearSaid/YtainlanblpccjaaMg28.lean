/- The proof's own lemmas, part 29: WxS. -/
import Derived.Test.YtainlanblpccjaaProg
import Derived.Test.YtainlanblpccjaaMg10
import Derived.Test.YtainlanblpccjaaMg12
import Derived.Test.YtainlanblpccjaaMg13
import Derived.Deep.RegionLaw
import Derived.StillTailTactics
/- Which states of the blocks are valid, in the model: the contract. -/
namespace Go.Proofs.Ytainlanblpccjaa
open Go.RowKit
set_option linter.unusedVariables false
set_option linter.unusedSimpArgs false

set_option maxHeartbeats 4000000 in
set_option maxRecDepth 100000 in
theorem specWeOk_any (u : Value) (M : We) (r : Bool) (w : World) (hi : Nat) (h : WeIn w hi u M) (hh : hi ≤ w.heap.size) (hr : r = true ↔ WeOk M) (hl : WeSz M) :
    Calls Try.prog 29 #[u] w fun e w' => e = .returned (.bool r) ∧ Below w.heap.size w w' := by
  obtain ⟨ae, ab, ac, rfl, h1, h2, h3⟩ := h
  obtain ⟨Ae, n, ce, rfl, _, _, hn1, hA1⟩ := h1
  obtain ⟨Ab, nb, cb, rfl, _, _, hn2, hA2⟩ := h2
  obtain ⟨Ac, nc, cc, rfl, _, _, hn3, hA3⟩ := h3
  obtain ⟨E, Bd, C, bd⟩ := M
  unfold wec
  unfold WeSz at hl
  simp only at *
  have HR := Lib.hid (show r = true ↔ (1 ≤ n ∧ n ≤ 36) ∧ nb = n ∧ nc = n ∧ (1 ≤ bd ∧ bd ≤ 100) ∧ ∀ i, i < n → WlOk E Bd C i by rw [hr, WeOk]; simp only [hn1, hn2, hn3])
  have r0 := Rw.new w 27 #[.slice Ae n ce, .slice Ab nb cb, .slice Ac nc cc, .int .i64 bd]
  have b0 := (Below.refl w.heap.size w).alloc (Nat.le_refl _) (.cells #[.slice Ae n ce, .slice Ab nb cb, .slice Ac nc cc, .int .i64 bd] 27)
  have R0 := Lib.hid r0
  have B0 := Lib.hid b0
  obtain ⟨q0, q1, q2, q3⟩ := r0.four
  have HA1 := Lib.hid hA1
  have HA2 := Lib.hid hA2
  have HA3 := Lib.hid hA3
  have HH := Lib.hid hh
  have m1 : (n : Int) ≤ 1048576 := by omega
  have m2 : (nb : Int) ≤ 1048576 := by omega
  have m3 : (nc : Int) ≤ 1048576 := by omega
  clear hr hl r0 b0 hA1 hA2 hA3 hh hn1 hn2 hn3
  by_cases g1 : 1 ≤ n
  case neg =>
    obtain rfl : n = 0 := by omega
    obtain rfl : r = false := not_true HR.out (fun e => g1 e.1.1)
    clear HR HA1 HA2 HA3 g1
    go_enter Try.func29, Try.ntmps29
    go_wp2
    go_ret
    exact ⟨rfl, B0.out⟩
  have d1 : decide ((n : Int) < 1) = false := by simp; omega
  have d1' : decide (n < 1) = false := by simp; omega
  have d1'' : decide (n = 0) = false := by simp; omega
  by_cases g2 : n ≤ 36
  case neg =>
    obtain rfl : r = false := not_true HR.out (fun e => g2 e.1.2)
    have d2 : decide ((n : Int) > 36) = true := by simp; omega
    clear HR HA1 HA2 HA3 g1 g2
    go_enter Try.func29, Try.ntmps29
    go_wp2
    go_ret
    exact ⟨rfl, B0.out⟩
  have d2 : decide ((n : Int) > 36) = false := by simp; omega
  by_cases g3 : nb = n
  case neg =>
    obtain rfl : r = false := not_true HR.out (fun e => g3 e.2.1)
    have d3 : ((nb : Int) != (n : Int)) = true := by simp; omega
    clear HR HA1 HA2 HA3 g1 g2 g3
    go_enter Try.func29, Try.ntmps29
    go_wp2
    go_ret
    exact ⟨rfl, B0.out⟩
  have d3 : ((nb : Int) != (n : Int)) = false := by simp; omega
  by_cases g4 : nc = n
  case neg =>
    obtain rfl : r = false := not_true HR.out (fun e => g4 e.2.2.1)
    have d4 : ((nc : Int) != (n : Int)) = true := by simp; omega
    clear HR HA1 HA2 HA3 g1 g2 g3 g4
    go_enter Try.func29, Try.ntmps29
    go_wp2
    go_ret
    exact ⟨rfl, B0.out⟩
  have d4 : ((nc : Int) != (n : Int)) = false := by simp; omega
  by_cases g5 : 1 ≤ bd ∧ bd ≤ 100
  case neg =>
    obtain rfl : r = false := not_true HR.out (fun e => g5 e.2.2.2.1)
    have HI := Lib.hid (fun (W : World) => inr_no bd 1 100 W g5)
    clear HR HA1 HA2 HA3 g1 g2 g3 g4 g5
    go_enter Try.func29, Try.ntmps29
    go_wp2_with fail
    refine (HI.out _).mono ?_
    rintro e w1 ⟨rfl, rfl⟩
    go_wp2
    go_ret
    exact ⟨rfl, B0.out⟩
  have HI := Lib.hid (fun (W : World) => inr_yes bd 1 100 W g5.1 g5.2)
  have HG := Lib.hid (And.intro (And.intro g1 g2) (And.intro g3 (And.intro g4 g5)))
  clear g1 g2 g3 g4 g5
  go_enter Try.func29, Try.ntmps29
  go_wp2_with fail
  refine (HI.out _).mono ?_
  rintro e w1 ⟨rfl, rfl⟩
  go_wp2
  clear HI d1 d1' d1'' d2 d3 d4
  go_loopw [4] (fun i wr => ∃ k : Nat, k ≤ n ∧ i = .int .i64 k ∧ Hid (∀ j, j < k → WlOk E Bd C j) ∧ Hid (Below w.heap.size w wr) ∧ Hid (Rw wr w.heap.size 27 #[.slice Ae n ce, .slice Ab nb cb, .slice Ac nc cc, .int .i64 bd])) (fun i _ => n - (intOf i).toNat)
  case atStart => exact ⟨0, by omega, rfl, Lib.hid (fun j hj => by omega), B0, R0⟩
  case round =>
    obtain ⟨k, hk, rfl, HE, HB, HRw⟩ := hrel
    clear q0 q1 q2 q3
    obtain ⟨q0, q1, q2, q3⟩ := HRw.out.four
    by_cases hlt : k < n
    · have hki : (k : Int) < (n : Int) := by omega
      have hG := HG.out
      have hkb : (k : Int) < (nb : Int) := by omega
      have hkc : (k : Int) < (nc : Int) := by omega
      obtain ⟨pe, oe, rfl, hpe, hxe⟩ := HA1.out (by omega)
      obtain ⟨pb, ob, rfl, hpb, hxb⟩ := HA2.out (by omega)
      obtain ⟨pc, oc, rfl, hpc, hxc⟩ := HA3.out (by omega)
      have e1 := (HB.out.cell (p := ⟨pe, oe + k, none⟩) (by have := HH.out; show pe < _; omega)).trans (hxe k hlt)
      have e2 := (HB.out.cell (p := ⟨pb, ob + k, none⟩) (by have := HH.out; show pb < _; omega)).trans (hxb k (by omega))
      have e3 := (HB.out.cell (p := ⟨pc, oc + k, none⟩) (by have := HH.out; show pc < _; omega)).trans (hxc k (by omega))
      have HF := Lib.hid (fun (e : ¬ WlOk E Bd C k) => show r = false from not_true HR.out (fun f => e (f.2.2.2.2 k hlt)))
      have HY := Lib.hid (fun (e : WlOk E Bd C k) => show ∀ j, j < k + 1 → WlOk E Bd C j from fun j hj => by
        by_cases f : j = k
        · subst f; exact e
        · exact HE.out j (by omega))
      unfold WlOk at HF HY
      generalize E.getD k 0 = x at *
      generalize C.getD k 0 = y at *
      generalize Bd.getD k false = b at *
      clear hxe hxb hxc hpe hpb hpc hG HA1 HA2 HA3
      by_cases hx : 0 ≤ x ∧ x ≤ 1000
      case neg =>
        have HG2 := Lib.hid (HF.out (fun e => hx e.1))
        have HI := Lib.hid (fun (W : World) => inr_no x 0 1000 W hx)
        clear HF HY HR HE HG hx
        go_wp2_with fail
        refine (HI.out _).mono ?_
        rintro e w1 ⟨rfl, rfl⟩
        go_wp2
        go_ret
        exact ⟨ret_bool HG2.out.symm, HB.out⟩
      have HI := Lib.hid (fun (W : World) => inr_yes x 0 1000 W hx.1 hx.2)
      by_cases hy : 0 ≤ y ∧ y ≤ 2
      case neg =>
        have HG2 := Lib.hid (HF.out (fun e => hy e.2.1))
        have HI2 := Lib.hid (fun (W : World) => inr_no y 0 2 W hy)
        clear HF HY HR HE HG hx hy
        go_wp2_with fail
        refine (HI.out _).mono ?_
        rintro e w1 ⟨rfl, rfl⟩
        go_wp2_with fail
        refine (HI2.out _).mono ?_
        rintro e w1 ⟨rfl, rfl⟩
        go_wp2
        go_ret
        exact ⟨ret_bool HG2.out.symm, HB.out⟩
      have HI2 := Lib.hid (fun (W : World) => inr_yes y 0 2 W hy.1 hy.2)
      by_cases hz : y = 0 ∨ b = false
      case neg =>
        have HG2 := Lib.hid (HF.out (fun e => hz e.2.2))
        obtain rfl : b = true := by
          cases b with
          | true => rfl
          | false => exact absurd (.inr rfl) hz
        have hy0 : (y != 0) = true := by simp; omega
        clear HF HY HR HE HG hx hy hz
        go_wp2_with fail
        refine (HI.out _).mono ?_
        rintro e w1 ⟨rfl, rfl⟩
        go_wp2_with fail
        refine (HI2.out _).mono ?_
        rintro e w1 ⟨rfl, rfl⟩
        go_wp2
        go_ret
        exact ⟨ret_bool HG2.out.symm, HB.out⟩
      have HY2 := Lib.hid (HY.out ⟨hx, hy, hz⟩)
      cases b with
      | true =>
        have hy0 : (y != 0) = false := by simp at hz ⊢; exact hz
        clear HF HY HR HE hx hy hz
        go_wp2_with fail
        refine (HI.out _).mono ?_
        rintro e w1 ⟨rfl, rfl⟩
        go_wp2_with fail
        refine (HI2.out _).mono ?_
        rintro e w1 ⟨rfl, rfl⟩
        go_wp2
        go_roundw
        case rel => exact ⟨k + 1, by omega, by go_num, HY2, HB, HRw⟩
        case measure => simp [intOf]; omega
      | false =>
        clear HF HY HR HE hx hy hz
        go_wp2_with fail
        refine (HI.out _).mono ?_
        rintro e w1 ⟨rfl, rfl⟩
        go_wp2_with fail
        refine (HI2.out _).mono ?_
        rintro e w1 ⟨rfl, rfl⟩
        go_wp2
        go_roundw
        case rel => exact ⟨k + 1, by omega, by go_num, HY2, HB, HRw⟩
        case measure => simp [intOf]; omega
    · obtain rfl : k = n := by omega
      have hf : r = true := HR.out.2 ⟨HG.out.1, HG.out.2.1, HG.out.2.2.1, HG.out.2.2.2, HE.out⟩
      subst hf
      clear HR HE HG HA1 HA2 HA3
      go_wp2
      go_ret
      exact ⟨rfl, HB.out⟩
end Go.Proofs.Ytainlanblpccjaa
