/- Which lists of found pages are valid, in the program: the contract. -/
import Derived.Test.YtfnccbanmgfkeaaProg
import Derived.Test.YtfnccbanmgfkeaaFdV
import Derived.Test.YtfnccbanmgfkeaaMtI
namespace Go.Proofs.Ytfnccbanmgfkeaa
open Go.RowKit
set_option linter.unusedVariables false
set_option linter.unusedSimpArgs false
def prvF (L : List Fd) : Nat → Int
  | 0 => -1
  | k + 1 => (L.getD k Fd.zero).ph
theorem prvF_ok {L : List Fd} {k : Nat} (hall : ∀ i, i < k → StepOk L i) : (prvF L k < (L.getD k Fd.zero).ph ∧ (L.getD k Fd.zero).ph < 640) ↔ ((0 ≤ (L.getD k Fd.zero).ph ∧ (L.getD k Fd.zero).ph ≤ 639) ∧ (0 < k → (L.getD (k - 1) Fd.zero).ph < (L.getD k Fd.zero).ph)) := by
  cases k with
  | zero => rw [show prvF L 0 = -1 from rfl]; constructor <;> intro h <;> omega
  | succ k =>
    rw [show prvF L (k + 1) = (L.getD k Fd.zero).ph from rfl, Nat.add_sub_cancel]
    have := (hall k (by omega)).1.1
    constructor
    · exact fun h => ⟨⟨by omega, by omega⟩, fun _ => h.1⟩
    · exact fun h => ⟨h.2 (by omega), by omega⟩
set_option maxHeartbeats 4000000 in
set_option maxRecDepth 100000 in
theorem implFound_any (v : Value) (L : List Fd) (r : Bool) (w : World) (hi : Nat) (h : FdIn w hi v L) (hh : hi ≤ w.heap.size) (hr : r = true ↔ FsOk L) (hl : L.length ≤ 1048576) :
    Calls Try.prog 50 #[v] w fun e w' => e = .returned (.bool r) ∧ Below w.heap.size w w' := by
  obtain ⟨A, c, rfl⟩ := h.slice
  obtain ⟨n, hn⟩ : ∃ n, n = L.length := ⟨_, rfl⟩
  rw [← hn] at h ⊢
  obtain ⟨_, hA⟩ := h.elem
  have HA := Lib.hid hA
  have HN := Lib.hid hn
  have HH := Lib.hid hh
  have HR := Lib.hid (show r = true ↔ ∀ i, i < n → StepOk L i by rw [hr, FsOk, ← hn])
  have hnm : (n : Int) ≤ 1048576 := by omega
  clear h hA hn hh hr hl
  go_enter Try.func50, Try.ntmps50
  go_wp2
  go_loopw [3, 8] (fun pv i wr => ∃ k : Nat, k ≤ n ∧ pv = .int .i64 (prvF L k) ∧ i = .int .i64 (k : Int) ∧ Hid (∀ i, i < k → StepOk L i) ∧ Hid (Below w.heap.size w wr)) (fun _ i _ => n - (intOf i).toNat)
  case atStart => exact ⟨0, by omega, rfl, rfl, Lib.hid (fun i hi => by omega), Lib.hid (Below.refl _ _)⟩
  case round =>
    obtain ⟨k, hk, rfl, rfl, HE, HB⟩ := hrel
    by_cases hlt : k < n
    · have hki : (k : Int) < (n : Int) := by omega
      obtain ⟨pb, po, rfl, hp2, hpx⟩ := HA.out (by omega)
      have a0 := (HB.out.cell (p := ⟨pb, po + k * 6, none⟩) (by have := HH.out; show pb < _; omega)).trans (hpx k hlt).1
      have a1 := (HB.out.cell (p := ⟨pb, po + k * 6 + 1, none⟩) (by have := HH.out; show pb < _; omega)).trans (hpx k hlt).2.1
      have a2 := (HB.out.cell (p := ⟨pb, po + k * 6 + 2, none⟩) (by have := HH.out; show pb < _; omega)).trans (hpx k hlt).2.2.1
      have a3 := (HB.out.cell (p := ⟨pb, po + k * 6 + 3, none⟩) (by have := HH.out; show pb < _; omega)).trans (hpx k hlt).2.2.2.1
      have a4 := (HB.out.cell (p := ⟨pb, po + k * 6 + 4, none⟩) (by have := HH.out; show pb < _; omega)).trans (hpx k hlt).2.2.2.2.1
      have a5 := (HB.out.cell (p := ⟨pb, po + k * 6 + 5, none⟩) (by have := HH.out; show pb < _; omega)).trans (hpx k hlt).2.2.2.2.2
      have hpk := prvF_ok (L := L) HE.out
      have HST := Lib.hid (show StepOk L k ↔ (((0 ≤ (L.getD k Fd.zero).ph ∧ (L.getD k Fd.zero).ph ≤ 639) ∧ MetaOk (L.getD k Fd.zero).k (L.getD k Fd.zero).l (L.getD k Fd.zero).s (L.getD k Fd.zero).f (L.getD k Fd.zero).c ∧ (L.getD k Fd.zero).k ≠ 4) ∧ (0 < k → (L.getD (k - 1) Fd.zero).ph < (L.getD k Fd.zero).ph)) from Iff.rfl)
      have HNP := Lib.hid (show prvF L (k + 1) = (L.getD k Fd.zero).ph from rfl)
      obtain ⟨x0, hx0⟩ : ∃ x, x = (L.getD k Fd.zero).ph := ⟨_, rfl⟩
      obtain ⟨x1, hx1⟩ : ∃ x, x = (L.getD k Fd.zero).k := ⟨_, rfl⟩
      obtain ⟨x2, hx2⟩ : ∃ x, x = (L.getD k Fd.zero).l := ⟨_, rfl⟩
      obtain ⟨x3, hx3⟩ : ∃ x, x = (L.getD k Fd.zero).s := ⟨_, rfl⟩
      obtain ⟨x4, hx4⟩ : ∃ x, x = (L.getD k Fd.zero).f := ⟨_, rfl⟩
      obtain ⟨x5, hx5⟩ : ∃ x, x = (L.getD k Fd.zero).c := ⟨_, rfl⟩
      rw [← hx0] at a0; rw [← hx1] at a1; rw [← hx2] at a2; rw [← hx3] at a3; rw [← hx4] at a4; rw [← hx5] at a5
      rw [← hx0] at hpk
      rw [← hx0, ← hx1, ← hx2, ← hx3, ← hx4, ← hx5] at HST
      rw [← hx0] at HNP
      have HPK := Lib.hid hpk
      clear hpk hx0 hx1 hx2 hx3 hx4 hx5 hp2 hpx
      generalize prvF L k = pz at *
      have HF := Lib.hid (fun (e : ¬ StepOk L k) => not_true HR.out (fun f => e (f k hlt)))
      have HY := Lib.hid (fun (e : StepOk L k) => show ∀ j, j < k + 1 → StepOk L j from fun j hj => by
        by_cases f : j = k
        · subst f; exact e
        · exact HE.out j (by omega))
      have hsz := HB.out.size
      by_cases h1 : x0 ≤ pz
      case pos =>
        have d1 : decide (x0 ≤ pz) = true := by simpa using h1
        have HG := Lib.hid (HF.out (fun e => by have := HPK.out.2 ⟨(HST.out.1 e).1.1, (HST.out.1 e).2⟩; omega))
        clear HF HY HST HPK h1 HR
        go_wp2
        go_ret
        exact ⟨ret_bool HG.out.symm, HB.out.alloc HB.out.size _⟩
      have d1 : decide (x0 ≤ pz) = false := by simpa using h1
      by_cases h2 : 640 ≤ x0
      case pos =>
        have d2 : decide (x0 ≥ 640) = true := by simpa using h2
        have d2' : decide (640 ≤ x0) = true := by simpa using h2
        have HG := Lib.hid (HF.out (fun e => by have := (HST.out.1 e).1.1; omega))
        clear HF HY HST HPK h1 h2 HR
        go_wp2
        go_ret
        exact ⟨ret_bool HG.out.symm, HB.out.alloc HB.out.size _⟩
      have d2 : decide (x0 ≥ 640) = false := by simp; omega
      have d2' : decide (640 ≤ x0) = false := by simp; omega
      have HPP := Lib.hid (HPK.out.1 ⟨by omega, by omega⟩)
      obtain ⟨rm, hrm⟩ := prop_dec' (MetaOk x1 x2 x3 x4 x5)
      have HM := Lib.hid (fun (W : World) => implMeta_any x1 x2 x3 x4 x5 rm W hrm)
      have HRM := Lib.hid hrm
      have hz : (wr.alloc (.cells #[.int .i64 x0, .int .i64 x1, .int .i64 x2, .int .i64 x3, .int .i64 x4, .int .i64 x5] 89)).heap.size = wr.heap.size + 1 := by simp
      have HBA := Lib.hid (HB.out.alloc HB.out.size (.cells #[.int .i64 x0, .int .i64 x1, .int .i64 x2, .int .i64 x3, .int .i64 x4, .int .i64 x5] 89))
      have RA := Lib.hid (Rw.new wr 89 #[.int .i64 x0, .int .i64 x1, .int .i64 x2, .int .i64 x3, .int .i64 x4, .int .i64 x5])
      clear hrm h1 h2 HPK
      go_wp2_with fail
      refine (HM.out _).mono ?_
      rintro e w1 ⟨rfl, b1⟩
      rw [hz] at b1
      have HB1 := Lib.hid (HBA.out.trans (b1.mono (by omega)))
      obtain ⟨q0, q1, q2, q3, q4, q5⟩ := (Lib.hid (RA.out.below b1 (by omega))).out.six
      clear b1 HM HBA RA hz a0 a1 a2 a3 a4 a5
      cases rm with
      | false =>
        have HG := Lib.hid (HF.out (fun e => by have := HRM.out.2 (HST.out.1 e).1.2.1; cases this))
        clear HF HY HST HPP HRM HR
        go_wp2
        go_ret
        exact ⟨ret_bool HG.out.symm, HB1.out⟩
      | true =>
        by_cases h4 : x1 = 4
        · have d4 : (x1 == 4) = true := by simpa using h4
          have HG := Lib.hid (HF.out (fun e => (HST.out.1 e).1.2.2 h4))
          clear HF HY HST HPP HRM h4 HR
          go_wp2
          go_ret
          exact ⟨ret_bool HG.out.symm, HB1.out⟩
        · have d4 : (x1 == 4) = false := by simpa using h4
          have HE2 := Lib.hid (HY.out (HST.out.2 ⟨⟨HPP.out.1, HRM.out.1 (by simp), h4⟩, HPP.out.2⟩))
          clear HF HY HST HPP HRM h4 HR
          go_wp2
          go_roundw
          case rel => exact ⟨k + 1, by omega, by rw [HNP.out], by go_num, HE2, HB1⟩
          case measure => simp [intOf]; omega
    · obtain rfl : k = n := by omega
      obtain rfl : r = true := HR.out.2 HE.out
      go_wp2
      go_ret
      exact ⟨rfl, HB.out⟩
end Go.Proofs.Ytfnccbanmgfkeaa
