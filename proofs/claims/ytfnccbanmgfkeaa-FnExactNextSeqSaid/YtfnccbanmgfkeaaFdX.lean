/- NextSeq, in the program and in the model: the contracts. -/
import Derived.Test.YtfnccbanmgfkeaaProg
import Derived.Test.YtfnccbanmgfkeaaFdI
import Derived.Test.YtfnccbanmgfkeaaFdS
namespace Go.Proofs.Ytfnccbanmgfkeaa
open Go.RowKit
set_option linter.unusedVariables false
set_option linter.unusedSimpArgs false
/-- The greatest number of the first k pages, or 0. -/
def mxS (L : List Fd) : Nat → Int
  | 0 => 0
  | k + 1 => max (mxS L k) (L.getD k Fd.zero).s
theorem mxS_le {L : List Fd} (h : FsOk L) (k : Nat) (hk : k ≤ L.length) : 0 ≤ mxS L k ∧ mxS L k ≤ 1000000 := by
  induction k with
  | zero => simp [mxS]
  | succ k ih =>
    have := ih (by omega)
    have hm := (h k (by omega)).1.2.1
    have hs : 0 ≤ (L.getD k Fd.zero).s ∧ (L.getD k Fd.zero).s ≤ 1000000 := by
      have h4 := (h k (by omega)).1.2.2
      unfold MetaOk at hm
      omega
    unfold mxS
    omega
def nextS (L : List Fd) (r : Bool) : Int := if r = true then mxS L L.length + 1 else 1
theorem maxq_any (a b m : Int) (w : World) (hm : max a b = m) : Calls Try.prog 97 #[.int .i64 a, .int .i64 b] w fun e w' => e = .returned (.int .i64 m) ∧ w = w' := by
  by_cases h : a > b
  · have d1 : decide (a > b) = true := by simpa using h
    have d2 : decide (b < a) = true := by simpa using h
    obtain rfl : m = a := by omega
    clear h hm
    go_enter Try.func97, Try.ntmps97
    go_wp2
    go_ret
    exact ⟨rfl, rfl⟩
  · have d1 : decide (a > b) = false := by simpa using h
    have d2 : decide (b < a) = false := by simpa using h
    obtain rfl : m = b := by omega
    clear h hm
    go_enter Try.func97, Try.ntmps97
    go_wp2
    go_ret
    exact ⟨rfl, rfl⟩
set_option maxHeartbeats 1000000 in
theorem specNextL_any (v : Value) (L : List Fd) (w : World) (hi : Nat) (h : FdIn w hi v L) (hh : hi ≤ w.heap.size) (hf : FsOk L) :
    Calls Try.prog 89 #[v] w fun e w' => e = .returned (.int .i64 (mxS L L.length + 1)) ∧ Below w.heap.size w w' := by
  obtain ⟨A, c, rfl⟩ := h.slice
  have hlong := hf.long
  have HMX := Lib.hid (mxS_le hf)
  obtain ⟨n, hn⟩ : ∃ n, n = L.length := ⟨_, rfl⟩
  rw [← hn] at h hlong HMX ⊢
  obtain ⟨_, hA⟩ := h.elem
  have HA := Lib.hid hA
  have HH := Lib.hid hh
  have hnm : (n : Int) ≤ 640 := by omega
  clear h hA hn hh hlong hf
  go_enter Try.func89, Try.ntmps89
  go_wp2
  go_loopw [3, 4] (fun m i wr => ∃ k : Nat, k ≤ n ∧ m = .int .i64 (mxS L k) ∧ i = .int .i64 (k : Int) ∧ Hid (Below w.heap.size w wr)) (fun _ i _ => n - (intOf i).toNat)
  case atStart => exact ⟨0, by omega, rfl, rfl, Lib.hid (Below.refl _ _)⟩
  case round =>
    obtain ⟨k, hk, rfl, rfl, HB⟩ := hrel
    have hmx := HMX.out k hk
    by_cases hlt : k < n
    · have hki : (k : Int) < (n : Int) := by omega
      obtain ⟨pb, po, rfl, hp2, hpx⟩ := HA.out (by omega)
      have a3 := (HB.out.cell (p := ⟨pb, po + k * 6 + 3, none⟩) (by have := HH.out; show pb < _; omega)).trans (hpx k hlt).2.2.2.1
      have HNX := Lib.hid (show mxS L (k + 1) = max (mxS L k) (L.getD k Fd.zero).s from rfl)
      clear hpx hp2
      generalize (L.getD k Fd.zero).s = x at *
      obtain ⟨q, hq⟩ : ∃ q, q = mxS L (k + 1) := ⟨_, rfl⟩
      have HQ := Lib.hid hq
      have HM := Lib.hid (fun (W : World) => maxq_any (mxS L k) x q W (by rw [hq, HNX.out]))
      clear hq HNX
      go_wp2_with fail
      refine (HM.out _).mono ?_
      rintro e w1 ⟨rfl, rfl⟩
      go_wp2
      go_roundw
      case rel => exact ⟨k + 1, by omega, by rw [HQ.out], by go_num, HB⟩
      case measure => simp [intOf]; omega
    · obtain rfl : k = n := by omega
      obtain ⟨q, hq⟩ : ∃ q, q = mxS L k := ⟨_, rfl⟩
      rw [← hq] at hmx ⊢
      have HQ := Lib.hid hq
      clear hq
      go_wp2
      go_ret
      exact ⟨by rw [← HQ.out]; rfl, HB.out⟩
set_option maxHeartbeats 1000000 in
theorem specNext_any (v : Value) (L : List Fd) (r : Bool) (w : World) (hi : Nat) (h : FdIn w hi v L) (hh : hi ≤ w.heap.size) (hr : r = true ↔ FsOk L) (hl : L.length ≤ 1048576) :
    Calls Try.prog 52 #[v] w fun e w' => e = .returned (.int .i64 (nextS L r)) ∧ Below w.heap.size w w' := by
  have HS := Lib.hid (specFound_any v L r w hi h hh hr hl)
  have HN := Lib.hid (fun (W : World) (hb : Below w.heap.size w W) (e : r = true) => specNextL_any v L W hi (h.below hb hh) (Nat.le_trans hh hb.size) (hr.1 e))
  clear h hr
  go_enter Try.func52, Try.ntmps52
  go_wp2_with fail
  refine HS.out.mono ?_
  rintro e w1 ⟨rfl, b1⟩
  have B1 := Lib.hid b1
  clear b1 HS
  cases r with
  | false =>
    go_wp2
    go_ret
    exact ⟨by simp [nextS], B1.out⟩
  | true =>
    go_wp2_with fail
    refine (HN.out w1 B1.out (by simp)).mono ?_
    rintro e w2 ⟨rfl, b2⟩
    have B2 := Lib.hid (B1.out.trans (b2.mono B1.out.size))
    clear b2 HN
    have HE := Lib.hid (show nextS L true = mxS L L.length + 1 by simp [nextS])
    obtain ⟨q, hq⟩ : ∃ q, q = mxS L L.length + 1 := ⟨_, rfl⟩
    rw [← hq]
    have HQ := Lib.hid hq
    clear hq
    go_wp2
    go_ret
    exact ⟨by rw [HE.out, ← HQ.out]; rfl, B2.out⟩
set_option maxHeartbeats 1000000 in
theorem implNext_any (v : Value) (L : List Fd) (r : Bool) (w : World) (hi : Nat) (h : FdIn w hi v L) (hh : hi ≤ w.heap.size) (hr : r = true ↔ FsOk L) (hl : L.length ≤ 1048576) :
    Calls Try.prog 53 #[v] w fun e w' => e = .returned (.int .i64 (nextS L r)) ∧ Below w.heap.size w w' := by
  have HS := Lib.hid (implFound_any v L r w hi h hh hr hl)
  obtain ⟨A, c, rfl⟩ := h.slice
  have HMX := Lib.hid (fun (e : r = true) => mxS_le (hr.1 e))
  have hlong : r = true → L.length ≤ 640 := fun e => (hr.1 e).long
  have HNE := Lib.hid (fun (e : r = true) => show nextS L r = mxS L L.length + 1 by rw [e]; simp [nextS])
  obtain ⟨n, hn⟩ : ∃ n, n = L.length := ⟨_, rfl⟩
  rw [← hn] at h hlong HMX HNE hl HS ⊢
  obtain ⟨_, hA⟩ := h.elem
  have HA := Lib.hid hA
  have HH := Lib.hid hh
  have HLO := Lib.hid hlong
  clear h hA hn hh hlong hr hl
  go_enter Try.func53, Try.ntmps53
  go_wp2_with fail
  refine HS.out.mono ?_
  rintro e w1 ⟨rfl, b1⟩
  have B1 := Lib.hid b1
  clear b1 HS
  cases r with
  | false =>
    go_wp2
    go_ret
    exact ⟨by simp [nextS], B1.out⟩
  | true =>
    have hnm : (n : Int) ≤ 640 := by have := HLO.out (by simp); omega
    go_wp2
    go_loopw [3, 11] (fun m i wr => ∃ k : Nat, k ≤ n ∧ m = .int .i64 (mxS L k) ∧ i = .int .i64 (k : Int) ∧ Hid (Below w.heap.size w wr)) (fun _ i _ => n - (intOf i).toNat)
    case atStart => exact ⟨0, by omega, rfl, rfl, B1⟩
    case round =>
      obtain ⟨k, hk, rfl, rfl, HB⟩ := hrel
      have hmx := HMX.out (by simp) k hk
      by_cases hlt : k < n
      · have hki : (k : Int) < (n : Int) := by omega
        obtain ⟨pb, po, rfl, hp2, hpx⟩ := HA.out (by omega)
        have hpl : pb < w.heap.size := by have := HH.out; omega
        have a0 := (HB.out.cell (p := ⟨pb, po + k * 6, none⟩) hpl).trans (hpx k hlt).1
        have a1 := (HB.out.cell (p := ⟨pb, po + k * 6 + 1, none⟩) hpl).trans (hpx k hlt).2.1
        have a2 := (HB.out.cell (p := ⟨pb, po + k * 6 + 2, none⟩) hpl).trans (hpx k hlt).2.2.1
        have a3 := (HB.out.cell (p := ⟨pb, po + k * 6 + 3, none⟩) hpl).trans (hpx k hlt).2.2.2.1
        have a4 := (HB.out.cell (p := ⟨pb, po + k * 6 + 4, none⟩) hpl).trans (hpx k hlt).2.2.2.2.1
        have a5 := (HB.out.cell (p := ⟨pb, po + k * 6 + 5, none⟩) hpl).trans (hpx k hlt).2.2.2.2.2
        have HNX := Lib.hid (show mxS L (k + 1) = max (mxS L k) (L.getD k Fd.zero).s from rfl)
        clear hpx hp2 hpl
        generalize (L.getD k Fd.zero).ph = x0 at *
        generalize (L.getD k Fd.zero).k = x1 at *
        generalize (L.getD k Fd.zero).l = x2 at *
        generalize (L.getD k Fd.zero).s = x3 at *
        generalize (L.getD k Fd.zero).f = x4 at *
        generalize (L.getD k Fd.zero).c = x5 at *
        obtain ⟨q, hq⟩ : ∃ q, q = mxS L (k + 1) := ⟨_, rfl⟩
        have HQ := Lib.hid hq
        obtain ⟨z, hz⟩ : ∃ z, z = mxS L k := ⟨_, rfl⟩
        have hmax : max z x3 = q := by rw [hq, HNX.out, hz]
        rw [← hz] at hmx ⊢
        have HBA := Lib.hid (HB.out.alloc HB.out.size (.cells #[.int .i64 x0, .int .i64 x1, .int .i64 x2, .int .i64 x3, .int .i64 x4, .int .i64 x5] 89))
        have HM := Lib.hid hmax
        clear hq HNX hz hmax
        go_wp2
        go_roundw
        case rel => exact ⟨k + 1, by omega, congrArg (Value.int .i64) (by rw [← HQ.out, ← HM.out]; by_cases h : z < x3 <;> simp [h] <;> omega), by go_num, HBA⟩
        case measure => simp [intOf]; omega
      · obtain rfl : k = n := by omega
        have HE := Lib.hid (HNE.out (by simp))
        obtain ⟨q, hq⟩ : ∃ q, q = mxS L k := ⟨_, rfl⟩
        rw [← hq] at hmx ⊢
        have HQ := Lib.hid hq
        clear hq
        go_wp2
        go_ret
        exact ⟨by rw [HE.out, ← HQ.out]; rfl, HB.out⟩
end Go.Proofs.Ytfnccbanmgfkeaa
