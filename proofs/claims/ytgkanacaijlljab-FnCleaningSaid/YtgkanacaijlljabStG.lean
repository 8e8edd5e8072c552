/- GainOf, AverageLive, in the model and in the program: the contracts. -/
import Derived.Test.YtgkanacaijlljabProg
import Derived.Test.YtgkanacaijlljabStV
namespace Go.Proofs.Ytgkanacaijlljab
open Go.RowKit
set_option linter.unusedVariables false
set_option linter.unusedSimpArgs false
def gainV (L : List St) (r : Bool) (p b : Int) : Int := if r = true ∧ 0 ≤ b ∧ b < L.length then p - (L.getD b.toNat St.zero).l else 0
def sumU (L : List St) : Nat → Int
  | 0 => 0
  | k + 1 => if (L.getD k St.zero).u = true then sumU L k + (L.getD k St.zero).l else sumU L k
def cntU (L : List St) : Nat → Int
  | 0 => 0
  | k + 1 => if (L.getD k St.zero).u = true then cntU L k + 1 else cntU L k
def liveV (L : List St) (r : Bool) : Int := bif r then sumU L L.length else 0
def usedV (L : List St) (r : Bool) : Int := bif r then cntU L L.length else 0
theorem sumU_bd {L : List St} {p : Int} (hp : p ≤ 640) (k : Nat) (h : ∀ i, i < k → StOk p (L.getD i St.zero)) : (0 ≤ sumU L k ∧ sumU L k ≤ 640 * (k : Int)) ∧ (0 ≤ cntU L k ∧ cntU L k ≤ k) := by
  induction k with
  | zero => simp [sumU, cntU]
  | succ k ih =>
    have a := ih (fun i hi => h i (by omega))
    have b := h k (by omega)
    unfold StOk at b
    unfold sumU cntU
    split <;> omega
theorem gain_any (l a p : Int) (u : Bool) (w : World) (h : 0 ≤ l ∧ l ≤ p) (hp : p ≤ 640) : Calls Try.prog 83 #[.agg #[.int .i64 l, .int .i64 a, .bool u], .int .i64 p] w fun e w' => e = .returned (.int .i64 (p - l)) ∧ Below w.heap.size w w' := by
  have HB := Lib.hid ((Below.refl w.heap.size w).alloc (Nat.le_refl _) (.cells #[.int .i64 l, .int .i64 a, .bool u] 56))
  have hw2 : IntKind.i64.wrap (p - l) = p - l := IntWalk.i64_in _ (by omega)
  go_enter Try.func83, Try.ntmps83
  go_wp2
  go_ret
  exact ⟨rfl, HB.out⟩
set_option maxHeartbeats 1000000 in
theorem implGain_any (v : Value) (L : List St) (p b : Int) (r : Bool) (y : Int) (w : World) (hi : Nat) (hv : StI w hi v L) (hh : hi ≤ w.heap.size) (hr : r = true ↔ StsOk L p) (hy : y = gainV L r p b) (hl : L.length ≤ 1048576) :
    Calls Try.prog 41 #[v, .int .i64 p, .int .i64 b] w fun e w' => e = .returned (.int .i64 y) ∧ Below w.heap.size w w' := by
  have HS := Lib.hid (implSts_any v L p r w hi hv hh hr hl)
  obtain ⟨A, cap, rfl⟩ := hv.slice
  have HB := Lib.hid (fun (W : World) (b : Below w.heap.size w W) => (VI.below hv b hh).elem stF_len St.zero)
  obtain ⟨n, hn⟩ : ∃ n, n = L.length := ⟨_, rfl⟩
  unfold gainV at hy
  rw [← hn] at hl hy HS HB ⊢
  have HY := Lib.hid hy
  have HOK := Lib.hid (show r = true → (1 ≤ p ∧ p ≤ 640) ∧ n ≤ 640 ∧ ∀ i, i < n → StOk p (L.getD i St.zero) from fun e => by have := hr.1 e; unfold StsOk at this; rw [← hn] at this; exact this)
  have hnm : (n : Int) ≤ 1048576 := by omega
  clear hv hr hh hn hl hy
  cases r with
  | false =>
    have HG := Lib.hid (show y = 0 by rw [HY.out, if_neg (fun e => Bool.false_ne_true e.1)])
    clear HOK HY HB
    go_enter Try.func41, Try.ntmps41
    go_wp2_with fail
    refine HS.out.mono ?_
    rintro e w1 ⟨rfl, b1⟩
    have B1 := Lib.hid b1
    clear b1
    go_wp2
    go_ret
    exact ⟨ret_int HG.out.symm, B1.out⟩
  | true =>
    by_cases h0 : 0 ≤ b
    case neg =>
      have d0 : decide (b < 0) = true := by simp; omega
      have HG := Lib.hid (show y = 0 by rw [HY.out, if_neg (fun e => h0 e.2.1)])
      clear HOK HY HB h0
      go_enter Try.func41, Try.ntmps41
      go_wp2_with fail
      refine HS.out.mono ?_
      rintro e w1 ⟨rfl, b1⟩
      have B1 := Lib.hid b1
      clear b1
      go_wp2
      go_ret
      exact ⟨ret_int HG.out.symm, B1.out⟩
    have d0 : decide (b < 0) = false := by simp; omega
    by_cases h1 : b < (n : Int)
    case neg =>
      have d1 : decide ((n : Int) ≤ b) = true := by simp; omega
      have d1' : decide (b ≥ (n : Int)) = true := by simp; omega
      have HG := Lib.hid (show y = 0 by rw [HY.out, if_neg (fun e => h1 e.2.2)])
      clear HOK HY HB h0 h1
      go_enter Try.func41, Try.ntmps41
      go_wp2_with fail
      refine HS.out.mono ?_
      rintro e w1 ⟨rfl, b1⟩
      have B1 := Lib.hid b1
      clear b1
      go_wp2
      go_ret
      exact ⟨ret_int HG.out.symm, B1.out⟩
    obtain ⟨j, rfl⟩ : ∃ j : Nat, b = j := ⟨b.toNat, by omega⟩
    have hj : j < n := by omega
    have d1 : decide ((n : Int) ≤ (j : Int)) = false := by simp; omega
    have d1' : decide ((j : Int) ≥ (n : Int)) = false := by simp; omega
    have d1'' : decide (n ≤ j) = false := by simp; omega
    obtain ⟨hp, _, hok⟩ := HOK.out rfl
    have hs := hok j hj
    unfold StOk at hs
    have HG := Lib.hid (show y = p - (L.getD j St.zero).l by rw [HY.out, if_pos ⟨rfl, by omega, h1⟩, Int.toNat_natCast])
    have HGA := Lib.hid (fun (a : Int) (u : Bool) (W : World) => gain_any (L.getD j St.zero).l a p u W hs.1 hp.2)
    clear HOK HY h0 hs hok
    go_enter Try.func41, Try.ntmps41
    go_wp2_with fail
    refine HS.out.mono ?_
    rintro e w1 ⟨rfl, b1⟩
    obtain ⟨_, _, hA⟩ := HB.out w1 b1
    obtain ⟨pb, po, rfl, hp2, hpx⟩ := hA (by omega)
    have e0 := hpx j hj 0 (by omega)
    have e1 := hpx j hj 1 (by omega)
    have e2 := hpx j hj 2 (by omega)
    have B1 := Lib.hid b1
    simp only [stF, List.getElem?_cons_zero, List.getElem?_cons_succ, Nat.add_zero, ← Nat.add_assoc] at e0 e1 e2
    clear hA hpx b1 HB HS
    go_wp2_with fail
    refine (HGA.out _ _ _).mono ?_
    rintro e w2 ⟨rfl, b2⟩
    have B2 := Lib.hid (B1.out.trans (b2.mono B1.out.size))
    clear b2 e0 e1 e2
    go_wp2
    go_ret
    exact ⟨ret_int HG.out.symm, B2.out⟩
set_option maxHeartbeats 2000000 in
set_option maxRecDepth 100000 in
theorem implAvg_any (v : Value) (L : List St) (p : Int) (r : Bool) (y x : Int) (w : World) (hi : Nat) (hv : StI w hi v L) (hh : hi ≤ w.heap.size) (hr : r = true ↔ StsOk L p) (hy : y = liveV L r) (hx : x = usedV L r) (hl : L.length ≤ 1048576) :
    Calls Try.prog 40 #[v, .int .i64 p] w fun e w' => e = .returned (.tuple #[.int .i64 y, .int .i64 x]) ∧ Below w.heap.size w w' := by
  have HS := Lib.hid (implSts_any v L p r w hi hv hh hr hl)
  obtain ⟨A, cap, rfl⟩ := hv.slice
  obtain ⟨_, _, hA⟩ := hv.elem stF_len St.zero
  obtain ⟨n, hn⟩ : ∃ n, n = L.length := ⟨_, rfl⟩
  unfold liveV at hy
  unfold usedV at hx
  rw [← hn] at hA hl hy hx HS ⊢
  have HA := Lib.hid hA
  have HH := Lib.hid hh
  have HOK := Lib.hid (show r = true → (1 ≤ p ∧ p ≤ 640) ∧ n ≤ 640 ∧ ∀ i, i < n → StOk p (L.getD i St.zero) from fun e => by have := hr.1 e; unfold StsOk at this; rw [← hn] at this; exact this)
  clear hv hA hr hh hn
  cases r with
  | false =>
    obtain rfl : y = 0 := hy
    obtain rfl : x = 0 := hx
    clear HA HOK hl
    go_enter Try.func40, Try.ntmps40
    go_wp2_with fail
    refine HS.out.mono ?_
    rintro e w1 ⟨rfl, b1⟩
    have B1 := Lib.hid b1
    clear b1
    go_wp2
    go_ret2
    exact ⟨rfl, B1.out⟩
  | true =>
    have HY := Lib.hid (show y = sumU L n from hy)
    have HX := Lib.hid (show x = cntU L n from hx)
    obtain ⟨hp, hn6, hok⟩ := HOK.out rfl
    have HBD := Lib.hid (fun (k : Nat) (hk : k ≤ n) => sumU_bd hp.2 k (fun i hi => hok i (by omega)))
    have HOKK := Lib.hid hok
    have hnm : (n : Int) ≤ 640 := by omega
    clear HOK hl hok hy hx
    go_enter Try.func40, Try.ntmps40
    go_wp2_with fail
    refine HS.out.mono ?_
    rintro e w1 ⟨rfl, b1⟩
    have B1 := Lib.hid b1
    clear b1
    go_wp2
    go_loopw [6, 7, 16] (fun s c i wr => ∃ k : Nat, k ≤ n ∧ i = .int .i64 k ∧ s = .int .i64 (sumU L k) ∧ c = .int .i64 (cntU L k) ∧ Hid (Below w.heap.size w wr)) (fun _ _ i _ => n - (intOf i).toNat)
    case atStart => exact ⟨0, by omega, rfl, rfl, rfl, B1⟩
    case round =>
      obtain ⟨k, hk, rfl, rfl, rfl, HB⟩ := hrel
      obtain ⟨⟨s0, s1⟩, t0, t1⟩ := HBD.out k hk
      by_cases hlt : k < n
      · have hki : (k : Int) < (n : Int) := by omega
        obtain ⟨pb, po, rfl, hp2, hpx⟩ := HA.out (by omega)
        have e0 := (HB.out.cell (p := ⟨pb, po + (k * 3 + 0), none⟩) (by have := HH.out; show pb < _; omega)).trans (hpx k hlt 0 (by omega))
        have e1 := (HB.out.cell (p := ⟨pb, po + (k * 3 + 1), none⟩) (by have := HH.out; show pb < _; omega)).trans (hpx k hlt 1 (by omega))
        have e2 := (HB.out.cell (p := ⟨pb, po + (k * 3 + 2), none⟩) (by have := HH.out; show pb < _; omega)).trans (hpx k hlt 2 (by omega))
        have hs := HOKK.out k hlt
        unfold StOk at hs
        have HNS := Lib.hid (show sumU L (k + 1) = if (L.getD k St.zero).u = true then sumU L k + (L.getD k St.zero).l else sumU L k from rfl)
        have HNC := Lib.hid (show cntU L (k + 1) = if (L.getD k St.zero).u = true then cntU L k + 1 else cntU L k from rfl)
        simp only [stF, List.getElem?_cons_zero, List.getElem?_cons_succ, Nat.add_zero, ← Nat.add_assoc] at e0 e1 e2
        generalize (L.getD k St.zero).l = z at *
        generalize (L.getD k St.zero).a = za at *
        generalize (L.getD k St.zero).u = t at *
        generalize sumU L k = s at *
        generalize cntU L k = c at *
        have hw2 : IntKind.i64.wrap (s + z) = s + z := IntWalk.i64_in _ (by omega)
        have hw3 : IntKind.i64.wrap (c + 1) = c + 1 := IntWalk.i64_in _ (by omega)
        have HBA := Lib.hid (HB.out.alloc HB.out.size (.cells #[.int .i64 z, .int .i64 za, .bool t] 56))
        clear HA hpx hp2 hs
        cases t with
        | true =>
          have H1 := Lib.hid (show sumU L (k + 1) = s + z by rw [HNS.out]; rfl)
          have H2 := Lib.hid (show cntU L (k + 1) = c + 1 by rw [HNC.out]; rfl)
          clear HNS HNC
          go_wp2
          go_roundw
          case rel => exact ⟨k + 1, by omega, by go_num, by rw [H1.out], by rw [H2.out], HBA⟩
          case measure => simp [intOf]; omega
        | false =>
          have H1 := Lib.hid (show sumU L (k + 1) = s by rw [HNS.out]; rfl)
          have H2 := Lib.hid (show cntU L (k + 1) = c by rw [HNC.out]; rfl)
          clear HNS HNC
          go_wp2
          go_roundw
          case rel => exact ⟨k + 1, by omega, by go_num, by rw [H1.out], by rw [H2.out], HBA⟩
          case measure => simp [intOf]; omega
      · obtain rfl : k = n := by omega
        go_wp2
        go_ret2
        exact ⟨by rw [HY.out, HX.out]; rfl, HB.out⟩
end Go.Proofs.Ytgkanacaijlljab
