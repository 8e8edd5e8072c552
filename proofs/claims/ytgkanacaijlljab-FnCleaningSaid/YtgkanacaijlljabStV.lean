/- Which block statistics are valid, in the model and in the program: the contracts. -/
import Derived.Test.YtgkanacaijlljabProg
import Derived.Test.YtgkanacaijlljabStM
import Derived.Test.YtgkanacaijlljabEqI
namespace Go.Proofs.Ytgkanacaijlljab
open Go.RowKit
set_option linter.unusedVariables false
set_option linter.unusedSimpArgs false
def StOk (p : Int) (x : St) : Prop := (0 ≤ x.l ∧ x.l ≤ p) ∧ (0 ≤ x.a ∧ x.a ≤ 1000000)
def StsOk (L : List St) (p : Int) : Prop := (1 ≤ p ∧ p ≤ 640) ∧ L.length ≤ 640 ∧ ∀ i, i < L.length → StOk p (L.getD i St.zero)
set_option maxHeartbeats 2000000 in
set_option maxRecDepth 100000 in
theorem specSts_any (v : Value) (L : List St) (p : Int) (r : Bool) (w : World) (hi : Nat) (hv : StI w hi v L) (hh : hi ≤ w.heap.size) (hr : r = true ↔ StsOk L p) (hl : L.length ≤ 1048576) :
    Calls Try.prog 78 #[v, .int .i64 p] w fun e w' => e = .returned (.bool r) ∧ w = w' := by
  obtain ⟨A, cap, rfl⟩ := hv.slice
  obtain ⟨_, _, hA⟩ := hv.elem stF_len St.zero
  obtain ⟨n, hn⟩ : ∃ n, n = L.length := ⟨_, rfl⟩
  unfold StsOk at hr
  rw [← hn] at hA hl hr ⊢
  have HR := Lib.hid hr
  have HA := Lib.hid hA
  have HH := Lib.hid hh
  have hnm : (n : Int) ≤ 1048576 := by omega
  clear hv hA hr hh hn hl
  by_cases g1 : 1 ≤ p ∧ p ≤ 640
  case neg =>
    obtain rfl : r = false := not_true HR.out (fun e => g1 e.1)
    have HI := Lib.hid (fun (W : World) => inr_no p 1 640 W g1)
    clear HR HA g1
    go_enter Try.func78, Try.ntmps78
    go_wp2_with fail
    refine (HI.out _).mono ?_
    rintro e w1 ⟨rfl, rfl⟩
    go_wp2
    go_ret
    exact ⟨rfl, rfl⟩
  have HI := Lib.hid (fun (W : World) => inr_yes p 1 640 W g1.1 g1.2)
  by_cases g2 : n ≤ 640
  case neg =>
    obtain rfl : r = false := not_true HR.out (fun e => g2 e.2.1)
    have d1 : decide (640 < (n : Int)) = true := by simp; omega
    have d1' : decide (640 < n) = true := by simp; omega
    have d1'' : decide ((n : Int) > 640) = true := by simp; omega
    clear HR HA g1 g2
    go_enter Try.func78, Try.ntmps78
    go_wp2_with fail
    refine (HI.out _).mono ?_
    rintro e w1 ⟨rfl, rfl⟩
    go_wp2
    go_ret
    exact ⟨rfl, rfl⟩
  have d1 : decide (640 < (n : Int)) = false := by simp; omega
  have d1' : decide (640 < n) = false := by simp; omega
  have d1'' : decide ((n : Int) > 640) = false := by simp; omega
  have HG := Lib.hid (And.intro g1 g2)
  clear g1 g2
  go_enter Try.func78, Try.ntmps78
  go_wp2_with fail
  refine (HI.out _).mono ?_
  rintro e w1 ⟨rfl, rfl⟩
  go_wp2
  clear HI d1 d1' d1''
  go_loopw [5] (fun i wr => ∃ k : Nat, k ≤ n ∧ i = .int .i64 k ∧ Hid (∀ j, j < k → StOk p (L.getD j St.zero)) ∧ wr = w) (fun i _ => n - (intOf i).toNat)
  case atStart => exact ⟨0, by omega, rfl, Lib.hid (fun j hj => by omega), rfl⟩
  case round =>
    obtain ⟨k, hk, rfl, HE, rfl⟩ := hrel
    by_cases hlt : k < n
    · have hki : (k : Int) < (n : Int) := by omega
      obtain ⟨pb, po, rfl, hp2, hpx⟩ := HA.out (by omega)
      have e0 := hpx k hlt 0 (by omega)
      have e1 := hpx k hlt 1 (by omega)
      have HF := Lib.hid (fun (e : ¬ StOk p (L.getD k St.zero)) => not_true HR.out (fun f => e (f.2.2 k hlt)))
      have HY := Lib.hid (fun (e : StOk p (L.getD k St.zero)) => show ∀ j, j < k + 1 → StOk p (L.getD j St.zero) from fun j hj => by
        by_cases f : j = k
        · subst f; exact e
        · exact HE.out j (by omega))
      unfold StOk at HF HY
      simp only [stF, List.getElem?_cons_zero, List.getElem?_cons_succ, Nat.add_zero, ← Nat.add_assoc] at e0 e1
      generalize (L.getD k St.zero).l = y at *
      generalize (L.getD k St.zero).a = z at *
      clear hpx hp2
      by_cases hin : 0 ≤ y ∧ y ≤ p
      case neg =>
        have HG2 := Lib.hid (HF.out (fun e => hin e.1))
        have HI := Lib.hid (fun (W : World) => inr_no y 0 p W hin)
        clear HF HY HR HA hin HG HE
        go_wp2_with fail
        refine (HI.out _).mono ?_
        rintro e w1 ⟨rfl, rfl⟩
        go_wp2
        go_ret
        exact ⟨ret_bool HG2.out.symm, rfl⟩
      have HI := Lib.hid (fun (W : World) => inr_yes y 0 p W hin.1 hin.2)
      by_cases hin2 : 0 ≤ z ∧ z ≤ 1000000
      case neg =>
        have HG2 := Lib.hid (HF.out (fun e => hin2 e.2))
        have HI2 := Lib.hid (fun (W : World) => inr_no z 0 1000000 W hin2)
        clear HF HY HR HA hin hin2 HG HE
        go_wp2_with fail
        refine (HI.out _).mono ?_
        rintro e w1 ⟨rfl, rfl⟩
        go_wp2_with fail
        refine (HI2.out _).mono ?_
        rintro e w1 ⟨rfl, rfl⟩
        go_wp2
        go_ret
        exact ⟨ret_bool HG2.out.symm, rfl⟩
      have HI2 := Lib.hid (fun (W : World) => inr_yes z 0 1000000 W hin2.1 hin2.2)
      have HY2 := Lib.hid (HY.out ⟨hin, hin2⟩)
      clear HF HY HR HA hin hin2 HG HE
      go_wp2_with fail
      refine (HI.out _).mono ?_
      rintro e w1 ⟨rfl, rfl⟩
      go_wp2_with fail
      refine (HI2.out _).mono ?_
      rintro e w1 ⟨rfl, rfl⟩
      go_wp2
      go_roundw
      case rel => exact ⟨k + 1, by omega, by go_num, HY2, by trivial⟩
      case measure => simp [intOf]; omega
    · obtain rfl : k = n := by omega
      have hf : r = true := HR.out.2 ⟨HG.out.1, HG.out.2, HE.out⟩
      subst hf
      clear HR HA HG HE
      go_wp2
      go_ret
      exact ⟨rfl, rfl⟩
set_option maxHeartbeats 2000000 in
set_option maxRecDepth 100000 in
theorem implSts_any (v : Value) (L : List St) (p : Int) (r : Bool) (w : World) (hi : Nat) (hv : StI w hi v L) (hh : hi ≤ w.heap.size) (hr : r = true ↔ StsOk L p) (hl : L.length ≤ 1048576) :
    Calls Try.prog 81 #[v, .int .i64 p] w fun e w' => e = .returned (.bool r) ∧ Below w.heap.size w w' := by
  obtain ⟨A, cap, rfl⟩ := hv.slice
  obtain ⟨_, _, hA⟩ := hv.elem stF_len St.zero
  obtain ⟨n, hn⟩ : ∃ n, n = L.length := ⟨_, rfl⟩
  unfold StsOk at hr
  rw [← hn] at hA hl hr ⊢
  have HR := Lib.hid hr
  have HA := Lib.hid hA
  have HH := Lib.hid hh
  have B0 := Lib.hid (Below.refl w.heap.size w)
  have hnm : (n : Int) ≤ 1048576 := by omega
  clear hv hA hr hh hn hl
  by_cases g1 : 1 ≤ p
  case neg =>
    obtain rfl : r = false := not_true HR.out (fun e => g1 e.1.1)
    have d0 : decide (p < 1) = true := by simp; omega
    clear HR HA g1
    go_enter Try.func81, Try.ntmps81
    go_wp2
    go_ret
    exact ⟨rfl, B0.out⟩
  have d0 : decide (p < 1) = false := by simp; omega
  by_cases g0 : p ≤ 640
  case neg =>
    obtain rfl : r = false := not_true HR.out (fun e => g0 e.1.2)
    have d3 : decide (640 < p) = true := by simp; omega
    have d3' : decide (p > 640) = true := by simp; omega
    clear HR HA g1 g0
    go_enter Try.func81, Try.ntmps81
    go_wp2
    go_ret
    exact ⟨rfl, B0.out⟩
  have d3 : decide (640 < p) = false := by simp; omega
  have d3' : decide (p > 640) = false := by simp; omega
  by_cases g2 : n ≤ 640
  case neg =>
    obtain rfl : r = false := not_true HR.out (fun e => g2 e.2.1)
    have d1 : decide (640 < (n : Int)) = true := by simp; omega
    have d1' : decide (640 < n) = true := by simp; omega
    have d1'' : decide ((n : Int) > 640) = true := by simp; omega
    clear HR HA g1 g0 g2
    go_enter Try.func81, Try.ntmps81
    go_wp2
    go_ret
    exact ⟨rfl, B0.out⟩
  have d1 : decide (640 < (n : Int)) = false := by simp; omega
  have d1' : decide (640 < n) = false := by simp; omega
  have d1'' : decide ((n : Int) > 640) = false := by simp; omega
  have HG := Lib.hid (And.intro (And.intro g1 g0) g2)
  clear g1 g0 g2
  go_enter Try.func81, Try.ntmps81
  go_wp2
  clear d0 d3 d3' d1 d1' d1''
  go_loopw [20] (fun i wr => ∃ k : Nat, k ≤ n ∧ i = .int .i64 k ∧ Hid (∀ j, j < k → StOk p (L.getD j St.zero)) ∧ Hid (Below w.heap.size w wr)) (fun i _ => n - (intOf i).toNat)
  case atStart => exact ⟨0, by omega, rfl, Lib.hid (fun j hj => by omega), B0⟩
  case round =>
    obtain ⟨k, hk, rfl, HE, HB⟩ := hrel
    by_cases hlt : k < n
    · have hki : (k : Int) < (n : Int) := by omega
      obtain ⟨pb, po, rfl, hp2, hpx⟩ := HA.out (by omega)
      have e0 := (HB.out.cell (p := ⟨pb, po + (k * 3 + 0), none⟩) (by have := HH.out; show pb < _; omega)).trans (hpx k hlt 0 (by omega))
      have e1 := (HB.out.cell (p := ⟨pb, po + (k * 3 + 1), none⟩) (by have := HH.out; show pb < _; omega)).trans (hpx k hlt 1 (by omega))
      have e2 := (HB.out.cell (p := ⟨pb, po + (k * 3 + 2), none⟩) (by have := HH.out; show pb < _; omega)).trans (hpx k hlt 2 (by omega))
      have HF := Lib.hid (fun (e : ¬ StOk p (L.getD k St.zero)) => not_true HR.out (fun f => e (f.2.2 k hlt)))
      have HY := Lib.hid (fun (e : StOk p (L.getD k St.zero)) => show ∀ j, j < k + 1 → StOk p (L.getD j St.zero) from fun j hj => by
        by_cases f : j = k
        · subst f; exact e
        · exact HE.out j (by omega))
      unfold StOk at HF HY
      simp only [stF, List.getElem?_cons_zero, List.getElem?_cons_succ, Nat.add_zero, ← Nat.add_assoc] at e0 e1 e2
      generalize (L.getD k St.zero).l = y at *
      generalize (L.getD k St.zero).a = z at *
      generalize (L.getD k St.zero).u = t at *
      have HBA := Lib.hid (HB.out.alloc HB.out.size (.cells #[.int .i64 y, .int .i64 z, .bool t] 56))
      clear hpx hp2
      by_cases h1 : 0 ≤ y
      case neg =>
        have HG2 := Lib.hid (HF.out (fun e => h1 e.1.1))
        have d0 : decide (y < 0) = true := by simp; omega
        clear HF HY HR HA h1 HG HE
        go_wp2
        go_ret
        exact ⟨ret_bool HG2.out.symm, HBA.out⟩
      have d0 : decide (y < 0) = false := by simp; omega
      by_cases h2 : y ≤ p
      case neg =>
        have HG2 := Lib.hid (HF.out (fun e => h2 e.1.2))
        have d1 : decide (p < y) = true := by simp; omega
        have d1' : decide (y > p) = true := by simp; omega
        clear HF HY HR HA h1 h2 HG HE
        go_wp2
        go_ret
        exact ⟨ret_bool HG2.out.symm, HBA.out⟩
      have d1 : decide (p < y) = false := by simp; omega
      have d1' : decide (y > p) = false := by simp; omega
      by_cases h3 : 0 ≤ z
      case neg =>
        have HG2 := Lib.hid (HF.out (fun e => h3 e.2.1))
        have d2 : decide (z < 0) = true := by simp; omega
        clear HF HY HR HA h1 h2 h3 HG HE
        go_wp2
        go_ret
        exact ⟨ret_bool HG2.out.symm, HBA.out⟩
      have d2 : decide (z < 0) = false := by simp; omega
      by_cases h4 : z ≤ 1000000
      case neg =>
        have HG2 := Lib.hid (HF.out (fun e => h4 e.2.2))
        have d3 : decide (1000000 < z) = true := by simp; omega
        have d3' : decide (z > 1000000) = true := by simp; omega
        clear HF HY HR HA h1 h2 h3 h4 HG HE
        go_wp2
        go_ret
        exact ⟨ret_bool HG2.out.symm, HBA.out⟩
      have d3 : decide (1000000 < z) = false := by simp; omega
      have d3' : decide (z > 1000000) = false := by simp; omega
      have HY2 := Lib.hid (HY.out ⟨⟨h1, h2⟩, h3, h4⟩)
      clear HF HY HR HA h1 h2 h3 h4 HG HE
      go_wp2
      go_roundw
      case rel => exact ⟨k + 1, by omega, by go_num, HY2, HBA⟩
      case measure => simp [intOf]; omega
    · obtain rfl : k = n := by omega
      have hf : r = true := HR.out.2 ⟨HG.out.1, HG.out.2, HE.out⟩
      subst hf
      clear HR HA HG HE
      go_wp2
      go_ret
      exact ⟨rfl, HB.out⟩
end Go.Proofs.Ytgkanacaijlljab
