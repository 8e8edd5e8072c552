/- PickVictim, GreedyVictim, CostBenefitVictim in the program: the contracts. -/
import Derived.Test.YtgkanacaijlljabProg
import Derived.Test.YtgkanacaijlljabStL
namespace Go.Proofs.Ytgkanacaijlljab
open Go.RowKit
set_option linter.unusedVariables false
set_option linter.unusedSimpArgs false
theorem polMiss (g : Nat) (q : Int) (h : ¬ (1 ≤ q ∧ q ≤ 2)) : Instr.findNow (.int .i64) (.int .i64 q) (polEs g).toList 0 = some none := by
  have h1 : (q == 1) = false := by simp; omega
  have h2 : (q == 2) = false := by simp; omega
  simp [polEs, Instr.findNow, Instr.sameNow, h1, h2]
theorem zeroFun (w : World) : (zeroValue 112).run Try.prog w = .ok .nilFunc w := by kernel_rfl
set_option maxHeartbeats 4000000 in
set_option maxRecDepth 100000 in
theorem implPick_any (v : Value) (L : List St) (p q : Int) (r : Bool) (y : Int) (w : World) (hi : Nat) (hv : StI w hi v L) (hh : hi ≤ w.heap.size) (hr : r = true ↔ StsOk L p) (hy : y = pickV L r p q) (hl : L.length ≤ 1048576) :
    Calls Try.prog 23 #[.int .i64 q, v, .int .i64 p] w fun e w' => e = .returned (.int .i64 y) ∧ Below w.heap.size w w' := by
  obtain ⟨W0, hW0⟩ : ∃ W, W = w.alloc (.cells #[.int .i64 p] 2) := ⟨_, rfl⟩
  have BW := Lib.hid (show Below w.heap.size w W0 ∧ W0.heap.size = w.heap.size + 1 ∧ Rw W0 w.heap.size 2 #[.int .i64 p] from by
    rw [hW0]
    exact ⟨(Below.refl w.heap.size w).alloc (Nat.le_refl _) _, by simp, Rw.new w _ _⟩)
  have HPO := Lib.hid (policies_any p W0)
  have HS := Lib.hid (fun (W : World) (b : Below w.heap.size w W) => implSts_any v L p r W hi (hv.below b hh) (Nat.le_trans hh b.size) hr hl)
  have HL1 := Lib.hid (fun (W : World) (b : Below w.heap.size w W) (hg : Rw W w.heap.size 2 #[.int .i64 p]) (e : r = true) => least1_any v L p w.heap.size W hi (hv.below b hh) (Nat.le_trans hh b.size) (hr.1 e) hg)
  have HL2 := Lib.hid (fun (W : World) (b : Below w.heap.size w W) (hg : Rw W w.heap.size 2 #[.int .i64 p]) (g : Nat) (hg2 : Rw W g 2 #[.int .i64 p]) (e : r = true) => least2_any v L p w.heap.size g W hi (hv.below b hh) (Nat.le_trans hh b.size) (hr.1 e) hg hg2)
  obtain ⟨A, cap, rfl⟩ := hv.slice
  have HY := Lib.hid (show y = if r = true ∧ (1 ≤ q ∧ q ≤ 2) then bestTo L q p L.length else -1 from hy)
  have c0 : W0.cell? ⟨w.heap.size, 0, none⟩ = some (.int .i64 p) := BW.out.2.2.cell 0
  clear hv hh hr hl hy
  by_cases hq : 1 ≤ q ∧ q ≤ 2
  case neg =>
    have HG := Lib.hid (show y = -1 by rw [HY.out, if_neg (fun e => hq e.2)])
    have HQ := Lib.hid hq
    clear hq HL1 HL2 HS
    go_enter Try.func23, Try.ntmps23
    go_wp2_with fail
    rw [← hW0]
    clear hW0
    refine HPO.out.mono ?_
    rintro e w1 ⟨rfl, hm, hR, b⟩
    have hlook := run_mapMiss_int (P := Try.prog) w1 116 2 112 (W0.heap.size + 1) 2 (polEs W0.heap.size) q .nilFunc Try.underlying116 Try.underlying2 hm (zeroFun w1) (polMiss _ q HQ.out)
    have B1 := Lib.hid (BW.out.1.trans (b.mono (by rw [BW.out.2.1]; omega)))
    clear hm hR b HPO c0
    go_wp2
    go_ret
    exact ⟨ret_int HG.out.symm, B1.out⟩
  obtain rfl | rfl : q = 1 ∨ q = 2 := by omega
  · have HT := Lib.hid (show r = true → y = bestTo L 1 p L.length from fun e => by rw [HY.out, if_pos ⟨e, by omega⟩])
    have HF := Lib.hid (show r = false → y = -1 from fun e => by rw [HY.out, if_neg (fun h => by rw [e] at h; cases h.1)])
    clear hq
    go_enter Try.func23, Try.ntmps23
    go_wp2_with fail
    rw [← hW0]
    clear hW0
    refine HPO.out.mono ?_
    rintro e w1 ⟨rfl, hm, hR, b⟩
    have hlook := run_mapGet_int (P := Try.prog) w1 116 2 112 (W0.heap.size + 1) 2 (polEs W0.heap.size) 1 0 (.func (.func 138) #[] #[]) Try.underlying116 Try.underlying2 hm rfl
    have B1 := Lib.hid (BW.out.1.trans (b.mono (by rw [BW.out.2.1]; omega)))
    have K1 := Lib.hid (BW.out.2.2.below b (by rw [BW.out.2.1]; omega))
    have R1 := Lib.hid hR
    have d0 : w1.cell? ⟨w.heap.size, 0, none⟩ = some (.int .i64 p) := K1.out.cell 0
    clear hm hR b HPO c0
    go_wp2_with fail
    refine (HS.out _ B1.out).mono ?_
    rintro e w2 ⟨rfl, b2⟩
    have B2 := Lib.hid (B1.out.trans (b2.mono B1.out.size))
    have K2 := Lib.hid (K1.out.below b2 K1.out.lt)
    have K3 := Lib.hid (R1.out.below b2 R1.out.lt)
    clear b2 HS d0 hlook
    cases r with
    | false =>
      have HG := Lib.hid (HF.out rfl)
      clear HL1 HL2
      go_wp2
      go_ret
      exact ⟨ret_int HG.out.symm, B2.out⟩
    | true =>
      have HG := Lib.hid (HT.out rfl)
      have HC := Lib.hid (HL1.out _ B2.out K2.out rfl)
      clear HL1 HL2
      go_wp2_with fail
      refine HC.out.mono ?_
      rintro e w3 ⟨rfl, b3⟩
      have B3 := Lib.hid (B2.out.trans (b3.mono B2.out.size))
      clear b3
      go_wp2
      go_ret
      exact ⟨ret_int HG.out.symm, B3.out⟩
  · have HT := Lib.hid (show r = true → y = bestTo L 2 p L.length from fun e => by rw [HY.out, if_pos ⟨e, by omega⟩])
    have HF := Lib.hid (show r = false → y = -1 from fun e => by rw [HY.out, if_neg (fun h => by rw [e] at h; cases h.1)])
    clear hq
    go_enter Try.func23, Try.ntmps23
    go_wp2_with fail
    rw [← hW0]
    clear hW0
    refine HPO.out.mono ?_
    rintro e w1 ⟨rfl, hm, hR, b⟩
    have hlook := run_mapGet_int (P := Try.prog) w1 116 2 112 (W0.heap.size + 1) 2 (polEs W0.heap.size) 2 1 (.func (.func 139) #[] #[.pointer (some ⟨W0.heap.size, 0, none⟩)]) Try.underlying116 Try.underlying2 hm rfl
    have B1 := Lib.hid (BW.out.1.trans (b.mono (by rw [BW.out.2.1]; omega)))
    have K1 := Lib.hid (BW.out.2.2.below b (by rw [BW.out.2.1]; omega))
    have R1 := Lib.hid hR
    have d0 : w1.cell? ⟨w.heap.size, 0, none⟩ = some (.int .i64 p) := K1.out.cell 0
    clear hm hR b HPO c0
    go_wp2_with fail
    refine (HS.out _ B1.out).mono ?_
    rintro e w2 ⟨rfl, b2⟩
    have B2 := Lib.hid (B1.out.trans (b2.mono B1.out.size))
    have K2 := Lib.hid (K1.out.below b2 K1.out.lt)
    have K3 := Lib.hid (R1.out.below b2 R1.out.lt)
    clear b2 HS d0 hlook
    cases r with
    | false =>
      have HG := Lib.hid (HF.out rfl)
      clear HL1 HL2
      go_wp2
      go_ret
      exact ⟨ret_int HG.out.symm, B2.out⟩
    | true =>
      have HG := Lib.hid (HT.out rfl)
      have HC := Lib.hid (HL2.out _ B2.out K2.out _ K3.out rfl)
      clear HL1 HL2
      go_wp2_with fail
      refine HC.out.mono ?_
      rintro e w3 ⟨rfl, b3⟩
      have B3 := Lib.hid (B2.out.trans (b3.mono B2.out.size))
      clear b3
      go_wp2
      go_ret
      exact ⟨ret_int HG.out.symm, B3.out⟩
theorem implGreedy_any (v : Value) (L : List St) (p : Int) (r : Bool) (y : Int) (w : World) (hi : Nat) (hv : StI w hi v L) (hh : hi ≤ w.heap.size) (hr : r = true ↔ StsOk L p) (hy : y = pickV L r p 1) (hl : L.length ≤ 1048576) :
    Calls Try.prog 18 #[v, .int .i64 p] w fun e w' => e = .returned (.int .i64 y) ∧ Below w.heap.size w w' := by
  have HS := Lib.hid (implPick_any v L p 1 r y w hi hv hh hr hy hl)
  obtain ⟨A, cap, rfl⟩ := hv.slice
  clear hv hh hr hl hy
  go_enter Try.func18, Try.ntmps18
  go_wp2_with fail
  refine HS.out.mono ?_
  rintro e w1 ⟨rfl, b1⟩
  have B1 := Lib.hid b1
  clear b1
  go_wp2
  go_ret
  exact ⟨rfl, B1.out⟩
theorem implCost_any (v : Value) (L : List St) (p : Int) (r : Bool) (y : Int) (w : World) (hi : Nat) (hv : StI w hi v L) (hh : hi ≤ w.heap.size) (hr : r = true ↔ StsOk L p) (hy : y = pickV L r p 2) (hl : L.length ≤ 1048576) :
    Calls Try.prog 21 #[v, .int .i64 p] w fun e w' => e = .returned (.int .i64 y) ∧ Below w.heap.size w w' := by
  have HS := Lib.hid (implPick_any v L p 2 r y w hi hv hh hr hy hl)
  obtain ⟨A, cap, rfl⟩ := hv.slice
  clear hv hh hr hl hy
  go_enter Try.func21, Try.ntmps21
  go_wp2_with fail
  refine HS.out.mono ?_
  rintro e w1 ⟨rfl, b1⟩
  have B1 := Lib.hid b1
  clear b1
  go_wp2
  go_ret
  exact ⟨rfl, B1.out⟩
end Go.Proofs.Ytgkanacaijlljab
