/- Which block a policy picks, in the model: the contracts. -/
import Derived.Test.YtgkanacaijlljabProg
import Derived.Test.YtgkanacaijlljabStV
import Derived.Test.YtgkanacaijlljabStG
import Derived.Test.YtgkanacaijlljabOwnR
import Derived.BigQuiet
import Derived.Deep.QuietTactic
namespace Go.Proofs.Ytgkanacaijlljab
open Go.RowKit
set_option linter.unusedVariables false
set_option linter.unusedSimpArgs false
/-- a is a better victim than b. -/
def Bet (q : Int) (a b : St) (p : Int) : Prop := if q = 1 then a.l < b.l else (p - a.l) * a.a * (p + b.l) > (p - b.l) * b.a * (p + a.l)
def Cand (p : Int) (x : St) : Prop := x.u = true ∧ x.l < p
open Classical in
/-- The best of the first k blocks, or -1. -/
noncomputable def bestTo (L : List St) (q p : Int) : Nat → Int
  | 0 => -1
  | k + 1 => if Cand p (L.getD k St.zero) ∧ (bestTo L q p k < 0 ∨ Bet q (L.getD k St.zero) (L.getD (bestTo L q p k).toNat St.zero) p) then (k : Int) else bestTo L q p k
theorem bestTo_yes {L : List St} {q p : Int} {k : Nat} (h : Cand p (L.getD k St.zero) ∧ (bestTo L q p k < 0 ∨ Bet q (L.getD k St.zero) (L.getD (bestTo L q p k).toNat St.zero) p)) : bestTo L q p (k + 1) = (k : Int) := by simp only [bestTo, if_pos h]
theorem bestTo_no {L : List St} {q p : Int} {k : Nat} (h : ¬ (Cand p (L.getD k St.zero) ∧ (bestTo L q p k < 0 ∨ Bet q (L.getD k St.zero) (L.getD (bestTo L q p k).toNat St.zero) p))) : bestTo L q p (k + 1) = bestTo L q p k := by simp only [bestTo, if_neg h]
theorem bestTo_bd (L : List St) (q p : Int) (k : Nat) : -1 ≤ bestTo L q p k ∧ bestTo L q p k < k ∧ (bestTo L q p k < 0 → bestTo L q p k = -1) := by
  induction k with
  | zero => simp [bestTo]
  | succ k ih =>
    simp only [bestTo]
    split <;> omega
open Classical in
noncomputable def pickV (L : List St) (r : Bool) (p q : Int) : Int := if r = true ∧ (1 ≤ q ∧ q ≤ 2) then bestTo L q p L.length else -1
theorem betBounds {p : Int} (hp : 1 ≤ p ∧ p ≤ 640) {a b : St} (ha : StOk p a) (hb : StOk p b) : ((0 ≤ (p - a.l) ∧ p - a.l ≤ 640) ∧ (0 ≤ (p - a.l) * a.a ∧ (p - a.l) * a.a ≤ 640000000)) ∧ (0 ≤ (p - a.l) * a.a * (p + b.l) ∧ (p - a.l) * a.a * (p + b.l) ≤ 819200000000) := by
  obtain ⟨⟨a1, a2⟩, a3, a4⟩ := ha
  obtain ⟨⟨b1, b2⟩, b3, b4⟩ := hb
  have h1 : 0 ≤ (p - a.l) * a.a := Int.mul_nonneg (by omega) a3
  have h2 : (p - a.l) * a.a ≤ 640 * 1000000 := Int.mul_le_mul (by omega) a4 a3 (by omega)
  have h3 : 0 ≤ (p - a.l) * a.a * (p + b.l) := Int.mul_nonneg h1 (by omega)
  have h4 : (p - a.l) * a.a * (p + b.l) ≤ (640 * 1000000) * 1280 := Int.mul_le_mul h2 (by omega) (by omega) (by omega)
  exact ⟨⟨⟨by omega, by omega⟩, h1, by omega⟩, h3, by omega⟩
set_option maxHeartbeats 1000000 in
theorem specBet_any (q p : Int) (x y : St) (r : Bool) (w : World) (hp : 1 ≤ p ∧ p ≤ 640) (hx : StOk p x) (hy : StOk p y) (hr : r = true ↔ Bet q x y p) :
    Calls Try.prog 137 #[.int .i64 q, .agg #[.int .i64 x.l, .int .i64 x.a, .bool x.u], .agg #[.int .i64 y.l, .int .i64 y.a, .bool y.u], .int .i64 p] w fun e w' => e = .returned (.bool r) ∧ Below w.heap.size w w' := by
  have hxy := betBounds hp hx hy
  have hyx := betBounds hp hy hx
  unfold Bet at hr
  unfold StOk at hx hy
  generalize x.l = a at *
  generalize x.a = b at *
  generalize x.u = c at *
  generalize y.l = d at *
  generalize y.a = e at *
  generalize y.u = f at *
  have HB := Lib.hid (Rw.two_new w 56 56 #[.int .i64 a, .int .i64 b, .bool c] #[.int .i64 d, .int .i64 e, .bool f]).2.2
  have w1 : IntKind.i64.wrap (p - a) = p - a := IntWalk.i64_in _ (by omega)
  have w2 : IntKind.i64.wrap ((p - a) * b) = (p - a) * b := IntWalk.i64_in _ (by omega)
  have w3 : IntKind.i64.wrap (p + d) = p + d := IntWalk.i64_in _ (by omega)
  have w4 : IntKind.i64.wrap ((p - a) * b * (p + d)) = (p - a) * b * (p + d) := IntWalk.i64_in _ (by omega)
  have w5 : IntKind.i64.wrap (p - d) = p - d := IntWalk.i64_in _ (by omega)
  have w6 : IntKind.i64.wrap ((p - d) * e) = (p - d) * e := IntWalk.i64_in _ (by omega)
  have w7 : IntKind.i64.wrap (p + a) = p + a := IntWalk.i64_in _ (by omega)
  have w8 : IntKind.i64.wrap ((p - d) * e * (p + a)) = (p - d) * e * (p + a) := IntWalk.i64_in _ (by omega)
  clear hxy hyx hx hy
  by_cases h1 : q = 1
  · subst h1
    obtain rfl : r = decide (a < d) := by rw [Bool.eq_iff_iff, hr]; simp
    clear hr w1 w2 w3 w4 w5 w6 w7 w8
    go_enter Try.func137, Try.ntmps137
    go_wp2
    go_ret
    exact ⟨rfl, HB.out⟩
  · have hq : (q == 1) = false := by simpa using h1
    have HR := Lib.hid (show r = decide ((p - a) * b * (p + d) > (p - d) * e * (p + a)) by rw [Bool.eq_iff_iff, hr]; simp [h1])
    clear hr h1
    go_enter Try.func137, Try.ntmps137
    go_wp2
    go_ret
    exact ⟨ret_bool (by rw [HR.out]), HB.out⟩
set_option maxHeartbeats 2000000 in
set_option maxRecDepth 100000 in
theorem specVict_any (v : Value) (L : List St) (p q : Int) (w : World) (hi : Nat) (hv : StI w hi v L) (hh : hi ≤ w.heap.size) (ho : StsOk L p) :
    Calls Try.prog 79 #[.int .i64 q, v, .int .i64 p] w fun e w' => e = .returned (.int .i64 (bestTo L q p L.length)) ∧ Below w.heap.size w w' := by
  obtain ⟨A, cap, rfl⟩ := hv.slice
  obtain ⟨_, _, hA⟩ := hv.elem stF_len St.zero
  obtain ⟨hp, hl, hok⟩ := ho
  obtain ⟨n, hn⟩ : ∃ n, n = L.length := ⟨_, rfl⟩
  rw [← hn] at hA hl hok ⊢
  have HA := Lib.hid hA
  have HH := Lib.hid hh
  have HOK := Lib.hid hok
  have HP := Lib.hid hp
  have B0 := Lib.hid (Below.refl w.heap.size w)
  have hnm : (n : Int) ≤ 640 := by omega
  clear hv hA hh hn hl hok hp
  go_enter Try.func79, Try.ntmps79
  go_wp2
  go_loopw [7, 8] (fun b i wr => ∃ k : Nat, k ≤ n ∧ i = .int .i64 k ∧ b = .int .i64 (bestTo L q p k) ∧ Hid (Below w.heap.size w wr)) (fun _ i _ => n - (intOf i).toNat)
  case atStart => exact ⟨0, by omega, rfl, rfl, B0⟩
  case round =>
    obtain ⟨k, hk, rfl, rfl, HB⟩ := hrel
    by_cases hlt : k < n
    · have hki : (k : Int) < (n : Int) := by omega
      obtain ⟨pb, po, rfl, hp2, hpx⟩ := HA.out (by omega)
      have cell : ∀ i, i < n → ∀ j, j < 3 → wr.cell? ⟨pb, po + (i * 3 + j), none⟩ = (stF (L.getD i St.zero))[j]? := fun i hi j hj => (HB.out.cell (p := ⟨pb, po + (i * 3 + j), none⟩) (by have := HH.out; show pb < _; omega)).trans (hpx i hi j hj)
      have e0 := cell k hlt 0 (by omega)
      have e1 := cell k hlt 1 (by omega)
      have e2 := cell k hlt 2 (by omega)
      simp only [stF, List.getElem?_cons_zero, List.getElem?_cons_succ, Nat.add_zero, ← Nat.add_assoc] at e0 e1 e2
      obtain ⟨x, hx⟩ : ∃ x, x = L.getD k St.zero := ⟨_, rfl⟩
      have HX := Lib.hid hx
      have hbd := bestTo_bd L q p k
      have HYES := Lib.hid (fun h => bestTo_yes (L := L) (q := q) (p := p) (k := k) h)
      have HNO := Lib.hid (fun h => bestTo_no (L := L) (q := q) (p := p) (k := k) h)
      have hkx := HOK.out k hlt
      rw [← hx] at e0 e1 e2 HYES HNO hkx
      clear hx
      obtain ⟨y, hy⟩ : ∃ y, y = bestTo L q p k := ⟨_, rfl⟩
      rw [← hy] at HYES HNO hbd ⊢
      clear hy
      by_cases hc : Cand p x
      case neg =>
        have HN2 := Lib.hid (HNO.out (fun e => hc e.1))
        obtain ⟨xl, xa, xu⟩ := x
        unfold Cand at hc
        simp only at hc e0 e1 e2
        cases xu with
        | false =>
          clear HYES HNO HA cell hpx hc HX
          go_wp2
          go_roundw
          case rel => exact ⟨k + 1, by omega, by go_num, by rw [HN2.out], HB⟩
          case measure => simp [intOf]; omega
        | true =>
          have d1 : decide (p ≤ xl) = true := by simp at hc ⊢; omega
          have d1' : decide (xl ≥ p) = true := by simp at hc ⊢; omega
          clear HYES HNO HA cell hpx hc HX
          go_wp2
          go_roundw
          case rel => exact ⟨k + 1, by omega, by go_num, by rw [HN2.out], HB⟩
          case measure => simp [intOf]; omega
      have hu : x.u = true := hc.1
      have hlp : x.l < p := hc.2
      have d1 : decide (p ≤ x.l) = false := by simp; omega
      have d1' : decide (x.l ≥ p) = false := by simp; omega
      by_cases hy0 : y < 0
      · have HN2 := Lib.hid (HYES.out ⟨hc, .inl hy0⟩)
        have dy : decide (y < 0) = true := by simpa using hy0
        rw [hu] at e2
        clear HYES HNO HA cell hpx hc HX hu hlp hkx
        generalize x.l = xl at *
        generalize x.a = xa at *
        go_wp2_with fail
        go_quiet (fail)
        go_wp2
        go_roundw
        case rel => exact ⟨k + 1, by omega, by go_num, by rw [HN2.out], Lib.hid (below_drewN HB.out _)⟩
        case measure => simp [intOf]; omega
      · have dy : decide (y < 0) = false := by simpa using hy0
        obtain ⟨j, rfl⟩ : ∃ j : Nat, y = j := ⟨y.toNat, by omega⟩
        have hjn : j < n := by omega
        have hji : (j : Int) < (n : Int) := by omega
        obtain ⟨rb, hrb⟩ := prop_dec' (Bet q x (L.getD j St.zero) p)
        have g0 := cell j hjn 0 (by omega)
        have g1 := cell j hjn 1 (by omega)
        have g2 := cell j hjn 2 (by omega)
        simp only [stF, List.getElem?_cons_zero, List.getElem?_cons_succ, Nat.add_zero, ← Nat.add_assoc] at g0 g1 g2
        have HBT := Lib.hid (fun (W : World) => specBet_any q p x (L.getD j St.zero) rb W HP.out hkx (HOK.out j hjn) hrb)
        have HY2 := Lib.hid (fun (e : rb = true) => HYES.out ⟨hc, .inr (by rw [Int.toNat_natCast]; exact hrb.1 e)⟩)
        have HN2 := Lib.hid (fun (e : rb = false) => HNO.out (fun h => by
          rcases h.2 with h | h
          · omega
          · rw [Int.toNat_natCast] at h; have := hrb.2 h; rw [e] at this; cases this))
        obtain ⟨z, hz⟩ : ∃ z, z = L.getD j St.zero := ⟨_, rfl⟩
        rw [← hz] at g0 g1 g2 HBT
        clear HYES HNO cell hpx hc HX hkx hrb hz hlp
        rw [hu] at e2 HBT
        obtain ⟨pbb, hpbb⟩ : ∃ b, b = pb := ⟨_, rfl⟩
        generalize x.l = xl at *
        generalize x.a = xa at *
        generalize z.l = zl at *
        generalize z.a = za at *
        generalize z.u = zu at *
        have HCC : Hid (∀ W, Below wr.heap.size wr W → W.cell? ⟨pb, po + k * 3, none⟩ = some (.int .i64 xl) ∧ W.cell? ⟨pb, po + k * 3 + 1, none⟩ = some (.int .i64 xa) ∧ W.cell? ⟨pb, po + k * 3 + 2, none⟩ = some (.bool true) ∧ W.cell? ⟨pb, po + j * 3, none⟩ = some (.int .i64 zl) ∧ W.cell? ⟨pb, po + j * 3 + 1, none⟩ = some (.int .i64 za) ∧ W.cell? ⟨pb, po + j * 3 + 2, none⟩ = some (.bool zu)) := Lib.hid (fun W b => by
          have hpw : pb < wr.heap.size := by have := HH.out; have := HB.out.size; omega
          exact ⟨(b.cell (p := ⟨pb, _, none⟩) hpw).trans e0, (b.cell (p := ⟨pb, _, none⟩) hpw).trans e1, (b.cell (p := ⟨pb, _, none⟩) hpw).trans e2, (b.cell (p := ⟨pb, _, none⟩) hpw).trans g0, (b.cell (p := ⟨pb, _, none⟩) hpw).trans g1, (b.cell (p := ⟨pb, _, none⟩) hpw).trans g2⟩)
        obtain ⟨C, hC⟩ : ∃ C : World → Prop, C = fun W => Below wr.heap.size wr W := ⟨_, rfl⟩
        have HC1 := Lib.hid (fun (W : World) (h : C W) => HCC.out W (by rw [hC] at h; exact h))
        have HC2 := Lib.hid (fun (W : World) (h : C W) => show Below wr.heap.size wr W by rw [hC] at h; exact h)
        have HC3 := Lib.hid (fun (W W' : World) (h : C W) (b : Below W.heap.size W W') => show C W' by rw [hC] at h ⊢; exact h.trans (b.mono h.size))
        have hc0 : C wr.drew := by rw [hC]; exact (Below.refl _ _).drew
        clear hC HCC
        go_wp2_with fail
        refine wp_region_own (by kernel_rfl) (by kernel_rfl) hc0 ?_
        repeat (first
          | go_big_quiet_skip
          | (go_big_quiet_want
             go_big_quiet_op
             first
               | go_big_quiet_on
               | (apply Exists.intro
                  refine ⟨fun W hW => ?_, ?_⟩
                  · (first
                      | rfl
                      | (go_at_call 137
                         refine (HBT.out _).mono ?_
                         rintro e w1 ⟨rfl, b⟩
                         exact ⟨rfl, HC3.out _ _ hW b⟩)
                      | (obtain ⟨k0, k1, k2, k3, k4, k5⟩ := (HC1.out _ hW)
                         simp only [k0, k1, k2, k3, k4, k5, Result.andThen]
                         exact ⟨trivial, rfl⟩))
                  go_big_quiet_on)))
        refine wpQuiet_nil ?_
        intro w1 hw1
        have HB1 := Lib.hid (HB.out.trans ((HC2.out _ hw1).mono HB.out.size))
        clear hw1 hc0 e0 e1 e2 g0 g1 g2
        cases rb with
        | true =>
          have HG := Lib.hid (HY2.out rfl)
          go_wp2
          go_roundw
          case rel => exact ⟨k + 1, by omega, by go_num, by rw [HG.out], HB1⟩
          case measure => simp [intOf]; omega
        | false =>
          have HG := Lib.hid (HN2.out rfl)
          go_wp2
          go_roundw
          case rel => exact ⟨k + 1, by omega, by go_num, by rw [HG.out], HB1⟩
          case measure => simp [intOf]; omega
    · obtain rfl : k = n := by omega
      go_wp2
      go_ret
      exact ⟨rfl, HB.out⟩
set_option maxHeartbeats 1000000 in
theorem specPick_any (v : Value) (L : List St) (p q : Int) (r : Bool) (y : Int) (w : World) (hi : Nat) (hv : StI w hi v L) (hh : hi ≤ w.heap.size) (hr : r = true ↔ StsOk L p) (hy : y = pickV L r p q) (hl : L.length ≤ 1048576) :
    Calls Try.prog 22 #[.int .i64 q, v, .int .i64 p] w fun e w' => e = .returned (.int .i64 y) ∧ Below w.heap.size w w' := by
  have HS := Lib.hid (specSts_any v L p r w hi hv hh hr hl)
  have HV := Lib.hid (fun (ho : StsOk L p) => specVict_any v L p q w hi hv hh ho)
  obtain ⟨A, cap, rfl⟩ := hv.slice
  have HY := Lib.hid (show y = if r = true ∧ (1 ≤ q ∧ q ≤ 2) then bestTo L q p L.length else -1 from hy)
  have HR := Lib.hid hr
  clear hv hh hr hl hy
  by_cases hq : 1 ≤ q ∧ q ≤ 2
  case neg =>
    have HI := Lib.hid (fun (W : World) => inr_no q 1 2 W hq)
    have HG := Lib.hid (show y = -1 by rw [HY.out, if_neg (fun e => hq e.2)])
    clear hq HV HS
    go_enter Try.func22, Try.ntmps22
    go_wp2_with fail
    refine (HI.out _).mono ?_
    rintro e w1 ⟨rfl, rfl⟩
    go_wp2
    go_ret
    exact ⟨ret_int HG.out.symm, Below.refl _ _⟩
  have HI := Lib.hid (fun (W : World) => inr_yes q 1 2 W hq.1 hq.2)
  cases r with
  | false =>
    have HG := Lib.hid (show y = -1 by rw [HY.out, if_neg (fun e => Bool.false_ne_true e.1)])
    clear hq HV
    go_enter Try.func22, Try.ntmps22
    go_wp2_with fail
    refine (HI.out _).mono ?_
    rintro e w1 ⟨rfl, rfl⟩
    go_wp2_with fail
    refine HS.out.mono ?_
    rintro e w1 ⟨rfl, rfl⟩
    go_wp2
    go_ret
    exact ⟨ret_int HG.out.symm, Below.refl _ _⟩
  | true =>
    have HG := Lib.hid (show y = bestTo L q p L.length by rw [HY.out, if_pos ⟨rfl, hq⟩])
    have HV1 := Lib.hid (HV.out (HR.out.1 rfl))
    clear hq HV
    go_enter Try.func22, Try.ntmps22
    go_wp2_with fail
    refine (HI.out _).mono ?_
    rintro e w1 ⟨rfl, rfl⟩
    go_wp2_with fail
    refine HS.out.mono ?_
    rintro e w1 ⟨rfl, rfl⟩
    go_wp2_with fail
    refine HV1.out.mono ?_
    rintro e w1 ⟨rfl, b1⟩
    have B1 := Lib.hid b1
    clear b1
    go_wp2
    go_ret
    exact ⟨ret_int HG.out.symm, B1.out⟩
theorem specGreedy_any (v : Value) (L : List St) (p : Int) (r : Bool) (y : Int) (w : World) (hi : Nat) (hv : StI w hi v L) (hh : hi ≤ w.heap.size) (hr : r = true ↔ StsOk L p) (hy : y = pickV L r p 1) (hl : L.length ≤ 1048576) :
    Calls Try.prog 16 #[v, .int .i64 p] w fun e w' => e = .returned (.int .i64 y) ∧ Below w.heap.size w w' := by
  have HS := Lib.hid (specPick_any v L p 1 r y w hi hv hh hr hy hl)
  obtain ⟨A, cap, rfl⟩ := hv.slice
  clear hv hh hr hl hy
  go_enter Try.func16, Try.ntmps16
  go_wp2_with fail
  refine HS.out.mono ?_
  rintro e w1 ⟨rfl, b1⟩
  have B1 := Lib.hid b1
  clear b1
  go_wp2
  go_ret
  exact ⟨rfl, B1.out⟩
theorem specCost_any (v : Value) (L : List St) (p : Int) (r : Bool) (y : Int) (w : World) (hi : Nat) (hv : StI w hi v L) (hh : hi ≤ w.heap.size) (hr : r = true ↔ StsOk L p) (hy : y = pickV L r p 2) (hl : L.length ≤ 1048576) :
    Calls Try.prog 20 #[v, .int .i64 p] w fun e w' => e = .returned (.int .i64 y) ∧ Below w.heap.size w w' := by
  have HS := Lib.hid (specPick_any v L p 2 r y w hi hv hh hr hy hl)
  obtain ⟨A, cap, rfl⟩ := hv.slice
  clear hv hh hr hl hy
  go_enter Try.func20, Try.ntmps20
  go_wp2_with fail
  refine HS.out.mono ?_
  rintro e w1 ⟨rfl, b1⟩
  have B1 := Lib.hid b1
  clear b1
  go_wp2
  go_ret
  exact ⟨rfl, B1.out⟩
end Go.Proofs.Ytgkanacaijlljab
