/- WearExcess, in the model and in the program: the contracts. -/
import Derived.Test.YtmbgagkpabepcaaProg
import Derived.Test.YtmbgagkpabepcaaWrG
import Derived.Test.YtmbgagkpabepcaaWrT
import Derived.Test.YtmbgagkpabepcaaEqI
import Derived.Deep.RegionLaw
import Derived.StillTailTactics
namespace Go.Proofs.Ytmbgagkpabepcaa
open Go.RowKit
set_option linter.unusedVariables false
set_option linter.unusedSimpArgs false

/-- The sum of the first k elements. -/
def smK (c : List Int) : Nat → Int
  | 0 => 0
  | k + 1 => smK c k + c.getD k 0
theorem smK_le (c : List Int) (m : Int) (k : Nat) (h : ∀ i, i < k → 0 ≤ c.getD i 0 ∧ c.getD i 0 ≤ m) : 0 ≤ smK c k ∧ smK c k ≤ m * (k : Int) := by
  induction k with
  | zero => simp [smK]
  | succ k ih =>
    have a := ih (fun i hi => h i (by omega))
    have b := h k (by omega)
    have e : m * ((k + 1 : Nat) : Int) = m * (k : Int) + m := by rw [show ((k + 1 : Nat) : Int) = (k : Int) + 1 by omega, Int.mul_add, Int.mul_one]
    unfold smK
    omega
theorem smK_app (c : List Int) (x : Int) (k : Nat) (h : k ≤ c.length) : smK (c ++ [x]) k = smK c k := by
  induction k with
  | zero => rfl
  | succ k ih =>
    unfold smK
    rw [ih (by omega)]
    simp [List.getD_eq_getElem?_getD, List.getElem?_append_left (show k < c.length by omega)]
theorem smK_snoc (c : List Int) (x : Int) : smK (c ++ [x]) (c ++ [x]).length = smK c c.length + x := by
  rw [List.length_append, List.length_singleton]
  show smK (c ++ [x]) c.length + (c ++ [x]).getD c.length 0 = _
  rw [smK_app c x _ (Nat.le_refl _)]
  simp [List.getD_eq_getElem?_getD]
theorem hiL_ge (l : List Int) : ∀ k, k ≤ l.length → ∀ i, i < k → l.getD i 0 ≤ hiL (l.take k) := by
  intro k
  induction k with
  | zero => intro _ i hi; omega
  | succ k ih =>
    intro hk i hi
    rcases Nat.eq_zero_or_pos k with e | e
    · subst e
      obtain rfl : i = 0 := by omega
      have : l.take (0 + 1) = [l.getD 0 0] := by
        rw [List.take_succ_eq_append_getElem (by omega)]; simp [List.getD_eq_getElem?_getD, List.getElem?_eq_getElem (show 0 < l.length by omega)]
      rw [this]; simp [hiL]
    · rw [hiL_take l k (by omega) e]
      by_cases f : i = k
      · subst f; split <;> omega
      · have := ih (by omega) i (by omega)
        split <;> omega
theorem hiL_top (l : List Int) (i : Nat) (h : i < l.length) : l.getD i 0 ≤ hiL l := by
  have := hiL_ge l l.length (Nat.le_refl _) i h
  rwa [List.take_length] at this
/-- How far a count x lies above the average of the others, rounded up, at least 0: n counts of the sum s. -/
def exF (n : Nat) (s x : Int) : Int := (max (x * (n : Int) - s) 0 + ((n : Int) - 1) - 1) / ((n : Int) - 1)
def exV (Y : List Int) : Int := if Y.length < 2 then 0 else exF Y.length (smK Y Y.length) (hiL Y)
theorem exF_mono (n : Nat) (s : Int) (hn : 2 ≤ n) {x y : Int} (h : x ≤ y) : exF n s x ≤ exF n s y := by
  have h1 : x * (n : Int) ≤ y * (n : Int) := Int.mul_le_mul_of_nonneg_right h (by omega)
  exact Int.ediv_le_ediv (by omega) (by omega)
theorem exF_nonneg (n : Nat) (s x : Int) (hn : 2 ≤ n) : 0 ≤ exF n s x := Int.ediv_nonneg (by omega) (by omega)
theorem exF_zero (n : Nat) (s x : Int) (hn : 2 ≤ n) (h : x * (n : Int) - s ≤ 0) : exF n s x = 0 := by
  unfold exF
  rw [show max (x * (n : Int) - s) 0 = 0 by omega]
  exact Int.ediv_eq_zero_of_lt (by omega) (by omega)
theorem exF_max (n : Nat) (s : Int) (hn : 2 ≤ n) (x y : Int) : max (exF n s x) (exF n s y) = exF n s (max x y) := by
  rcases Int.le_total x y with h | h
  · have := exF_mono n s hn h; rw [show max x y = y by omega]; omega
  · have := exF_mono n s hn h; rw [show max x y = x by omega]; omega
theorem prod_bd {x m : Int} {n : Nat} (h0 : 0 ≤ x) (h1 : x ≤ m) : 0 ≤ x * (n : Int) ∧ x * (n : Int) ≤ m * (n : Int) :=
  ⟨Int.mul_nonneg h0 (by omega), Int.mul_le_mul_of_nonneg_right h1 (by omega)⟩
set_option maxHeartbeats 4000000 in
set_option maxRecDepth 100000 in
theorem implExc_any (u v : Value) (er : List Int) (bad : List Bool) (r : Bool) (w : World) (hi : Nat) (hu : NI w hi u er) (hv : NB w hi v bad) (hh : hi ≤ w.heap.size) (hr : r = true ↔ CountsOk er) (h1 : er.length ≤ 1048576) (h2 : bad.length ≤ 1048576) :
    Calls Try.prog 37 #[u, v] w fun e w' => e = .returned (.int .i64 (exV (gcR er bad r))) ∧ Below w.heap.size w w' := by
  have HC := Lib.hid (goodC_any u v er bad r w hi hu hv hh hr h1 h2)
  have HLN := Lib.hid (gcR_len er bad r)
  have HBD := Lib.hid (gcR_bd (bad := bad) hr)
  have HIN := Lib.hid (gcR_in (bad := bad) hr)
  have HL1 := Lib.hid h1
  obtain ⟨A, n, c, rfl⟩ := hu.slice
  obtain ⟨A', m, c', rfl⟩ := hv.slice
  generalize gcR er bad r = Y at *
  obtain ⟨y, hy⟩ : ∃ y, y = exV Y := ⟨_, rfl⟩
  have HY := Lib.hid hy
  rw [← hy]
  clear hu hv hr h1 h2 hh hy
  go_enter Try.func37, Try.ntmps37
  go_wp2_with fail
  refine HC.out.mono ?_
  rintro e wr ⟨x, rfl, hown, hb⟩
  have HB3 := Lib.hid hb
  obtain ⟨X1, X2, X3, ex, _, _, hl3, hA3⟩ := hown.readsR
  have hl3m : (X2 : Int) ≤ 1048576 := by have := HLN.out; have := HL1.out; omega
  subst ex
  have HL3 := Lib.hid hl3
  have HA := Lib.hid hA3
  clear hown hb HC HLN HL1 hl3 hA3
  by_cases h0 : 2 ≤ X2
  case neg =>
    have d0 : decide ((X2 : Int) - 1 < 1) = true := by simp; omega
    have HG := Lib.hid (show y = 0 by rw [HY.out, exV, if_pos (by rw [HL3.out]; omega)])
    clear HY HBD HIN HA h0
    go_wp2
    go_ret
    exact ⟨ret_int HG.out.symm, HB3.out⟩
  have d0 : decide ((X2 : Int) - 1 < 1) = false := by simp; omega
  have hA3 := HA.out
  obtain ⟨b, o, rfl, hb1, hx⟩ := hA3 (by omega)
  have hl3 := HL3.out
  have HMX := Lib.hid (Try.slices_Max_int b o X2 X3 Y wr (by omega) (by omega) (by omega) (fun j hj => hx j (by omega)))
  clear hl3
  have eY : Y.take X2 = Y := by rw [← HL3.out, List.take_length]
  rw [eY, maxOf_hiL] at HMX
  have HX := Lib.hid hx
  have HV := Lib.hid (show y = exF X2 (smK Y X2) (hiL Y) by rw [HY.out, exV, if_neg (by rw [HL3.out]; omega), HL3.out])
  have HS := Lib.hid (fun (k : Nat) (hk : k ≤ X2) => smK_le Y (hiL Y) k (fun (i : Nat) (hik : i < k) => have hl : i < Y.length := by { have := HL3.out; omega }; ⟨(HIN.out i hl).1, hiL_top Y i hl⟩))
  have hb0 := HBD.out.1
  generalize hiL Y = M at *
  clear HY HBD hA3 hx eY HA
  go_wp2_with fail
  refine HMX.out.mono ?_
  rintro e w3 ⟨rfl, rfl⟩
  clear HMX
  go_wp2
  go_loop [8, 10, 24] (fun s _ i => ∃ k : Nat, ∃ z : Int, k ≤ X2 ∧ i = .int .i64 k ∧ s = .int .i64 z ∧ 0 ≤ z ∧ z ≤ 1000 * (k : Int) ∧ Hid (z = smK Y k)) (fun _ _ i => X2 - (intOf i).toNat)
  case atStart => exact ⟨0, 0, by omega, rfl, rfl, by omega, by omega, Lib.hid rfl⟩
  case round =>
    obtain ⟨k, z, hk, rfl, rfl, hz0, hz1, HZ⟩ := hrel
    by_cases hlt : k < X2
    · have hki : (k : Int) < (X2 : Int) := by omega
      have e1 := HX.out k hlt
      have hyk := HIN.out k (by rw [HL3.out]; exact hlt)
      have HZ1 := Lib.hid (show z + Y.getD k 0 = smK Y (k + 1) by rw [HZ.out]; rfl)
      generalize Y.getD k 0 = yk at *
      clear HS HIN HX
      go_wp2
      go_round
      case rel => exact ⟨k + 1, z + yk, by omega, by go_num, by go_num, by omega, by omega, HZ1⟩
      case measure => simp [intOf]; omega
    · obtain rfl : k = X2 := by omega
      have hs := HS.out k (Nat.le_refl _)
      rw [← HZ.out] at hs
      obtain ⟨P, hP⟩ : ∃ P, P = M * ((k : Int) - 1) := ⟨_, rfl⟩
      have hPk : M * (k : Int) = P + M := by rw [hP, Int.mul_sub, Int.mul_one]; omega
      rw [hPk] at hs
      have hp := prod_bd (n := k - 1) hb0.1 hb0.2
      rw [show ((k - 1 : Nat) : Int) = (k : Int) - 1 by omega, ← hP] at hp
      have hw : IntKind.i64.wrap (M * ((k : Int) - 1)) = P := by rw [← hP]; exact IntWalk.i64_in _ (by omega)
      have hnum : 0 ≤ P - (z - M) + ((k : Int) - 1) - 1 := by omega
      obtain ⟨N, hN⟩ : ∃ N, N = P - (z - M) + ((k : Int) - 1) - 1 := ⟨_, rfl⟩
      have hdiv : N.tdiv ((k : Int) - 1) = N / ((k : Int) - 1) := Int.tdiv_eq_ediv_of_nonneg (by omega)
      have hq0 : 0 ≤ N / ((k : Int) - 1) := Int.ediv_nonneg (by omega) (by omega)
      have hq1 : N / ((k : Int) - 1) ≤ N := Int.ediv_le_self _ (by omega)
      have HG := Lib.hid (show y = N / ((k : Int) - 1) by
        rw [HV.out, exF, ← HZ.out, hPk, hN]
        rw [show max (P + M - z) 0 = P - (z - M) by omega])
      have hw2 : IntKind.i64.wrap (N.tdiv ((k : Int) - 1)) = N / ((k : Int) - 1) := by rw [hdiv]; exact IntWalk.i64_in _ (by omega)
      have hw3 : wrap64 (N / ((k : Int) - 1)) = N / ((k : Int) - 1) := IntWalk.wrap64_in _ (by omega)
      rw [hN] at hw2 hdiv hw3
      have hne : ((k : Int) - 1 == 0) = false := by simp; omega
      have hne2 : (k : Int) - 1 ≠ 0 := by omega
      have hkb : (k : Int) ≤ 1048576 := hl3m
      have hPb : P ≤ 1048576000 := by omega
      have HN := Lib.hid hN
      clear HV HS HIN HX HZ hPk hP hs hN
      go_wp2
      go_ret
      exact ⟨by rw [HG.out, HN.out]; simp [*], HB3.out⟩
end Go.Proofs.Ytmbgagkpabepcaa
