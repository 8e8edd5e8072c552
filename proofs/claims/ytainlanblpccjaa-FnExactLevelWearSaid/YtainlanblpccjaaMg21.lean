/- The proof's own lemmas, part 22: WrS PmV. -/
import Derived.Test.YtainlanblpccjaaProg
import Derived.Test.YtainlanblpccjaaMg14
import Derived.Test.YtainlanblpccjaaMg19
import Derived.Test.YtainlanblpccjaaMg8
import Derived.Test.YtainlanblpccjaaMg13
import Derived.BigQuiet
import Derived.Deep.QuietTactic
import Derived.Test.YtainlanblpccjaaMg9
/- The choice of blocks by their erase counts, in the model: the contracts. -/
namespace Go.Proofs.Ytainlanblpccjaa
open Go.RowKit
set_option linter.unusedVariables false
set_option linter.unusedSimpArgs false
theorem byNum_lt (er : List Int) (hot : Bool) (a b : Int) : byNum (ordE er hot) a b < 0 ↔ (if hot = true then er.getD a.toNat 0 < er.getD b.toNat 0 else er.getD b.toNat 0 < er.getD a.toNat 0) ∨ (er.getD a.toNat 0 = er.getD b.toNat 0 ∧ a < b) := by
  unfold byNum ordE orI cmpI
  generalize er.getD a.toNat 0 = x
  generalize er.getD b.toNat 0 = y
  cases hot <;> simp <;> (repeat' split) <;> omega
set_option maxHeartbeats 4000000 in
set_option maxRecDepth 100000 in
theorem specPfr_any (u v : Value) (er fr : List Int) (hot r : Bool) (w : World) (hi : Nat) (hu : NI w hi u er) (hv : NI w hi v fr) (hh : hi ≤ w.heap.size) (hr : r = true ↔ FreeOk er fr) (h1 : er.length ≤ 1048576) (h2 : fr.length ≤ 1048576) :
    Calls Try.prog 33 #[u, v, .bool hot] w fun e w' => e = .returned (.int .i64 (pickV er fr hot r)) ∧ Below w.heap.size w w' := by
  obtain ⟨A, n, c, rfl, _, _, hn, hA⟩ := hu
  obtain ⟨A', m, c', rfl, _, _, hm, hA'⟩ := hv
  unfold FreeOk at hr
  rw [hn, hm] at hr
  have hnm : (n : Int) ≤ 1048576 := by omega
  have hmm : (m : Int) ≤ 1048576 := by omega
  have HR := Lib.hid hr
  have HA := Lib.hid hA
  have HA' := Lib.hid hA'
  have HN := Lib.hid hn
  have HM := Lib.hid hm
  have HH := Lib.hid hh
  have B0 := Lib.hid (Below.refl w.heap.size w)
  have w1 : IntKind.i64.wrap ((n : Int) - 1) = (n : Int) - 1 := IntWalk.i64_in _ (by omega)
  obtain ⟨F, hF⟩ : ∃ F, F = bestF (byNum (ordE er hot)) fr := ⟨_, rfl⟩
  have HF := Lib.hid hF
  have F0 : F 0 = -1 := by rw [hF]; rfl
  have HF0 := Lib.hid F0
  have HIN := Lib.hid (fun (k : Nat) (h : ∀ i, i < k → 0 ≤ fr.getD i 0 ∧ fr.getD i 0 < (er.length : Int)) => bestF_in (c := byNum (ordE er hot)) h)
  have HST := Lib.hid (fun k => bestF_step (byNum (ordE er hot)) fr k)
  rw [← hF] at HIN HST
  have HLT := Lib.hid (fun (a b : Int) => byNum_lt er hot a b)
  have HV := Lib.hid (show pickV er fr hot true = F m by rw [hF]; unfold pickV firstV; rw [if_pos rfl, hm])
  have HV0 := Lib.hid (show pickV er fr hot false = -1 from rfl)
  clear hA hA' hr hn hm hh h1 h2 hF F0
  go_enter Try.func33, Try.ntmps33
  go_wp2
  go_loopw [7, 8] (fun b i wr => ∃ k : Nat, k ≤ m ∧ i = .int .i64 k ∧ b = .int .i64 (F k) ∧ Hid (∀ i, i < k → 0 ≤ fr.getD i 0 ∧ fr.getD i 0 < (n : Int)) ∧ Hid (Below w.heap.size w wr)) (fun _ i _ => m - (intOf i).toNat)
  case atStart => exact ⟨0, by omega, rfl, by rw [HF0.out], Lib.hid (fun i hi => by omega), B0⟩
  case round =>
    obtain ⟨k, hk, rfl, rfl, HE, HB⟩ := hrel
    by_cases hlt : k < m
    · have hki : (k : Int) < (m : Int) := by omega
      obtain ⟨qb, qo, rfl, hq2, hqx⟩ := HA'.out (by omega)
      have e1 := (HB.out.cell (p := ⟨qb, qo + k, none⟩) (by have := HH.out; show qb < _; omega)).trans (hqx k hlt)
      have HF2 := Lib.hid (fun (e : ¬ (0 ≤ fr.getD k 0 ∧ fr.getD k 0 < (n : Int))) => not_true HR.out (fun f => e (f k hlt)))
      have HY := Lib.hid (fun (e : 0 ≤ fr.getD k 0 ∧ fr.getD k 0 < (n : Int)) => show ∀ i, i < k + 1 → 0 ≤ fr.getD i 0 ∧ fr.getD i 0 < (n : Int) from fun j hj => by
        by_cases f : j = k
        · subst f; exact e
        · exact HE.out j (by omega))
      have hin0 := HIN.out k (by rw [HN.out]; exact HE.out)
      rw [HN.out] at hin0
      have HS1 := Lib.hid (HST.out k)
      obtain ⟨b, hb⟩ : ∃ b, b = fr.getD k 0 := ⟨_, rfl⟩
      rw [← hb] at e1 HF2 HY HS1
      obtain ⟨x, hx⟩ : ∃ x, x = F k := ⟨_, rfl⟩
      rw [← hx] at HS1 hin0 ⊢
      clear hb hx hqx
      by_cases hin : 0 ≤ b ∧ b < (n : Int)
      case neg =>
        have HI := Lib.hid (fun (W : World) => inr_no b 0 ((n : Int) - 1) W (by omega))
        have HG := Lib.hid (HF2.out hin)
        clear HF2 HY HR HA HIN HST HLT hin hin0 HS1
        go_wp2_with fail
        refine (HI.out _).mono ?_
        rintro e w1 ⟨rfl, rfl⟩
        go_wp2
        go_ret
        exact ⟨ret_int (by rw [HG.out, HV0.out]), HB.out⟩
      have HI := Lib.hid (fun (W : World) => inr_yes b 0 ((n : Int) - 1) W (by omega) (by omega))
      have HY2 := Lib.hid (HY.out hin)
      rcases hin0 with ⟨hk0, hx⟩ | ⟨hk0, hx⟩
      · subst hx
        have HS2 := Lib.hid (show F (k + 1) = b by rw [HS1.out, if_pos (.inl hk0)])
        clear HF2 HY HR HA HIN HST HLT hin hk0 HS1
        go_wp2_with fail
        refine (HI.out _).mono ?_
        rintro e w1 ⟨rfl, rfl⟩
        go_wp2
        go_roundw
        case rel => exact ⟨k + 1, by omega, by go_num, by rw [HS2.out], HY2, HB⟩
        case measure => simp [intOf]; omega
      obtain ⟨j, rfl⟩ : ∃ j : Nat, x = j := ⟨x.toNat, by omega⟩
      obtain ⟨i, rfl⟩ : ∃ i : Nat, b = i := ⟨b.toNat, by omega⟩
      have hjn : j < n := by omega
      have hin2 : i < n := by omega
      have hji : (j : Int) < (n : Int) := by omega
      have hii : (i : Int) < (n : Int) := by omega
      obtain ⟨pb, po, rfl, hp2, hpx⟩ := HA.out (by omega)
      have cell : ∀ i, i < n → wr.cell? ⟨pb, po + i, none⟩ = some (.int .i64 (er.getD i 0)) := fun i hi => (HB.out.cell (p := ⟨pb, po + i, none⟩) (by have := HH.out; show pb < _; omega)).trans (hpx i hi)
      have c1 := cell i hin2
      have c2 := cell j hjn
      have HL := Lib.hid (HLT.out (i : Int) (j : Int))
      simp only [Int.toNat_natCast] at HL
      generalize er.getD i 0 = ei at *
      generalize er.getD j 0 = ej at *
      have dj : decide ((j : Int) < 0) = false := by simp
      obtain ⟨t, ht⟩ : ∃ t, t = decide (byNum (ordE er hot) (i : Int) (j : Int) < 0) := ⟨_, rfl⟩
      have HT := Lib.hid (show t = true → F (k + 1) = (i : Int) by intro e; rw [HS1.out, if_pos (.inr (by rw [e] at ht; simpa using ht.symm))])
      have HT0 := Lib.hid (show t = false → F (k + 1) = (j : Int) by
        intro e
        rw [HS1.out, if_neg]
        rintro (q | q)
        · omega
        · rw [e] at ht; simp at ht; omega)
      have ht2 : t = true ↔ (if hot = true then ei < ej else ej < ei) ∨ (ei = ej ∧ (i : Int) < (j : Int)) := by rw [ht, decide_eq_true_iff]; exact HL.out
      clear HF2 HY HR HIN HST HLT hin HS1 cell hpx HL ht hx hk0
      have w3 := ht2
      clear ht2
      by_cases a1 : ei < ej
      · have d1 : decide (ei < ej) = true := by simpa using a1
        have d2 : decide (ei > ej) = false := by simp; omega
        have d2' : decide (ej < ei) = false := by simp; omega
        have d3 : (ei == ej) = false := by simp; omega
        cases hot with
        | true =>
          have HG := Lib.hid (HT.out (w3.2 (.inl (by simpa using a1))))
          clear w3 HT HT0 a1
          go_wp2_with fail
          refine (HI.out _).mono ?_
          rintro e w1 ⟨rfl, rfl⟩
          go_wp2_with fail
          go_quiet (fail)
          go_wp2_with fail
          go_quiet (fail)
          go_wp2
          go_roundw
          case rel => exact ⟨k + 1, by omega, by go_num, by rw [HG.out], HY2, Lib.hid (below_drewN HB.out _)⟩
          case measure => simp [intOf]; omega
        | false =>
          have HG := Lib.hid (HT0.out (by
            cases t with
            | false => rfl
            | true => have := w3.1 rfl; simp at this; omega))
          clear w3 HT HT0 a1
          go_wp2_with fail
          refine (HI.out _).mono ?_
          rintro e w1 ⟨rfl, rfl⟩
          go_wp2_with fail
          go_quiet (fail)
          go_wp2_with fail
          go_quiet (fail)
          go_wp2_with fail
          go_quiet (fail)
          go_wp2
          go_roundw
          case rel => exact ⟨k + 1, by omega, by go_num, by rw [HG.out], HY2, Lib.hid (below_drewN HB.out _)⟩
          case measure => simp [intOf]; omega
      by_cases a2 : ej < ei
      · have d1 : decide (ei < ej) = false := by simp; omega
        have d2 : decide (ei > ej) = true := by simp; omega
        have d2' : decide (ej < ei) = true := by simp; omega
        have d3 : (ei == ej) = false := by simp; omega
        cases hot with
        | false =>
          have HG := Lib.hid (HT.out (w3.2 (.inl (by simpa using a2))))
          clear w3 HT HT0 a1 a2
          go_wp2_with fail
          refine (HI.out _).mono ?_
          rintro e w1 ⟨rfl, rfl⟩
          go_wp2_with fail
          go_quiet (fail)
          go_wp2_with fail
          go_quiet (fail)
          go_wp2_with fail
          go_quiet (fail)
          go_wp2
          go_roundw
          case rel => exact ⟨k + 1, by omega, by go_num, by rw [HG.out], HY2, Lib.hid (below_drewN HB.out _)⟩
          case measure => simp [intOf]; omega
        | true =>
          have HG := Lib.hid (HT0.out (by
            cases t with
            | false => rfl
            | true => have := w3.1 rfl; simp at this; omega))
          clear w3 HT HT0 a1 a2
          go_wp2_with fail
          refine (HI.out _).mono ?_
          rintro e w1 ⟨rfl, rfl⟩
          go_wp2_with fail
          go_quiet (fail)
          go_wp2_with fail
          go_quiet (fail)
          go_wp2
          go_roundw
          case rel => exact ⟨k + 1, by omega, by go_num, by rw [HG.out], HY2, Lib.hid (below_drewN HB.out _)⟩
          case measure => simp [intOf]; omega
      obtain rfl : ei = ej := by omega
      have d1 : decide (ei < ei) = false := by simp
      have d2 : decide (ei > ei) = false := by simp
      have d3 : (ei == ei) = true := by simp
      by_cases a3 : i < j
      · have d4 : decide ((i : Int) < (j : Int)) = true := by simp; omega
        have d5 : decide (i < j) = true := by simpa using a3
        have HG := Lib.hid (HT.out (w3.2 (.inr ⟨rfl, by omega⟩)))
        clear w3 HT HT0 a1 a2 a3
        cases hot with
        | true =>
          go_wp2_with fail
          refine (HI.out _).mono ?_
          rintro e w1 ⟨rfl, rfl⟩
          go_wp2_with fail
          go_quiet (fail)
          go_wp2_with fail
          go_quiet (fail)
          go_wp2
          go_roundw
          case rel => exact ⟨k + 1, by omega, by go_num, by rw [HG.out], HY2, Lib.hid (below_drewN HB.out _)⟩
          case measure => simp [intOf]; omega
        | false =>
          go_wp2_with fail
          refine (HI.out _).mono ?_
          rintro e w1 ⟨rfl, rfl⟩
          go_wp2_with fail
          go_quiet (fail)
          go_wp2_with fail
          go_quiet (fail)
          go_wp2_with fail
          go_quiet (fail)
          go_wp2
          go_roundw
          case rel => exact ⟨k + 1, by omega, by go_num, by rw [HG.out], HY2, Lib.hid (below_drewN HB.out _)⟩
          case measure => simp [intOf]; omega
      · have d4 : decide ((i : Int) < (j : Int)) = false := by simp; omega
        have d5 : decide (i < j) = false := by simpa using a3
        have HG := Lib.hid (HT0.out (by
            cases t with
            | false => rfl
            | true => have := w3.1 rfl; cases hot <;> simp at this <;> omega))
        clear w3 HT HT0 a1 a2 a3
        cases hot with
        | true =>
          go_wp2_with fail
          refine (HI.out _).mono ?_
          rintro e w1 ⟨rfl, rfl⟩
          go_wp2_with fail
          go_quiet (fail)
          go_wp2_with fail
          go_quiet (fail)
          go_wp2
          go_roundw
          case rel => exact ⟨k + 1, by omega, by go_num, by rw [HG.out], HY2, Lib.hid (below_drewN HB.out _)⟩
          case measure => simp [intOf]; omega
        | false =>
          go_wp2_with fail
          refine (HI.out _).mono ?_
          rintro e w1 ⟨rfl, rfl⟩
          go_wp2_with fail
          go_quiet (fail)
          go_wp2_with fail
          go_quiet (fail)
          go_wp2_with fail
          go_quiet (fail)
          go_wp2
          go_roundw
          case rel => exact ⟨k + 1, by omega, by go_num, by rw [HG.out], HY2, Lib.hid (below_drewN HB.out _)⟩
          case measure => simp [intOf]; omega
    · obtain rfl : k = m := by omega
      obtain rfl : r = true := HR.out.2 HE.out
      have HVV := Lib.hid HV.out
      clear HR HA HA' HIN HST HLT
      go_wp2
      go_ret
      exact ⟨ret_int HVV.out.symm, HB.out⟩
end Go.Proofs.Ytainlanblpccjaa
/- Which maps are valid, in the program and in the model: the small contracts. -/
namespace Go.Proofs.Ytainlanblpccjaa
open Go.RowKit
set_option linter.unusedVariables false
set_option linter.unusedSimpArgs false
theorem sizeOk_div {b p : Int} (hb : 1 ≤ b) (hp : 1 ≤ p) : (b ≤ 640 / p) ↔ ((1 ≤ b ∧ b ≤ 640) ∧ (1 ≤ p ∧ p ≤ 640) ∧ b * p ≤ 640) := by
  rw [Int.le_ediv_iff_mul_le (by omega)]
  constructor
  · intro h
    have h1 : b * 1 ≤ b * p := Int.mul_le_mul_of_nonneg_left hp (by omega)
    have h2 : 1 * p ≤ b * p := Int.mul_le_mul_of_nonneg_right hb (by omega)
    exact ⟨⟨hb, by omega⟩, ⟨hp, by omega⟩, h⟩
  · exact fun h => h.2.2
theorem implSizes_any (l b p : Int) (r : Bool) (w : World) (hr : r = true ↔ SizeOk l b p) :
    Calls Try.prog 209 #[.int .i64 l, .int .i64 b, .int .i64 p] w fun e w' => e = .returned (.bool r) ∧ Below w.heap.size w w' := by
  have B0 := Lib.hid (Below.refl w.heap.size w)
  have HR := Lib.hid hr
  obtain ⟨q, hq⟩ := prop_dec' (1 ≤ l ∧ l ≤ 48)
  have HV := Lib.hid (fun (W : World) => validLogical_any l q W hq)
  clear hr
  cases q with
  | false =>
    obtain rfl : r = false := not_true HR.out (fun e => by have := hq.2 e.1; cases this)
    clear HR hq
    go_enter Try.func209, Try.ntmps209
    go_wp2_with fail
    refine (HV.out _).mono ?_
    rintro e w1 ⟨rfl, rfl⟩
    go_wp2
    go_ret
    exact ⟨rfl, B0.out⟩
  | true =>
  have hl := hq.1 rfl
  clear hq
  by_cases h3 : 1 ≤ b
  case neg =>
    have d3 : decide (1 ≤ b) = false := by simp; omega
    have d3' : decide (b ≥ 1) = false := by simp; omega
    obtain rfl : r = false := not_true HR.out (fun e => h3 e.2.1.1)
    clear HR h3
    go_enter Try.func209, Try.ntmps209
    go_wp2_with fail
    refine (HV.out _).mono ?_
    rintro e w1 ⟨rfl, rfl⟩
    go_wp2
    go_ret
    exact ⟨rfl, B0.out⟩
  have d3 : decide (1 ≤ b) = true := by simp; omega
  have d3' : decide (b ≥ 1) = true := by simp; omega
  by_cases h4 : 1 ≤ p
  case neg =>
    have d4 : decide (1 ≤ p) = false := by simp; omega
    have d4' : decide (p ≥ 1) = false := by simp; omega
    obtain rfl : r = false := not_true HR.out (fun e => h4 e.2.2.1.1)
    clear HR h3 h4
    go_enter Try.func209, Try.ntmps209
    go_wp2_with fail
    refine (HV.out _).mono ?_
    rintro e w1 ⟨rfl, rfl⟩
    go_wp2
    go_ret
    exact ⟨rfl, B0.out⟩
  have d4 : decide (1 ≤ p) = true := by simp; omega
  have d4' : decide (p ≥ 1) = true := by simp; omega
  have ht : (640 : Int).tdiv p = 640 / p := Int.tdiv_eq_ediv_of_nonneg (by omega)
  have h0 : p ≠ 0 := by omega
  have q1 : 640 / p ≤ 640 := Int.ediv_le_self _ (by omega)
  have q2 : 0 ≤ 640 / p := Int.ediv_nonneg (by omega) (by omega)
  obtain rfl : r = decide (b ≤ 640 / p) := by
    rw [Bool.eq_iff_iff, HR.out]
    simp only [decide_eq_true_eq]
    rw [sizeOk_div h3 h4]
    unfold SizeOk
    constructor
    · exact fun e => e.2
    · exact fun e => ⟨hl, e⟩
  generalize 640 / p = q at *
  have w1 : IntKind.i64.wrap q = q := IntWalk.i64_in _ (by omega)
  clear HR h3 h4 hl
  go_enter Try.func209, Try.ntmps209
  go_wp2_with fail
  refine (HV.out _).mono ?_
  rintro e w1 ⟨rfl, rfl⟩
  go_wp2
  go_ret
  exact ⟨rfl, B0.out⟩
theorem logicalPages_any (b p : Int) (A A' : Option Addr) (n c n' c' : Nat) (w : World) (hn : (n : Int) ≤ 9223372036854775807) :
    Calls Try.prog 210 #[.agg #[.int .i64 b, .int .i64 p, .slice A n c, .slice A' n' c']] w fun e w' => e = .returned (.int .i64 n) ∧ Below w.heap.size w w' := by
  have B0 := Lib.hid ((Below.refl w.heap.size w).alloc (Nat.le_refl _) (.cells #[.int .i64 b, .int .i64 p, .slice A n c, .slice A' n' c'] 104))
  go_enter Try.func210, Try.ntmps210
  go_wp2
  go_ret
  exact ⟨rfl, B0.out⟩
end Go.Proofs.Ytainlanblpccjaa
