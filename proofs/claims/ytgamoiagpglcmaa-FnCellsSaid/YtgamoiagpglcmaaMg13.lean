/- The proof's own lemmas, part 14: Geo EqI CxS. -/
import Derived.Test.YtgamoiagpglcmaaProg
import Derived.Test.YtgamoiagpglcmaaMg3
import Derived.Test.YtgamoiagpglcmaaMg5
import Derived.WalkKit
import Derived.ProofKit
import Derived.Lib.Hide
import Derived.Test.YtgamoiagpglcmaaMg10
import Derived.BigQuiet
import Derived.Deep.QuietTactic
import Derived.Test.YtgamoiagpglcmaaMg12
/- Numbers between bounds, geometries, in the model and in the program: the contracts. -/
namespace Go.Proofs.Ytgamoiagpglcmaa
open Go.RowKit
set_option linter.unusedVariables false

theorem inr_any (n l h : Int) (w : World) : Calls Try.prog 83 #[.int .i64 n, .int .i64 l, .int .i64 h] w fun e w' => e = .returned (.bool (decide (l ≤ n) && decide (n ≤ h))) ∧ w = w' := by
  by_cases h1 : l ≤ n
  · have d1 : decide (l ≤ n) = true := by simp; omega
    have d2 : decide (n ≥ l) = true := by simp; omega
    go_enter Try.func83, Try.ntmps83
    go_wp2
    go_ret
    exact ⟨ret_bool (by simp [h1]), rfl⟩
  · have d1 : decide (l ≤ n) = false := by simp; omega
    have d2 : decide (n ≥ l) = false := by simp; omega
    go_enter Try.func83, Try.ntmps83
    go_wp2
    go_ret
    exact ⟨ret_bool (by simp), rfl⟩
theorem inr_yes (n l h : Int) (w : World) (h1 : l ≤ n) (h2 : n ≤ h) : Calls Try.prog 83 #[.int .i64 n, .int .i64 l, .int .i64 h] w fun e w' => e = .returned (.bool true) ∧ w = w' := by
  have := inr_any n l h w
  rwa [show (decide (l ≤ n) && decide (n ≤ h)) = true by simp [h1, h2]] at this
theorem inr_no (n l h : Int) (w : World) (h1 : ¬ (l ≤ n ∧ n ≤ h)) : Calls Try.prog 83 #[.int .i64 n, .int .i64 l, .int .i64 h] w fun e w' => e = .returned (.bool false) ∧ w = w' := by
  have := inr_any n l h w
  rwa [show (decide (l ≤ n) && decide (n ≤ h)) = false by
    by_cases a : l ≤ n
    · have : ¬ n ≤ h := fun b => h1 ⟨a, b⟩
      simp [this]
    · simp [a]] at this
theorem bool_of {P : Prop} (b : Bool) (h : b = true ↔ P) : (P → b = true) ∧ (¬ P → b = false) := by
  refine ⟨h.2, fun n => ?_⟩
  cases b with
  | true => exact absurd (h.1 rfl) n
  | false => rfl
theorem prop_dec' (P : Prop) : ∃ b : Bool, b = true ↔ P := by
  by_cases h : P
  · exact ⟨true, by simp [h]⟩
  · exact ⟨false, by simp [h]⟩
theorem geo_not {d b p : Int} (h : ¬ GeoOk d b p) : ¬ (2 ≤ d ∧ d ≤ 3) ∨ ((2 ≤ d ∧ d ≤ 3) ∧ ¬ (4 ≤ b ∧ b ≤ 12)) ∨ ((2 ≤ d ∧ d ≤ 3) ∧ (4 ≤ b ∧ b ≤ 12) ∧ p ≠ 8 ∧ p ≠ 16) := by
  unfold GeoOk at h
  by_cases h1 : 2 ≤ d ∧ d ≤ 3
  · by_cases h2 : 4 ≤ b ∧ b ≤ 12
    · by_cases h3 : p = 8
      · exact absurd ⟨h1, h2, .inl h3⟩ h
      · by_cases h4 : p = 16
        · exact absurd ⟨h1, h2, .inr h4⟩ h
        · exact .inr (.inr ⟨h1, h2, h3, h4⟩)
    · exact .inr (.inl ⟨h1, h2⟩)
  · exact .inl h1
theorem specGeo_any (d b p : Int) (r : Bool) (w : World) (h : r = true ↔ GeoOk d b p) :
    Calls Try.prog 160 #[.agg #[.int .i64 d, .int .i64 b, .int .i64 p]] w fun e w' => e = .returned (.bool r) ∧ Below w.heap.size w w' := by
  have hb0 := (Below.refl w.heap.size w).alloc (Nat.le_refl _) (.cells #[.int .i64 d, .int .i64 b, .int .i64 p] 76)
  obtain ⟨hy, hn⟩ := bool_of r h
  by_cases hg : GeoOk d b p
  · obtain rfl := hy hg
    obtain ⟨h1, h2, h3⟩ := hg
    clear h hy hn
    rcases h3 with rfl | rfl
    all_goals
      go_enter Try.func160, Try.ntmps160
      go_wp2_with fail
      refine (inr_yes d 2 3 _ h1.1 h1.2).mono ?_
      rintro e w1 ⟨rfl, rfl⟩
      go_wp2_with fail
      refine (inr_yes b 4 12 _ h2.1 h2.2).mono ?_
      rintro e w1 ⟨rfl, rfl⟩
      go_wp2
      go_ret
      exact ⟨rfl, hb0⟩
  · obtain rfl := hn hg
    clear h hy hn
    rcases geo_not hg with h1 | ⟨h1, h2⟩ | ⟨h1, h2, h3, h4⟩
    · go_enter Try.func160, Try.ntmps160
      go_wp2_with fail
      refine (inr_no d 2 3 _ h1).mono ?_
      rintro e w1 ⟨rfl, rfl⟩
      go_wp2
      go_ret
      exact ⟨rfl, hb0⟩
    · go_enter Try.func160, Try.ntmps160
      go_wp2_with fail
      refine (inr_yes d 2 3 _ h1.1 h1.2).mono ?_
      rintro e w1 ⟨rfl, rfl⟩
      go_wp2_with fail
      refine (inr_no b 4 12 _ h2).mono ?_
      rintro e w1 ⟨rfl, rfl⟩
      go_wp2
      go_ret
      exact ⟨rfl, hb0⟩
    · have q1 : (p == 8) = false := by simp [h3]
      have q2 : (p == 16) = false := by simp [h4]
      go_enter Try.func160, Try.ntmps160
      go_wp2_with fail
      refine (inr_yes d 2 3 _ h1.1 h1.2).mono ?_
      rintro e w1 ⟨rfl, rfl⟩
      go_wp2_with fail
      refine (inr_yes b 4 12 _ h2.1 h2.2).mono ?_
      rintro e w1 ⟨rfl, rfl⟩
      go_wp2
      go_ret
      exact ⟨rfl, hb0⟩
theorem implGeo_any (d b p : Int) (r : Bool) (w : World) (h : r = true ↔ GeoOk d b p) :
    Calls Try.prog 163 #[.agg #[.int .i64 d, .int .i64 b, .int .i64 p]] w fun e w' => e = .returned (.bool r) ∧ Below w.heap.size w w' := by
  have hb0 := (Below.refl w.heap.size w).alloc (Nat.le_refl _) (.cells #[.int .i64 d, .int .i64 b, .int .i64 p] 76)
  obtain ⟨hy, hn⟩ := bool_of r h
  have hd1 : ∀ a c : Int, (2 : Int) ≤ d → decide (d ≥ 2) = true := fun _ _ h => by simp; omega
  have key : r = (decide (d ≥ 2) && decide (d ≤ 3) && decide (b ≥ 4) && decide (b ≤ 12) && (p == 8 || p == 16)) := by
    rw [Bool.eq_iff_iff, h]
    unfold GeoOk
    simp
    omega
  clear h hy hn hd1
  have HKey := Lib.hid key
  clear key
  have E : ∀ x : Bool, ((decide (d ≥ 2) && decide (d ≤ 3) && decide (b ≥ 4) && decide (b ≤ 12) && (p == 8 || p == 16)) = x) → x = r := fun x hx => by rw [HKey.out, hx]
  have HE := Lib.hid E
  clear E
  by_cases h1 : 2 ≤ d
  · by_cases h2 : d ≤ 3
    · by_cases h3 : 4 ≤ b
      · by_cases h4 : b ≤ 12
        · by_cases h5 : p = 8
          · subst h5
            go_enter Try.func163, Try.ntmps163
            go_wp2
            go_ret
            exact ⟨ret_bool (HE.out _ (by simp [h1, h2, h3, h4])), hb0⟩
          · have h6 : (p == 8) = false := by simp [h5]
            go_enter Try.func163, Try.ntmps163
            go_wp2
            go_ret
            exact ⟨ret_bool (HE.out _ (by simp [h1, h2, h3, h4, h6])), hb0⟩
        · go_enter Try.func163, Try.ntmps163
          go_wp2
          go_ret
          exact ⟨ret_bool (HE.out _ (by simp; omega)), hb0⟩
      · go_enter Try.func163, Try.ntmps163
        go_wp2
        go_ret
        exact ⟨ret_bool (HE.out _ (by simp; omega)), hb0⟩
    · go_enter Try.func163, Try.ntmps163
      go_wp2
      go_ret
      exact ⟨ret_bool (HE.out _ (by simp; omega)), hb0⟩
  · go_enter Try.func163, Try.ntmps163
    go_wp2
    go_ret
    exact ⟨ret_bool (HE.out _ (by simp; omega)), hb0⟩
theorem total_any (d b p : Int) (w : World) (h : GeoOk d b p) : Calls Try.prog 133 #[.agg #[.int .i64 d, .int .i64 b, .int .i64 p]] w fun e w' => e = .returned (.int .i64 (d * b)) ∧ Below w.heap.size w w' := by
  have hm := h.mul
  have hw : IntKind.i64.wrap (d * b) = d * b := IntWalk.i64_in _ (by omega)
  have B0 := Lib.hid ((Below.refl w.heap.size w).alloc (Nat.le_refl _) (.cells #[.int .i64 d, .int .i64 b, .int .i64 p] 76))
  clear h
  go_enter Try.func133, Try.ntmps133
  go_wp2
  go_ret
  exact ⟨rfl, B0.out⟩
end Go.Proofs.Ytgamoiagpglcmaa
/- Lists of integers compared, in the model and in the program: the contracts. -/
namespace Go.Proofs.Ytgamoiagpglcmaa
open Go.RowKit
set_option linter.unusedVariables false
theorem list_same {α : Type} {d : α} {L M : List α} (hl : L.length = M.length) (h : ∀ i, i < L.length → L.getD i d = M.getD i d) : L = M := by
  refine List.ext_getElem hl fun i h1 h2 => ?_
  have := h i h1
  rw [List.getD_eq_getElem?_getD, List.getD_eq_getElem?_getD, List.getElem?_eq_getElem h1, List.getElem?_eq_getElem h2] at this
  exact this
theorem not_true {r : Bool} {P : Prop} (hr : r = true ↔ P) (h : ¬ P) : r = false := by
  cases r
  · rfl
  · exact absurd (hr.1 rfl) h
theorem below_drewN {B : Nat} {a w : World} (h : Below B a w) (n : Nat) : Below B a (w.drewN n) := ⟨h.os, h.tape, h.output, h.size, h.block⟩
theorem cast_ne {a b : Nat} (h : a ≠ b) : ((a : Int) != (b : Int)) = true := by simp; omega
end Go.Proofs.Ytgamoiagpglcmaa
/- Which cells are valid, in the model: the contracts. -/
namespace Go.Proofs.Ytgamoiagpglcmaa
open Go.RowKit
set_option linter.unusedVariables false
set_option linter.unusedSimpArgs false
set_option maxHeartbeats 4000000 in
set_option maxRecDepth 100000 in
theorem specCeOk_any (u : Value) (M : Ce) (r : Bool) (w : World) (hi : Nat) (h : CeIn w hi u M) (hh : hi ≤ w.heap.size) (hr : r = true ↔ CeOk M) (hl : CeSz M) :
    Calls Try.prog 32 #[u] w fun e w' => e = .returned (.bool r) ∧ Below w.heap.size w w' := by
  obtain ⟨a, rfl, h1⟩ := h
  obtain ⟨A, n, c, rfl, _, _, hn, hA⟩ := h1
  obtain ⟨cs⟩ := M
  unfold cec
  unfold CeSz at hl
  simp only at *
  have r0 := Rw.new w 42 #[.slice A n c]
  have b0 := (Below.refl w.heap.size w).alloc (Nat.le_refl _) (.cells #[.slice A n c] 42)
  have q0 := r0.one
  have R0 := Lib.hid r0
  have B0 := Lib.hid b0
  have HR := Lib.hid (show r = true ↔ (n ≤ 64 ∧ ∀ i, i < n → ChOk cs i) by rw [hr, CeOk]; simp only [hn])
  have HA := Lib.hid hA
  have HN := Lib.hid hn
  have HH := Lib.hid hh
  have hnm : (n : Int) ≤ 1048576 := by omega
  clear r0 b0 hA hr hn hl hh
  by_cases g1 : n ≤ 64
  case neg =>
    obtain rfl : r = false := not_true HR.out (fun e => g1 e.1)
    have d1 : decide ((n : Int) > 64) = true := by simp; omega
    have d1' : decide (64 < (n : Int)) = true := by simp; omega
    clear HR HA g1
    go_enter Try.func32, Try.ntmps32
    go_wp2
    go_ret
    exact ⟨rfl, B0.out⟩
  have d1 : decide ((n : Int) > 64) = false := by simp; omega
  have d1' : decide (64 < (n : Int)) = false := by simp; omega
  have HG := Lib.hid g1
  go_enter Try.func32, Try.ntmps32
  go_wp2
  clear d1 d1'
  go_loopw [3] (fun i wr => ∃ k : Nat, k ≤ n ∧ i = .int .i64 k ∧ Hid (∀ j, j < k → ChOk cs j) ∧ Hid (Below w.heap.size w wr) ∧ Hid (Rw wr w.heap.size 42 #[.slice A n c])) (fun i _ => n - (intOf i).toNat)
  case atStart => exact ⟨0, by omega, rfl, Lib.hid (fun j hj => by omega), B0, R0⟩
  case round =>
    obtain ⟨k, hk, rfl, HE, HB, HRw⟩ := hrel
    clear q0
    have q0 := HRw.out.one
    by_cases hlt : k < n
    · have hki : (k : Int) < (n : Int) := by omega
      obtain ⟨pb, po, rfl, hp2, hpx⟩ := HA.out (by omega)
      have e1 := (HB.out.cell (p := ⟨pb, po + k, none⟩) (by have := HH.out; show pb < _; omega)).trans (hpx k hlt)
      have HF := Lib.hid (fun (e : ¬ ChOk cs k) => not_true HR.out (fun f => e (f.2 k hlt)))
      have HY := Lib.hid (fun (e : ChOk cs k) => show ∀ j, j < k + 1 → ChOk cs j from fun j hj => by
        by_cases f : j = k
        · subst f; exact e
        · exact HE.out j (by omega))
      unfold ChOk at HF HY
      generalize cs.getD k 0 = y at *
      clear hpx hp2
      by_cases hin : 0 ≤ y ∧ y ≤ 255
      case neg =>
        have HG2 := Lib.hid (HF.out hin)
        have HI := Lib.hid (fun (W : World) => inr_no y 0 255 W hin)
        clear HF HY HR HA hin HG HE
        go_wp2_with fail
        refine (HI.out _).mono ?_
        rintro e w1 ⟨rfl, rfl⟩
        go_wp2
        go_ret
        exact ⟨ret_bool HG2.out.symm, HB.out⟩
      have HI := Lib.hid (fun (W : World) => inr_yes y 0 255 W hin.1 hin.2)
      have HY2 := Lib.hid (HY.out hin)
      clear HF HY HR HA hin HG HE
      go_wp2_with fail
      refine (HI.out _).mono ?_
      rintro e w1 ⟨rfl, rfl⟩
      go_wp2
      go_roundw
      case rel => exact ⟨k + 1, by omega, by go_num, HY2, HB, HRw⟩
      case measure => simp [intOf]; omega
    · obtain rfl : k = n := by omega
      have hf : r = true := HR.out.2 ⟨HG.out, HE.out⟩
      subst hf
      clear HR HA HG HE
      go_wp2
      go_ret
      exact ⟨rfl, HB.out⟩
end Go.Proofs.Ytgamoiagpglcmaa
