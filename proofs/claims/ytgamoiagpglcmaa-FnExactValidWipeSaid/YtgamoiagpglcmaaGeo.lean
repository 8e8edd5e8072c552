/- Numbers between bounds, geometries, in the model and in the program: the contracts. -/
import Derived.Test.YtgamoiagpglcmaaProg
import Derived.Test.YtgamoiagpglcmaaFlN
import Derived.Test.YtgamoiagpglcmaaRw
import Derived.WalkKit
import Derived.ProofKit
import Derived.Lib.Hide
namespace Go.Proofs.Ytgamoiagpglcmaa
open Go.RowKit
set_option linter.unusedVariables false

theorem inr_any (n l h : Int) (w : World) : Calls Try.prog 83 #[.int .i64 n, .int .i64 l, .int .i64 h] w fun e w' => e = .returned (.bool (decide (l ≤ n) && decide (n ≤ h))) ∧ w = w' := by
  by_cases h1 : l ≤ n
  · have d1 : decide (l ≤ n) = true := by simp; omega
    have d2 : decide (n ≥ l) = true := by simp; omega
    go_enter Try.func83, Try.ntmps83
    go_wp2
    go_ret
    exact ⟨ret_bool (by simp [h1]), rfl⟩
  · have d1 : decide (l ≤ n) = false := by simp; omega
    have d2 : decide (n ≥ l) = false := by simp; omega
    go_enter Try.func83, Try.ntmps83
    go_wp2
    go_ret
    exact ⟨ret_bool (by simp), rfl⟩
theorem inr_yes (n l h : Int) (w : World) (h1 : l ≤ n) (h2 : n ≤ h) : Calls Try.prog 83 #[.int .i64 n, .int .i64 l, .int .i64 h] w fun e w' => e = .returned (.bool true) ∧ w = w' := by
  have := inr_any n l h w
  rwa [show (decide (l ≤ n) && decide (n ≤ h)) = true by simp [h1, h2]] at this
theorem inr_no (n l h : Int) (w : World) (h1 : ¬ (l ≤ n ∧ n ≤ h)) : Calls Try.prog 83 #[.int .i64 n, .int .i64 l, .int .i64 h] w fun e w' => e = .returned (.bool false) ∧ w = w' := by
  have := inr_any n l h w
  rwa [show (decide (l ≤ n) && decide (n ≤ h)) = false by
    by_cases a : l ≤ n
    · have : ¬ n ≤ h := fun b => h1 ⟨a, b⟩
      simp [this]
    · simp [a]] at this
theorem bool_of {P : Prop} (b : Bool) (h : b = true ↔ P) : (P → b = true) ∧ (¬ P → b = false) := by
  refine ⟨h.2, fun n => ?_⟩
  cases b with
  | true => exact absurd (h.1 rfl) n
  | false => rfl
theorem prop_dec' (P : Prop) : ∃ b : Bool, b = true ↔ P := by
  by_cases h : P
  · exact ⟨true, by simp [h]⟩
  · exact ⟨false, by simp [h]⟩
theorem geo_not {d b p : Int} (h : ¬ GeoOk d b p) : ¬ (2 ≤ d ∧ d ≤ 3) ∨ ((2 ≤ d ∧ d ≤ 3) ∧ ¬ (4 ≤ b ∧ b ≤ 12)) ∨ ((2 ≤ d ∧ d ≤ 3) ∧ (4 ≤ b ∧ b ≤ 12) ∧ p ≠ 8 ∧ p ≠ 16) := by
  unfold GeoOk at h
  by_cases h1 : 2 ≤ d ∧ d ≤ 3
  · by_cases h2 : 4 ≤ b ∧ b ≤ 12
    · by_cases h3 : p = 8
      · exact absurd ⟨h1, h2, .inl h3⟩ h
      · by_cases h4 : p = 16
        · exact absurd ⟨h1, h2, .inr h4⟩ h
        · exact .inr (.inr ⟨h1, h2, h3, h4⟩)
    · exact .inr (.inl ⟨h1, h2⟩)
  · exact .inl h1
theorem specGeo_any (d b p : Int) (r : Bool) (w : World) (h : r = true ↔ GeoOk d b p) :
    Calls Try.prog 160 #[.agg #[.int .i64 d, .int .i64 b, .int .i64 p]] w fun e w' => e = .returned (.bool r) ∧ Below w.heap.size w w' := by
  have hb0 := (Below.refl w.heap.size w).alloc (Nat.le_refl _) (.cells #[.int .i64 d, .int .i64 b, .int .i64 p] 76)
  obtain ⟨hy, hn⟩ := bool_of r h
  by_cases hg : GeoOk d b p
  · obtain rfl := hy hg
    obtain ⟨h1, h2, h3⟩ := hg
    clear h hy hn
    rcases h3 with rfl | rfl
    all_goals
      go_enter Try.func160, Try.ntmps160
      go_wp2_with fail
      refine (inr_yes d 2 3 _ h1.1 h1.2).mono ?_
      rintro e w1 ⟨rfl, rfl⟩
      go_wp2_with fail
      refine (inr_yes b 4 12 _ h2.1 h2.2).mono ?_
      rintro e w1 ⟨rfl, rfl⟩
      go_wp2
      go_ret
      exact ⟨rfl, hb0⟩
  · obtain rfl := hn hg
    clear h hy hn
    rcases geo_not hg with h1 | ⟨h1, h2⟩ | ⟨h1, h2, h3, h4⟩
    · go_enter Try.func160, Try.ntmps160
      go_wp2_with fail
      refine (inr_no d 2 3 _ h1).mono ?_
      rintro e w1 ⟨rfl, rfl⟩
      go_wp2
      go_ret
      exact ⟨rfl, hb0⟩
    · go_enter Try.func160, Try.ntmps160
      go_wp2_with fail
      refine (inr_yes d 2 3 _ h1.1 h1.2).mono ?_
      rintro e w1 ⟨rfl, rfl⟩
      go_wp2_with fail
      refine (inr_no b 4 12 _ h2).mono ?_
      rintro e w1 ⟨rfl, rfl⟩
      go_wp2
      go_ret
      exact ⟨rfl, hb0⟩
    · have q1 : (p == 8) = false := by simp [h3]
      have q2 : (p == 16) = false := by simp [h4]
      go_enter Try.func160, Try.ntmps160
      go_wp2_with fail
      refine (inr_yes d 2 3 _ h1.1 h1.2).mono ?_
      rintro e w1 ⟨rfl, rfl⟩
      go_wp2_with fail
      refine (inr_yes b 4 12 _ h2.1 h2.2).mono ?_
      rintro e w1 ⟨rfl, rfl⟩
      go_wp2
      go_ret
      exact ⟨rfl, hb0⟩
theorem implGeo_any (d b p : Int) (r : Bool) (w : World) (h : r = true ↔ GeoOk d b p) :
    Calls Try.prog 163 #[.agg #[.int .i64 d, .int .i64 b, .int .i64 p]] w fun e w' => e = .returned (.bool r) ∧ Below w.heap.size w w' := by
  have hb0 := (Below.refl w.heap.size w).alloc (Nat.le_refl _) (.cells #[.int .i64 d, .int .i64 b, .int .i64 p] 76)
  obtain ⟨hy, hn⟩ := bool_of r h
  have hd1 : ∀ a c : Int, (2 : Int) ≤ d → decide (d ≥ 2) = true := fun _ _ h => by simp; omega
  have key : r = (decide (d ≥ 2) && decide (d ≤ 3) && decide (b ≥ 4) && decide (b ≤ 12) && (p == 8 || p == 16)) := by
    rw [Bool.eq_iff_iff, h]
    unfold GeoOk
    simp
    omega
  clear h hy hn hd1
  have HKey := Lib.hid key
  clear key
  have E : ∀ x : Bool, ((decide (d ≥ 2) && decide (d ≤ 3) && decide (b ≥ 4) && decide (b ≤ 12) && (p == 8 || p == 16)) = x) → x = r := fun x hx => by rw [HKey.out, hx]
  have HE := Lib.hid E
  clear E
  by_cases h1 : 2 ≤ d
  · by_cases h2 : d ≤ 3
    · by_cases h3 : 4 ≤ b
      · by_cases h4 : b ≤ 12
        · by_cases h5 : p = 8
          · subst h5
            go_enter Try.func163, Try.ntmps163
            go_wp2
            go_ret
            exact ⟨ret_bool (HE.out _ (by simp [h1, h2, h3, h4])), hb0⟩
          · have h6 : (p == 8) = false := by simp [h5]
            go_enter Try.func163, Try.ntmps163
            go_wp2
            go_ret
            exact ⟨ret_bool (HE.out _ (by simp [h1, h2, h3, h4, h6])), hb0⟩
        · go_enter Try.func163, Try.ntmps163
          go_wp2
          go_ret
          exact ⟨ret_bool (HE.out _ (by simp; omega)), hb0⟩
      · go_enter Try.func163, Try.ntmps163
        go_wp2
        go_ret
        exact ⟨ret_bool (HE.out _ (by simp; omega)), hb0⟩
    · go_enter Try.func163, Try.ntmps163
      go_wp2
      go_ret
      exact ⟨ret_bool (HE.out _ (by simp; omega)), hb0⟩
  · go_enter Try.func163, Try.ntmps163
    go_wp2
    go_ret
    exact ⟨ret_bool (HE.out _ (by simp; omega)), hb0⟩
theorem total_any (d b p : Int) (w : World) (h : GeoOk d b p) : Calls Try.prog 133 #[.agg #[.int .i64 d, .int .i64 b, .int .i64 p]] w fun e w' => e = .returned (.int .i64 (d * b)) ∧ Below w.heap.size w w' := by
  have hm := h.mul
  have hw : IntKind.i64.wrap (d * b) = d * b := IntWalk.i64_in _ (by omega)
  have B0 := Lib.hid ((Below.refl w.heap.size w).alloc (Nat.le_refl _) (.cells #[.int .i64 d, .int .i64 b, .int .i64 p] 76))
  clear h
  go_enter Try.func133, Try.ntmps133
  go_wp2
  go_ret
  exact ⟨rfl, B0.out⟩
end Go.Proofs.Ytgamoiagpglcmaa
