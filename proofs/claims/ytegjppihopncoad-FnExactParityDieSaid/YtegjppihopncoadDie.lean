/- The dies of a stripe row, in the model and in the program: the contracts. -/
import Derived.Test.YtegjppihopncoadProg
import Derived.Test.YtegjppihopncoadLfsr
import Derived.ProofKit
import Derived.Lib.Hide
namespace Go.Proofs.Ytegjppihopncoad
open Go.RowKit

theorem wf_bd {n : Int} (h : (Lit.int .i64 n).wf = true) : -9223372036854775808 ≤ n ∧ n ≤ 9223372036854775807 := by
  simp [Lit.wf] at h
  have h1 : IntKind.i64.min = -9223372036854775808 := by decide
  have h2 : IntKind.i64.max = 9223372036854775807 := by decide
  omega
/-- The die of the parity; of data unit k; the unit on a die. -/
def parD (r d : Int) : Int := d - 1 - r % d
def datD (r k d : Int) : Int := (d - r % d + k) % d
def unitD (r e d : Int) : Int := (e + r % d) % d
theorem mod_bd (r d : Int) (h2 : 2 ≤ d) : 0 ≤ r % d ∧ r % d ≤ d - 1 := ⟨Int.emod_nonneg r (by omega), by have := Int.emod_lt_of_pos r (show 0 < d by omega); omega⟩
def InRow (r d : Int) : Prop := 0 ≤ r ∧ r ≤ 9223372036854775807 ∧ 2 ≤ d ∧ d ≤ 8
theorem l04Valid_yes (r d : Int) (w : World) (h : InRow r d) :
    Calls Try.prog 26 #[.int .i64 r, .int .i64 d] w fun e w' => e = .returned (.bool true) ∧ w = w' := by
  obtain ⟨h0, h1, h2, h3⟩ := h
  go_enter Try.func26, Try.ntmps26
  go_wp2_with (go_at_call 21; refine (l00In_yes _ _ _ _ h2 h3).mono ?_; rintro e w' ⟨rfl, rfl⟩)
  go_ret
  exact ⟨rfl, rfl⟩
theorem l04Valid_no (r d : Int) (w : World) (h : r < 0 ∨ d < 2 ∨ 8 < d) :
    Calls Try.prog 26 #[.int .i64 r, .int .i64 d] w fun e w' => e = .returned (.bool false) ∧ w = w' := by
  by_cases h0 : 0 ≤ r
  · have hd : d < 2 ∨ 8 < d := by omega
    clear h
    go_enter Try.func26, Try.ntmps26
    go_wp2_with (go_at_call 21; refine (l00In_no _ _ _ _ hd).mono ?_; rintro e w' ⟨rfl, rfl⟩)
    go_ret
    exact ⟨rfl, rfl⟩
  · have h0' : r < 0 := by omega
    clear h h0
    go_enter Try.func26, Try.ntmps26
    go_wp2
    go_ret
    exact ⟨rfl, rfl⟩
theorem validRow_yes (r d : Int) (w : World) (h : InRow r d) :
    Calls Try.prog 27 #[.int .i64 r, .int .i64 d] w fun e w' => e = .returned (.bool true) ∧ w = w' := by
  obtain ⟨h0, h1, h2, h3⟩ := h
  go_enter Try.func27, Try.ntmps27
  go_wp2
  go_ret
  exact ⟨rfl, rfl⟩
theorem validRow_no (r d : Int) (w : World) (h : r < 0 ∨ d < 2 ∨ 8 < d) :
    Calls Try.prog 27 #[.int .i64 r, .int .i64 d] w fun e w' => e = .returned (.bool false) ∧ w = w' := by
  by_cases h0 : 0 ≤ r
  · by_cases h2 : 2 ≤ d
    · have h3 : 8 < d := by omega
      clear h
      go_enter Try.func27, Try.ntmps27
      go_wp2
      go_ret
      exact ⟨ret_bool (by simp; omega), rfl⟩
    · have h3 : d < 2 := by omega
      clear h h2
      go_enter Try.func27, Try.ntmps27
      go_wp2
      go_ret
      exact ⟨rfl, rfl⟩
  · have h0' : r < 0 := by omega
    clear h h0
    go_enter Try.func27, Try.ntmps27
    go_wp2
    go_ret
    exact ⟨rfl, rfl⟩
theorem implPar_yes (r d : Int) (w : World) (h : InRow r d) :
    Calls Try.prog 16 #[.int .i64 r, .int .i64 d] w fun e w' => e = .returned (.int .i64 (parD r d)) ∧ w = w' := by
  have H := Lib.hid h
  obtain ⟨h0, h1, h2, h3⟩ := h
  obtain ⟨m0, m1⟩ := mod_bd r d h2
  unfold parD
  go_enter Try.func16, Try.ntmps16
  go_wp2_with (go_at_call 27; refine (validRow_yes _ _ _ H.out).mono ?_; rintro e w' ⟨rfl, rfl⟩)
  go_ret
  exact ⟨rfl, rfl⟩
theorem implDat_yes (r k d : Int) (w : World) (h : InRow r d) (k0 : 0 ≤ k) (k1 : k ≤ d - 2) :
    Calls Try.prog 18 #[.int .i64 r, .int .i64 k, .int .i64 d] w fun e w' => e = .returned (.int .i64 (datD r k d)) ∧ w = w' := by
  have H := Lib.hid h
  have HP := Lib.hid (fun (W : World) => implPar_yes r d W h)
  have HE : Hid ((parD r d + 1 + k) % d = datD r k d) := by show _ = _; unfold parD datD; congr 1; omega
  obtain ⟨h0, h1, h2, h3⟩ := h
  obtain ⟨m0, m1⟩ := mod_bd r d h2
  have p0 : 0 ≤ parD r d := by unfold parD; omega
  have p1 : parD r d ≤ d - 1 := by unfold parD; omega
  generalize parD r d = p at *
  generalize datD r k d = q at *
  clear m0 m1
  go_enter Try.func18, Try.ntmps18
  go_wp2_with (first
    | (go_at_call 27; refine (validRow_yes _ _ _ H.out).mono ?_; rintro e w' ⟨rfl, rfl⟩)
    | (go_at_call 16; refine (HP.out _).mono ?_; rintro e w' ⟨rfl, rfl⟩))
  go_ret
  exact ⟨ret_int HE.out, rfl⟩
theorem implUnit_yes (r e d : Int) (w : World) (h : InRow r d) (k0 : 0 ≤ e) (k1 : e ≤ d - 1) :
    Calls Try.prog 20 #[.int .i64 r, .int .i64 e, .int .i64 d] w fun e' w' => e' = .returned (.int .i64 (unitD r e d)) ∧ w = w' := by
  have H := Lib.hid h
  have HP := Lib.hid (fun (W : World) => implPar_yes r d W h)
  have HE : Hid ((e - parD r d - 1 + d) % d = unitD r e d) := by show _ = _; unfold parD unitD; congr 1; omega
  obtain ⟨h0, h1, h2, h3⟩ := h
  obtain ⟨m0, m1⟩ := mod_bd r d h2
  have p0 : 0 ≤ parD r d := by unfold parD; omega
  have p1 : parD r d ≤ d - 1 := by unfold parD; omega
  generalize parD r d = p at *
  generalize unitD r e d = q at *
  clear m0 m1
  go_enter Try.func20, Try.ntmps20
  go_wp2_with (first
    | (go_at_call 27; refine (validRow_yes _ _ _ H.out).mono ?_; rintro e w' ⟨rfl, rfl⟩)
    | (go_at_call 16; refine (HP.out _).mono ?_; rintro e w' ⟨rfl, rfl⟩))
  go_ret
  exact ⟨ret_int HE.out, rfl⟩
theorem unit_bd (r e d : Int) (h2 : 2 ≤ d) : 0 ≤ unitD r e d ∧ unitD r e d ≤ d - 1 := mod_bd _ _ h2
theorem dat_iff (r k e d : Int) (h : InRow r d) (k0 : 0 ≤ k) (k1 : k ≤ d - 1) (e0 : 0 ≤ e) (e1 : e ≤ d - 1) : datD r k d = e ↔ k = unitD r e d := by
  obtain ⟨_, _, h2, h3⟩ := h
  obtain ⟨m0, m1⟩ := mod_bd r d h2
  unfold datD unitD
  generalize r % d = m at *
  have hd : d = 2 ∨ d = 3 ∨ d = 4 ∨ d = 5 ∨ d = 6 ∨ d = 7 ∨ d = 8 := by omega
  rcases hd with rfl | rfl | rfl | rfl | rfl | rfl | rfl <;> omega
theorem par_unit (r e d : Int) (h : InRow r d) (e0 : 0 ≤ e) (e1 : e ≤ d - 1) : unitD r e d = d - 1 ↔ parD r d = e := by
  obtain ⟨_, _, h2, h3⟩ := h
  obtain ⟨m0, m1⟩ := mod_bd r d h2
  unfold unitD parD
  generalize r % d = m at *
  have hd : d = 2 ∨ d = 3 ∨ d = 4 ∨ d = 5 ∨ d = 6 ∨ d = 7 ∨ d = 8 := by omega
  rcases hd with rfl | rfl | rfl | rfl | rfl | rfl | rfl <;> omega
theorem specPar_yes (r d : Int) (w : World) (h : InRow r d) :
    Calls Try.prog 15 #[.int .i64 r, .int .i64 d] w fun e w' => e = .returned (.int .i64 (parD r d)) ∧ w = w' := by
  have H := Lib.hid h
  obtain ⟨h0, h1, h2, h3⟩ := h
  obtain ⟨m0, m1⟩ := mod_bd r d h2
  unfold parD
  go_enter Try.func15, Try.ntmps15
  go_wp2_with (go_at_call 26; refine (l04Valid_yes _ _ _ H.out).mono ?_; rintro e w' ⟨rfl, rfl⟩)
  go_ret
  exact ⟨rfl, rfl⟩
theorem specDat_yes (r k d : Int) (w : World) (h : InRow r d) (k0 : 0 ≤ k) (k1 : k ≤ d - 2) :
    Calls Try.prog 17 #[.int .i64 r, .int .i64 k, .int .i64 d] w fun e w' => e = .returned (.int .i64 (datD r k d)) ∧ w = w' := by
  have H := Lib.hid h
  obtain ⟨h0, h1, h2, h3⟩ := h
  obtain ⟨m0, m1⟩ := mod_bd r d h2
  unfold datD
  go_enter Try.func17, Try.ntmps17
  go_wp2_with (first
    | (go_at_call 26; refine (l04Valid_yes _ _ _ H.out).mono ?_; rintro e w' ⟨rfl, rfl⟩)
    | (go_at_call 21; refine (l00In_yes _ _ _ _ k0 k1).mono ?_; rintro e w' ⟨rfl, rfl⟩))
  go_ret
  exact ⟨rfl, rfl⟩
theorem specUnit_yes (r e d : Int) (w : World) (h : InRow r d) (k0 : 0 ≤ e) (k1 : e ≤ d - 1) :
    Calls Try.prog 19 #[.int .i64 r, .int .i64 e, .int .i64 d] w fun e' w' => e' = .returned (.int .i64 (unitD r e d)) ∧ w = w' := by
  have H := Lib.hid h
  have HD := Lib.hid (fun (k : Int) (W : World) (k0 : 0 ≤ k) (k1 : k ≤ d - 2) => specDat_yes r k d W h k0 k1)
  have HI := Lib.hid (fun (k : Int) (a : 0 ≤ k) (b : k ≤ d - 1) => dat_iff r k e d h a b k0 k1)
  obtain ⟨h0, h1, h2, h3⟩ := h
  obtain ⟨u0, u1⟩ := unit_bd r e d h2
  generalize unitD r e d = u at *
  go_enter Try.func19, Try.ntmps19
  go_wp2_with (first
    | (go_at_call 26; refine (l04Valid_yes _ _ _ H.out).mono ?_; rintro e w' ⟨rfl, rfl⟩)
    | (go_at_call 21; refine (l00In_yes _ _ _ _ k0 k1).mono ?_; rintro e w' ⟨rfl, rfl⟩))
  go_loop [7] (fun i => ∃ k : Int, 0 ≤ k ∧ k ≤ u ∧ i = .int .i64 k) (fun i => (d - intOf i).toNat)
  case atStart => exact ⟨0, by omega, u0, rfl⟩
  case round =>
    obtain ⟨k, hk0, hk1, rfl⟩ := hrel
    by_cases hku : k = u
    · subst hku
      by_cases hd : k < d - 1
      · have hE := (HI.out k hk0 u1).2 rfl
        have H1 := Lib.hid (fun (W : World) => HD.out k W hk0 (by omega))
        rw [hE] at H1
        have hb : (e == e) = true := by simp
        clear hE
        go_wp2_with (go_at_call 17; refine (H1.out _).mono ?_; rintro e' w' ⟨rfl, rfl⟩)
        go_ret
        exact ⟨rfl, rfl⟩
      · obtain rfl : k = d - 1 := by omega
        go_wp2
        go_ret
        exact ⟨rfl, rfl⟩
    · have hne : datD r k d ≠ e := fun x => hku ((HI.out k hk0 (by omega)).1 x)
      have H1 := Lib.hid (fun (W : World) => HD.out k W hk0 (by omega))
      have hb : (datD r k d == e) = false := by simpa using hne
      generalize datD r k d = q at *
      clear hne
      go_wp2_with (go_at_call 17; refine (H1.out _).mono ?_; rintro e' w' ⟨rfl, rfl⟩)
      go_round
      case rel => exact ⟨k + 1, by omega, by omega, rfl⟩
      case measure => simp [intOf]; omega
def NotRow (r d : Int) : Prop := r < 0 ∨ d < 2 ∨ 8 < d
theorem specPar_no (r d : Int) (w : World) (h : NotRow r d) :
    Calls Try.prog 15 #[.int .i64 r, .int .i64 d] w fun e w' => e = .returned (.int .i64 (-1)) ∧ w = w' := by
  go_enter Try.func15, Try.ntmps15
  go_wp2_with (go_at_call 26; refine (l04Valid_no _ _ _ h).mono ?_; rintro e w' ⟨rfl, rfl⟩)
  go_ret
  exact ⟨rfl, rfl⟩
theorem implPar_no (r d : Int) (w : World) (h : NotRow r d) :
    Calls Try.prog 16 #[.int .i64 r, .int .i64 d] w fun e w' => e = .returned (.int .i64 (-1)) ∧ w = w' := by
  go_enter Try.func16, Try.ntmps16
  go_wp2_with (go_at_call 27; refine (validRow_no _ _ _ h).mono ?_; rintro e w' ⟨rfl, rfl⟩)
  go_ret
  exact ⟨rfl, rfl⟩
theorem specDat_no (r k d : Int) (w : World) (h : NotRow r d ∨ (InRow r d ∧ (k < 0 ∨ d - 2 < k))) :
    Calls Try.prog 17 #[.int .i64 r, .int .i64 k, .int .i64 d] w fun e w' => e = .returned (.int .i64 (-1)) ∧ w = w' := by
  rcases h with h | ⟨h, hk⟩
  · go_enter Try.func17, Try.ntmps17
    go_wp2_with (go_at_call 26; refine (l04Valid_no _ _ _ h).mono ?_; rintro e w' ⟨rfl, rfl⟩)
    go_ret
    exact ⟨rfl, rfl⟩
  · have H := Lib.hid h
    obtain ⟨h0, h1, h2, h3⟩ := h
    go_enter Try.func17, Try.ntmps17
    go_wp2_with (first
      | (go_at_call 26; refine (l04Valid_yes _ _ _ H.out).mono ?_; rintro e w' ⟨rfl, rfl⟩)
      | (go_at_call 21; refine (l00In_no _ _ _ _ hk).mono ?_; rintro e w' ⟨rfl, rfl⟩))
    go_ret
    exact ⟨rfl, rfl⟩
theorem implDat_no (r k d : Int) (w : World) (h : NotRow r d ∨ (InRow r d ∧ (k < 0 ∨ d - 2 < k))) :
    Calls Try.prog 18 #[.int .i64 r, .int .i64 k, .int .i64 d] w fun e w' => e = .returned (.int .i64 (-1)) ∧ w = w' := by
  rcases h with h | ⟨h, hk⟩
  · go_enter Try.func18, Try.ntmps18
    go_wp2_with (go_at_call 27; refine (validRow_no _ _ _ h).mono ?_; rintro e w' ⟨rfl, rfl⟩)
    go_ret
    exact ⟨rfl, rfl⟩
  · have H := Lib.hid h
    obtain ⟨h0, h1, h2, h3⟩ := h
    by_cases hk0 : k < 0
    · clear hk
      go_enter Try.func18, Try.ntmps18
      go_wp2_with (go_at_call 27; refine (validRow_yes _ _ _ H.out).mono ?_; rintro e w' ⟨rfl, rfl⟩)
      go_ret
      exact ⟨rfl, rfl⟩
    · have hk1 : d - 2 < k := by omega
      have hk2 : 0 ≤ k := by omega
      clear hk hk0
      go_enter Try.func18, Try.ntmps18
      go_wp2_with (go_at_call 27; refine (validRow_yes _ _ _ H.out).mono ?_; rintro e w' ⟨rfl, rfl⟩)
      go_ret
      exact ⟨rfl, rfl⟩
theorem specUnit_no (r k d : Int) (w : World) (h : NotRow r d ∨ (InRow r d ∧ (k < 0 ∨ d - 1 < k))) :
    Calls Try.prog 19 #[.int .i64 r, .int .i64 k, .int .i64 d] w fun e w' => e = .returned (.int .i64 (-1)) ∧ w = w' := by
  rcases h with h | ⟨h, hk⟩
  · go_enter Try.func19, Try.ntmps19
    go_wp2_with (go_at_call 26; refine (l04Valid_no _ _ _ h).mono ?_; rintro e w' ⟨rfl, rfl⟩)
    go_ret
    exact ⟨rfl, rfl⟩
  · have H := Lib.hid h
    obtain ⟨h0, h1, h2, h3⟩ := h
    go_enter Try.func19, Try.ntmps19
    go_wp2_with (first
      | (go_at_call 26; refine (l04Valid_yes _ _ _ H.out).mono ?_; rintro e w' ⟨rfl, rfl⟩)
      | (go_at_call 21; refine (l00In_no _ _ _ _ hk).mono ?_; rintro e w' ⟨rfl, rfl⟩))
    go_ret
    exact ⟨rfl, rfl⟩
theorem implUnit_no (r k d : Int) (w : World) (h : NotRow r d ∨ (InRow r d ∧ (k < 0 ∨ d - 1 < k))) :
    Calls Try.prog 20 #[.int .i64 r, .int .i64 k, .int .i64 d] w fun e w' => e = .returned (.int .i64 (-1)) ∧ w = w' := by
  rcases h with h | ⟨h, hk⟩
  · go_enter Try.func20, Try.ntmps20
    go_wp2_with (go_at_call 27; refine (validRow_no _ _ _ h).mono ?_; rintro e w' ⟨rfl, rfl⟩)
    go_ret
    exact ⟨rfl, rfl⟩
  · have H := Lib.hid h
    obtain ⟨h0, h1, h2, h3⟩ := h
    by_cases hk0 : k < 0
    · clear hk
      go_enter Try.func20, Try.ntmps20
      go_wp2_with (go_at_call 27; refine (validRow_yes _ _ _ H.out).mono ?_; rintro e w' ⟨rfl, rfl⟩)
      go_ret
      exact ⟨rfl, rfl⟩
    · have hk1 : d ≤ k := by omega
      have hk2 : 0 ≤ k := by omega
      clear hk hk0
      go_enter Try.func20, Try.ntmps20
      go_wp2_with (go_at_call 27; refine (validRow_yes _ _ _ H.out).mono ?_; rintro e w' ⟨rfl, rfl⟩)
      go_ret
      exact ⟨rfl, rfl⟩
theorem row_or (r d : Int) (h : r ≤ 9223372036854775807) : InRow r d ∨ NotRow r d := by
  unfold InRow NotRow; omega
end Go.Proofs.Ytegjppihopncoad
