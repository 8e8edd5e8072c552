/- The dies of a stripe row, in the model and in the program: the contracts. -/
import Derived.Test.YtegjppihopncoabProg
import Derived.Test.YtegjppihopncoabLfsr
import Derived.ProofKit
import Derived.Lib.Hide
namespace Go.Proofs.Ytegjppihopncoab
open Go.RowKit

theorem wf_bd {n : Int} (h : (Lit.int .i64 n).wf = true) : -9223372036854775808 ≤ n ∧ n ≤ 9223372036854775807 := by
  simp [Lit.wf] at h
  have h1 : IntKind.i64.min = -9223372036854775808 := by decide
  have h2 : IntKind.i64.max = 9223372036854775807 := by decide
  omega
/-- The die of the parity; of data unit k; the unit on a die. -/
def parD (r d : Int) : Int := d - 1 - r % d
def datD (r k d : Int) : Int := (d - r % d + k) % d
def unitD (r e d : Int) : Int := (e + r % d) % d
theorem mod_bd (r d : Int) (h2 : 2 ≤ d) : 0 ≤ r % d ∧ r % d ≤ d - 1 := ⟨Int.emod_nonneg r (by omega), by have := Int.emod_lt_of_pos r (show 0 < d by omega); omega⟩
def InRow (r d : Int) : Prop := 0 ≤ r ∧ r ≤ 9223372036854775807 ∧ 2 ≤ d ∧ d ≤ 8
theorem validRow_yes (r d : Int) (w : World) (h : InRow r d) :
    Calls Try.prog 12 #[.int .i64 r, .int .i64 d] w fun e w' => e = .returned (.bool true) ∧ w = w' := by
  obtain ⟨h0, h1, h2, h3⟩ := h
  go_enter Try.func12, Try.ntmps12
  go_wp2
  go_ret
  exact ⟨rfl, rfl⟩
theorem implPar_yes (r d : Int) (w : World) (h : InRow r d) :
    Calls Try.prog 8 #[.int .i64 r, .int .i64 d] w fun e w' => e = .returned (.int .i64 (parD r d)) ∧ w = w' := by
  have H := Lib.hid h
  obtain ⟨h0, h1, h2, h3⟩ := h
  obtain ⟨m0, m1⟩ := mod_bd r d h2
  unfold parD
  go_enter Try.func8, Try.ntmps8
  go_wp2_with (go_at_call 12; refine (validRow_yes _ _ _ H.out).mono ?_; rintro e w' ⟨rfl, rfl⟩)
  go_ret
  exact ⟨rfl, rfl⟩
theorem implDat_yes (r k d : Int) (w : World) (h : InRow r d) (k0 : 0 ≤ k) (k1 : k ≤ d - 2) :
    Calls Try.prog 9 #[.int .i64 r, .int .i64 k, .int .i64 d] w fun e w' => e = .returned (.int .i64 (datD r k d)) ∧ w = w' := by
  have H := Lib.hid h
  have HP := Lib.hid (fun (W : World) => implPar_yes r d W h)
  have HE : Hid ((parD r d + 1 + k) % d = datD r k d) := by show _ = _; unfold parD datD; congr 1; omega
  obtain ⟨h0, h1, h2, h3⟩ := h
  obtain ⟨m0, m1⟩ := mod_bd r d h2
  have p0 : 0 ≤ parD r d := by unfold parD; omega
  have p1 : parD r d ≤ d - 1 := by unfold parD; omega
  generalize parD r d = p at *
  generalize datD r k d = q at *
  clear m0 m1
  go_enter Try.func9, Try.ntmps9
  go_wp2_with (first
    | (go_at_call 12; refine (validRow_yes _ _ _ H.out).mono ?_; rintro e w' ⟨rfl, rfl⟩)
    | (go_at_call 8; refine (HP.out _).mono ?_; rintro e w' ⟨rfl, rfl⟩))
  go_ret
  exact ⟨ret_int HE.out, rfl⟩
theorem implUnit_yes (r e d : Int) (w : World) (h : InRow r d) (k0 : 0 ≤ e) (k1 : e ≤ d - 1) :
    Calls Try.prog 7 #[.int .i64 r, .int .i64 e, .int .i64 d] w fun e' w' => e' = .returned (.int .i64 (unitD r e d)) ∧ w = w' := by
  have H := Lib.hid h
  have HP := Lib.hid (fun (W : World) => implPar_yes r d W h)
  have HE : Hid ((e - parD r d - 1 + d) % d = unitD r e d) := by show _ = _; unfold parD unitD; congr 1; omega
  obtain ⟨h0, h1, h2, h3⟩ := h
  obtain ⟨m0, m1⟩ := mod_bd r d h2
  have p0 : 0 ≤ parD r d := by unfold parD; omega
  have p1 : parD r d ≤ d - 1 := by unfold parD; omega
  generalize parD r d = p at *
  generalize unitD r e d = q at *
  clear m0 m1
  go_enter Try.func7, Try.ntmps7
  go_wp2_with (first
    | (go_at_call 12; refine (validRow_yes _ _ _ H.out).mono ?_; rintro e w' ⟨rfl, rfl⟩)
    | (go_at_call 8; refine (HP.out _).mono ?_; rintro e w' ⟨rfl, rfl⟩))
  go_ret
  exact ⟨ret_int HE.out, rfl⟩
theorem unit_bd (r e d : Int) (h2 : 2 ≤ d) : 0 ≤ unitD r e d ∧ unitD r e d ≤ d - 1 := mod_bd _ _ h2
theorem dat_iff (r k e d : Int) (h : InRow r d) (k0 : 0 ≤ k) (k1 : k ≤ d - 1) (e0 : 0 ≤ e) (e1 : e ≤ d - 1) : datD r k d = e ↔ k = unitD r e d := by
  obtain ⟨_, _, h2, h3⟩ := h
  obtain ⟨m0, m1⟩ := mod_bd r d h2
  unfold datD unitD
  generalize r % d = m at *
  have hd : d = 2 ∨ d = 3 ∨ d = 4 ∨ d = 5 ∨ d = 6 ∨ d = 7 ∨ d = 8 := by omega
  rcases hd with rfl | rfl | rfl | rfl | rfl | rfl | rfl <;> omega
theorem par_unit (r e d : Int) (h : InRow r d) (e0 : 0 ≤ e) (e1 : e ≤ d - 1) : unitD r e d = d - 1 ↔ parD r d = e := by
  obtain ⟨_, _, h2, h3⟩ := h
  obtain ⟨m0, m1⟩ := mod_bd r d h2
  unfold unitD parD
  generalize r % d = m at *
  have hd : d = 2 ∨ d = 3 ∨ d = 4 ∨ d = 5 ∨ d = 6 ∨ d = 7 ∨ d = 8 := by omega
  rcases hd with rfl | rfl | rfl | rfl | rfl | rfl | rfl <;> omega
theorem par_moves (r e d : Int) (h : InRow r d) (e0 : 0 < e) (e1 : e ≤ d - 1) : parD r d ≠ parD (r + e) d := by
  obtain ⟨_, _, h2, h3⟩ := h
  unfold parD
  have hd : d = 2 ∨ d = 3 ∨ d = 4 ∨ d = 5 ∨ d = 6 ∨ d = 7 ∨ d = 8 := by omega
  rcases hd with rfl | rfl | rfl | rfl | rfl | rfl | rfl <;> omega
end Go.Proofs.Ytegjppihopncoab
