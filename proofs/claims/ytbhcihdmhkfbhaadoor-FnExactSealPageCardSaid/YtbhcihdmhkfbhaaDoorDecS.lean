/- Decoding a codeword, in the model: the contracts. -/
import Derived.Test.YtbhcihdmhkfbhaaDoorProg
import Derived.Test.YtbhcihdmhkfbhaaDoorDecN
import Derived.Test.YtbhcihdmhkfbhaaDoorEccS
import Derived.Test.YtbhcihdmhkfbhaaDoorFlipS
namespace Go.Proofs.YtbhcihdmhkfbhaaDoor
open Go.RowKit

theorem syn_ret (X S P : Nat) (w : World) (hX : X < 2 ^ 72) (hS : synN X = S) (hP : parN X = P) :
    Calls Tryd.prog 65 #[.string (wStr (lo X)), .int .i64 (hi X : Nat)] w fun e w' => e = .returned (.tuple #[.int .i64 S, .int .i64 P]) ∧ w = w' := by
  subst hS; subst hP; exact l03Syndrome_any X w hX
theorem l03Check_any (x : Nat) (w : World) (hx : x < 2 ^ 64) :
    Calls Tryd.prog 55 #[.string (wStr x)] w fun e w' => e = .returned (.int .i64 (chkN x : Nat)) ∧ w = w' := by
  have hl : lowN x < 128 := synN_lt x
  have h0 : x < 2 ^ 72 := by omega
  have h1 : x + 2 ^ 64 * lowN x < 2 ^ 72 := by omega
  have hp := parN_lt (x + 2 ^ 64 * lowN x)
  have A := fun (W : World) => syn_ret x (lowN x) (parN x) W h0 rfl rfl
  have B := fun (W : World) => syn_ret (x + 2 ^ 64 * lowN x) _ (parN (x + 2 ^ 64 * lowN x)) W h1 rfl rfl
  rw [show lo x = x by unfold lo; omega, show hi x = 0 by unfold hi; omega] at A
  rw [lo_of _ hx, hi_of _ hx] at B
  have hE := chk_or x
  generalize parN (x + 2 ^ 64 * lowN x) = P at *
  generalize synN (x + 2 ^ 64 * lowN x) = S at *
  generalize parN x = Q at *
  generalize chkN x = C at *
  generalize lowN x = L at *
  have HE : Hid (bits .or .i64 (L : Nat) ((P : Nat) * 128) = ((C : Nat) : Int)) := by
    show _ = _
    have e := i64_or_nat L (P * 128) (by omega) (by omega)
    rw [hE, Int.natCast_mul] at e
    exact e
  have HA := Lib.hid A
  have HB := Lib.hid B
  clear A B h0 h1 hE
  generalize wStr x = s at *
  clear hx
  go_enter Tryd.func55, Tryd.ntmps55
  go_wp2_with fail
  refine (HA.out _).mono ?_
  rintro e w' ⟨rfl, rfl⟩
  go_wp2_with fail
  refine (HB.out _).mono ?_
  rintro e w' ⟨rfl, rfl⟩
  go_wp2
  go_ret
  exact ⟨ret_int HE.out, rfl⟩
end Go.Proofs.YtbhcihdmhkfbhaaDoor
