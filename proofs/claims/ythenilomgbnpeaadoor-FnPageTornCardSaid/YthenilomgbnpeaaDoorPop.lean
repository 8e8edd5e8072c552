/- The library's count of the bits of 64 that are 1: its parity. -/
import Derived.Test.YthenilomgbnpeaaDoorProg
import Derived.Test.YthenilomgbnpeaaDoorPopN
import Derived.ProofKit
import Derived.Lib.Hide
namespace Go.Proofs.YthenilomgbnpeaaDoor
open Go.RowKit

theorem wrap_u64_nat (a : Nat) (h : a < 2 ^ 64) : IntKind.u64.wrap (a : Int) = a := by rw [IntKind.wrap_u64]; omega
theorem ofInt_u64 (a : Nat) (h : a < 2 ^ 64) : (BitVec.ofInt 64 (a : Int)).toNat = a := by
  rw [BitVec.ofInt_natCast, BitVec.toNat_ofNat]; exact Nat.mod_eq_of_lt h
theorem u64_and_nat' (a b : Nat) (ha : a < 2 ^ 64) (hb : b < 2 ^ 64) : bits .and .u64 (a : Int) (b : Int) = ((a &&& b : Nat) : Int) := by
  have hx : a &&& b < 2 ^ 64 := Nat.and_lt_two_pow _ hb
  show IntKind.u64.wrap ((BitVec.ofInt 64 (a : Int) &&& BitVec.ofInt 64 (b : Int)).toNat : Int) = _
  rw [BitVec.toNat_and, ofInt_u64 a ha, ofInt_u64 b hb, wrap_u64_nat _ hx]
theorem u64_xor_nat' (a b : Nat) (ha : a < 2 ^ 64) (hb : b < 2 ^ 64) : bits .xor .u64 (a : Int) (b : Int) = ((a ^^^ b : Nat) : Int) := by
  have hx : a ^^^ b < 2 ^ 64 := Nat.xor_lt_two_pow ha hb
  show IntKind.u64.wrap ((BitVec.ofInt 64 (a : Int) ^^^ BitVec.ofInt 64 (b : Int)).toNat : Int) = _
  rw [BitVec.toNat_xor, ofInt_u64 a ha, ofInt_u64 b hb, wrap_u64_nat _ hx]
def popI (x : Int) : Int :=
  let a := IntKind.u64.wrap (bits .and .u64 (x / 2) 6148914691236517205 + bits .and .u64 x 6148914691236517205)
  let b := IntKind.u64.wrap (bits .and .u64 (a / 4) 3689348814741910323 + bits .and .u64 a 3689348814741910323)
  let c := bits .and .u64 (IntKind.u64.wrap (b / 16 + b)) 1085102592571150095
  let d := IntKind.u64.wrap (c + c / 256)
  let e := IntKind.u64.wrap (d + d / 65536)
  let f := IntKind.u64.wrap (e + e / 4294967296)
  bits .and .i64 (wrap64 f) 127
theorem and127 (a : Nat) (h : a < 2 ^ 63) : bits .and .i64 (a : Int) 127 = ((a % 128 : Nat) : Int) := by
  have := i64_and_nat a 127 h (by omega)
  rw [show (127 : Nat) = 2 ^ 7 - 1 from rfl, Nat.and_two_pow_sub_one_eq_mod] at this
  exact this
theorem and_u64_lit (a m : Nat) (ha : a < 2 ^ 64) (hm : m < 2 ^ 64) (M : Int) (hM : M = (m : Int)) : bits .and .u64 (a : Int) M = ((a &&& m : Nat) : Int) := by
  rw [hM]; exact u64_and_nat' a m ha hm
theorem popI_eq (x : Nat) (h : x < 2 ^ 64) : popI (x : Int) = ((popF 64 x : Nat) : Int) := by
  obtain ⟨h1, h2, h3, h4, h5⟩ := pop_word x
  have a1 := and_u64_lit (x / 2) 6148914691236517205 (by omega) (by omega) 6148914691236517205 rfl
  have a2 := and_u64_lit x 6148914691236517205 h (by omega) 6148914691236517205 rfl
  rw [Int.natCast_ediv] at a1
  unfold popI
  simp only [show ((x : Int) / 2) = (x : Int) / ((2 : Nat) : Int) from rfl, a1, a2]
  generalize hA : (x / 2 &&& 6148914691236517205) + (x &&& 6148914691236517205) = A at *
  rw [← Int.natCast_add, hA, wrap_u64_nat A h1]
  have b1 := and_u64_lit (A / 4) 3689348814741910323 (by omega) (by omega) 3689348814741910323 rfl
  have b2 := and_u64_lit A 3689348814741910323 h1 (by omega) 3689348814741910323 rfl
  rw [Int.natCast_ediv] at b1
  simp only [show ((A : Int) / 4) = (A : Int) / ((4 : Nat) : Int) from rfl, b1, b2]
  generalize hB : (A / 4 &&& 3689348814741910323) + (A &&& 3689348814741910323) = B at *
  rw [← Int.natCast_add, hB, wrap_u64_nat B h2]
  have c1 := and_u64_lit (B / 16 + B) 1085102592571150095 h3 (by omega) 1085102592571150095 rfl
  have e1 : ((B : Int) / 16 + (B : Int)) = ((B / 16 + B : Nat) : Int) := by omega
  simp only [e1, wrap_u64_nat _ h3, c1]
  generalize hC : (B / 16 + B) &&& 1085102592571150095 = C at *
  have e2 : ((C : Int) + (C : Int) / 256) = ((C + C / 256 : Nat) : Int) := by omega
  simp only [e2, wrap_u64_nat (C + C / 256) (by omega)]
  generalize hD : C + C / 256 = D at *
  have e3 : ((D : Int) + (D : Int) / 65536) = ((D + D / 65536 : Nat) : Int) := by omega
  simp only [e3, wrap_u64_nat (D + D / 65536) (by omega)]
  generalize hE : D + D / 65536 = E at *
  have e4 : ((E : Int) + (E : Int) / 4294967296) = ((E + E / 4294967296 : Nat) : Int) := by omega
  simp only [e4, wrap_u64_nat (E + E / 4294967296) (by omega)]
  rw [IntWalk.wrap64_in _ (by omega), and127 _ (by omega), ← h5]
  subst hE; subst hD; rfl
set_option maxRecDepth 100000 in
theorem onesCount64_any (x : Nat) (w : World) (h : x < 2 ^ 64) :
    Calls Tryd.prog 54 #[.int .u64 x] w fun e w' => e = .returned (.int .i64 (popF 64 x : Nat)) ∧ w = w' := by
  have HE := Lib.hid (popI_eq x h)
  have hx1 : (x : Int) ≤ 18446744073709551615 := by omega
  go_enter Tryd.func54, Tryd.ntmps54
  go_wp2
  go_ret
  exact ⟨ret_int HE.out, rfl⟩
end Go.Proofs.YthenilomgbnpeaaDoor
