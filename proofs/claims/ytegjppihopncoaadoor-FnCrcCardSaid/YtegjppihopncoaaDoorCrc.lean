/- The checksum, in the model and in the program: the contracts. The program's table is a hypothesis on its cells. -/
import Derived.Test.YtegjppihopncoaaDoorProg
import Derived.Test.YtegjppihopncoaaDoorCrcN
import Derived.ProofKit
import Derived.Lib.Hide
namespace Go.Proofs.YtegjppihopncoaaDoor
open Go.RowKit

/-- The checksum of a text. -/
def ckOf (s : ByteArray) : Nat := ckF s s.size ^^^ 4294967295
theorem implCk_any (g : Nat) (s : ByteArray) (w : World) (hs : s.size ≤ 1048576) (hT : ∀ j, j < 16 → w.cell? ⟨g, j, none⟩ = some (.int .u32 (crcT.getD j 0))) (hg : g = 0) :
    Calls Tryd.prog 11 #[.string s] w fun e w' => e = .returned (.int .i64 (ckOf s : Nat)) ∧ w = w' := by
  subst hg
  have HT := Lib.hid hT
  clear hT
  go_enter Tryd.func11, Tryd.ntmps11
  go_wp2
  go_loop [3, 7] (fun n i => ∃ k : Nat, k ≤ s.size ∧ i = .int .i64 k ∧ n = .int .u32 (ckF s k : Nat)) (fun _ i => s.size - (intOf i).toNat)
  case atStart => exact ⟨0, Nat.zero_le _, rfl, rfl⟩
  case round =>
    obtain ⟨k, hk, rfl, rfl⟩ := hrel
    obtain ⟨C, hC⟩ : ∃ C, C = ckF s k := ⟨_, rfl⟩
    have hCl : C < 4294967296 := by rw [hC]; exact ckF_lt s k
    rw [← hC]
    by_cases hlt : k < s.size
    · have hb := byteAt_eq hlt
      have hl := byteAt_le s k
      obtain ⟨X, hX⟩ : ∃ X, X = C ^^^ s[k].toNat := ⟨_, rfl⟩
      have hXl : X < 4294967296 := by rw [hX]; exact Nat.xor_lt_two_pow (n := 32) hCl (by omega)
      have e0 : bits .xor .u32 (C : Int) (s[k].toNat : Int) = (X : Int) := by rw [hX]; exact u32_xor_nat C _ hCl (by omega)
      obtain ⟨Y, hY⟩ : ∃ Y, Y = crcI X 4 := ⟨_, rfl⟩
      have hYl : Y < 4294967296 := by rw [hY]; exact crcI_lt X hXl 4
      have HZ : Hid (ckF s (k + 1) = crcI Y 4) := by show _ = _; rw [ckF, ← hC, ← hb, ← hX, hY, ← crcI_add]
      have a1 := and15_u32 X hXl
      have a2 := and15_u32 Y hYl
      have c1 := HT.out (X % 16) (by omega)
      have c2 := HT.out (Y % 16) (by omega)
      rw [crcT_at _ (by omega)] at c1 c2
      have n1 := nib_u32 X hXl
      have n2 := nib_u32 Y hYl
      rw [← hY] at n1
      obtain ⟨i1, hi1⟩ : ∃ i, i = X % 16 := ⟨_, rfl⟩
      obtain ⟨i2, hi2⟩ : ∃ i, i = Y % 16 := ⟨_, rfl⟩
      obtain ⟨t1, ht1⟩ : ∃ t, t = crcI (X % 16) 4 := ⟨_, rfl⟩
      obtain ⟨t2, ht2⟩ : ∃ t, t = crcI (Y % 16) 4 := ⟨_, rfl⟩
      obtain ⟨Z, hZ⟩ : ∃ z, z = crcI Y 4 := ⟨_, rfl⟩
      rw [← ht1] at c1 n1
      rw [← ht2] at c2 n2
      rw [← hi1] at a1 c1
      rw [← hi2] at a2 c2
      rw [← hZ] at n2 HZ
      have l1 : (i1 : Int) < 16 := by omega
      have l2 : (i2 : Int) < 16 := by omega
      have hl2 : (s[k].toNat : Int) ≤ 255 := by omega
      have hCi : (C : Int) ≤ 4294967295 := by omega
      have hXi : (X : Int) ≤ 4294967295 := by omega
      have hYi : (Y : Int) ≤ 4294967295 := by omega
      clear hb hX hY hi1 hi2 ht1 ht2 hZ hC
      go_wp2
      go_round
      case rel => exact ⟨k + 1, by omega, by go_num, by rw [HZ.out]⟩
      case measure => simp [intOf]; omega
    · obtain rfl : k = s.size := by omega
      have HE : Hid (wrap64 (bits .xor .u32 IntKind.u32.max (C : Int)) = ((C ^^^ 4294967295 : Nat) : Int)) := by
        show _ = _
        have h1 := u32_xor_nat 4294967295 C (by omega) hCl
        have h2 : 4294967295 ^^^ C < 2 ^ 32 := Nat.xor_lt_two_pow (by omega) (by omega)
        rw [show IntKind.u32.max = ((4294967295 : Nat) : Int) by decide, h1, IntWalk.wrap64_in _ (by omega), Nat.xor_comm]
      have HC := Lib.hid hC
      clear hC
      have hCi : (C : Int) ≤ 4294967295 := by omega
      go_wp2
      go_ret
      exact ⟨ret_int (by rw [HE.out, HC.out]; rfl), rfl⟩
end Go.Proofs.YtegjppihopncoaaDoor
