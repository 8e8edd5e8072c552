/- The checksum, in the model and in the program: the contracts. The program's table is a hypothesis on its cells. -/
import Derived.Test.YtnobgapdidpafaaDoorProg
import Derived.Test.YtnobgapdidpafaaDoorCrcN
import Derived.ProofKit
import Derived.Lib.Hide
namespace Go.Proofs.YtnobgapdidpafaaDoor
open Go.RowKit

/-- The checksum of a text. -/
def ckOf (s : ByteArray) : Nat := ckF s s.size ^^^ 4294967295
theorem specStepCrc_any (c b : Nat) (w : World) (hc : c < 4294967296) (hb : b ≤ 255) :
    Calls Tryd.prog 34 #[.int .i64 c, .int .u8 b] w fun e w' => e = .returned (.int .i64 (crcI (c ^^^ b) 8 : Nat)) ∧ w = w' := by
  have hb1 : (b : Int) ≤ 255 := by omega
  obtain ⟨x, hx⟩ : ∃ x, x = c ^^^ b := ⟨_, rfl⟩
  have hxl : x < 4294967296 := by rw [hx]; exact Nat.xor_lt_two_pow (n := 32) hc (by omega)
  have e0 : bits .xor .i64 (c : Int) (b : Int) = (x : Int) := by rw [hx]; exact i64_xor_nat c b (by omega) (by omega)
  rw [← hx]
  clear hx
  go_enter Tryd.func34, Tryd.ntmps34
  go_wp2
  go_loop [0, 5] (fun u i => ∃ k : Nat, k ≤ 8 ∧ i = .int .i64 k ∧ u = .int .i64 (crcI x k : Nat)) (fun _ i => 8 - (intOf i).toNat)
  case atStart => exact ⟨0, by omega, rfl, rfl⟩
  case round =>
    clear e0
    obtain ⟨k, hk, rfl, rfl⟩ := hrel
    obtain ⟨s, hs⟩ : ∃ s, s = crcI x k := ⟨_, rfl⟩
    have hsl : s < 4294967296 := by rw [hs]; exact crcI_lt x hxl k
    have hsi : (s : Int) ≤ 4294967295 := by omega
    have ha := and1_i64 s (by omega)
    have HX := Lib.hid (xor_crc_i64 s hsl)
    have HN : Hid (crcI x (k + 1) = crcN s) := by show _ = _; rw [hs]; rfl
    rw [← hs]
    have HS := Lib.hid hs
    clear hs
    by_cases hk8 : k < 8
    · by_cases ho : s % 2 = 1
      · have hb : (bits .and .i64 (s : Int) 1 == 1) = true := by rw [ha, ho]; rfl
        clear ha
        go_wp2
        go_round
        case rel => exact ⟨k + 1, by omega, by go_num, by rw [HN.out, crcN, if_pos ho, HX.out]⟩
        case measure => simp [intOf]; omega
      · have hb : (bits .and .i64 (s : Int) 1 == 1) = false := by rw [ha]; simp; omega
        clear ha
        go_wp2
        go_round
        case rel => exact ⟨k + 1, by omega, by go_num, by rw [HN.out, crcN, if_neg ho]; simp⟩
        case measure => simp [intOf]; omega
    · obtain rfl : k = 8 := by omega
      clear ha
      go_wp2
      go_ret
      exact ⟨ret_int (by rw [HS.out]), rfl⟩

theorem specCk_any (s : ByteArray) (w : World) (hs : s.size ≤ 1048576) :
    Calls Tryd.prog 30 #[.string s] w fun e w' => e = .returned (.int .i64 (ckOf s : Nat)) ∧ w = w' := by
  have HE := Lib.hid (i64_xor_nat (ckF s s.size) 4294967295 (by have := ckF_lt s s.size; omega) (by omega))
  go_enter Tryd.func30, Tryd.ntmps30
  go_wp2
  go_loop [3, 4] (fun n i => ∃ k : Nat, k ≤ s.size ∧ i = .int .i64 k ∧ n = .int .i64 (ckF s k : Nat)) (fun _ i => s.size - (intOf i).toNat)
  case atStart => exact ⟨0, Nat.zero_le _, rfl, rfl⟩
  case round =>
    obtain ⟨k, hk, rfl, rfl⟩ := hrel
    have hcl := ckF_lt s k
    by_cases hlt : k < s.size
    · have hb := byteAt_eq hlt
      have hl := byteAt_le s k
      rw [← hb] at hl
      have HB := Lib.hid hb
      clear hb
      go_wp2_with (go_at_call 34; refine (specStepCrc_any _ _ _ hcl hl).mono ?_; rintro e w' ⟨rfl, rfl⟩)
      go_round
      case rel => exact ⟨k + 1, by omega, by go_num, by rw [HB.out]; rfl⟩
      case measure => simp [intOf]; omega
    · obtain rfl : k = s.size := by omega
      go_wp2
      go_ret
      exact ⟨ret_int HE.out, rfl⟩

theorem implCk_any (g : Nat) (s : ByteArray) (w : World) (hs : s.size ≤ 1048576) (hT : ∀ j, j < 16 → w.cell? ⟨g, j, none⟩ = some (.int .u32 (crcT.getD j 0))) (hg : g = 0) :
    Calls Tryd.prog 31 #[.string s] w fun e w' => e = .returned (.int .i64 (ckOf s : Nat)) ∧ w = w' := by
  subst hg
  have HT := Lib.hid hT
  clear hT
  go_enter Tryd.func31, Tryd.ntmps31
  go_wp2
  go_loop [3, 7] (fun n i => ∃ k : Nat, k ≤ s.size ∧ i = .int .i64 k ∧ n = .int .u32 (ckF s k : Nat)) (fun _ i => s.size - (intOf i).toNat)
  case atStart => exact ⟨0, Nat.zero_le _, rfl, rfl⟩
  case round =>
    obtain ⟨k, hk, rfl, rfl⟩ := hrel
    obtain ⟨C, hC⟩ : ∃ C, C = ckF s k := ⟨_, rfl⟩
    have hCl : C < 4294967296 := by rw [hC]; exact ckF_lt s k
    rw [← hC]
    by_cases hlt : k < s.size
    · have hb := byteAt_eq hlt
      have hl := byteAt_le s k
      obtain ⟨X, hX⟩ : ∃ X, X = C ^^^ s[k].toNat := ⟨_, rfl⟩
      have hXl : X < 4294967296 := by rw [hX]; exact Nat.xor_lt_two_pow (n := 32) hCl (by omega)
      have e0 : bits .xor .u32 (C : Int) (s[k].toNat : Int) = (X : Int) := by rw [hX]; exact u32_xor_nat C _ hCl (by omega)
      obtain ⟨Y, hY⟩ : ∃ Y, Y = crcI X 4 := ⟨_, rfl⟩
      have hYl : Y < 4294967296 := by rw [hY]; exact crcI_lt X hXl 4
      have HZ : Hid (ckF s (k + 1) = crcI Y 4) := by show _ = _; rw [ckF, ← hC, ← hb, ← hX, hY, ← crcI_add]
      have a1 := and15_u32 X hXl
      have a2 := and15_u32 Y hYl
      have c1 := HT.out (X % 16) (by omega)
      have c2 := HT.out (Y % 16) (by omega)
      rw [crcT_at _ (by omega)] at c1 c2
      have n1 := nib_u32 X hXl
      have n2 := nib_u32 Y hYl
      rw [← hY] at n1
      obtain ⟨i1, hi1⟩ : ∃ i, i = X % 16 := ⟨_, rfl⟩
      obtain ⟨i2, hi2⟩ : ∃ i, i = Y % 16 := ⟨_, rfl⟩
      obtain ⟨t1, ht1⟩ : ∃ t, t = crcI (X % 16) 4 := ⟨_, rfl⟩
      obtain ⟨t2, ht2⟩ : ∃ t, t = crcI (Y % 16) 4 := ⟨_, rfl⟩
      obtain ⟨Z, hZ⟩ : ∃ z, z = crcI Y 4 := ⟨_, rfl⟩
      rw [← ht1] at c1 n1
      rw [← ht2] at c2 n2
      rw [← hi1] at a1 c1
      rw [← hi2] at a2 c2
      rw [← hZ] at n2 HZ
      have l1 : (i1 : Int) < 16 := by omega
      have l2 : (i2 : Int) < 16 := by omega
      have hl2 : (s[k].toNat : Int) ≤ 255 := by omega
      have hCi : (C : Int) ≤ 4294967295 := by omega
      have hXi : (X : Int) ≤ 4294967295 := by omega
      have hYi : (Y : Int) ≤ 4294967295 := by omega
      clear hb hX hY hi1 hi2 ht1 ht2 hZ hC
      go_wp2
      go_round
      case rel => exact ⟨k + 1, by omega, by go_num, by rw [HZ.out]⟩
      case measure => simp [intOf]; omega
    · obtain rfl : k = s.size := by omega
      have HE : Hid (wrap64 (bits .xor .u32 IntKind.u32.max (C : Int)) = ((C ^^^ 4294967295 : Nat) : Int)) := by
        show _ = _
        have h1 := u32_xor_nat 4294967295 C (by omega) hCl
        have h2 : 4294967295 ^^^ C < 2 ^ 32 := Nat.xor_lt_two_pow (by omega) (by omega)
        rw [show IntKind.u32.max = ((4294967295 : Nat) : Int) by decide, h1, IntWalk.wrap64_in _ (by omega), Nat.xor_comm]
      have HC := Lib.hid hC
      clear hC
      have hCi : (C : Int) ≤ 4294967295 := by omega
      go_wp2
      go_ret
      exact ⟨ret_int (by rw [HE.out, HC.out]; rfl), rfl⟩
end Go.Proofs.YtnobgapdidpafaaDoor
