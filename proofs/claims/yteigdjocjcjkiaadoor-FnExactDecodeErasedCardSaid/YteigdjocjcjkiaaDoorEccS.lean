/- Error correction in the model: the contracts of its parts. -/
import Derived.Test.YteigdjocjcjkiaaDoorProg
import Derived.Test.YteigdjocjcjkiaaDoorWordN
import Derived.Test.YteigdjocjcjkiaaDoorEccN
import Derived.Test.YteigdjocjcjkiaaDoorBytes
import Derived.ProofKit
import Derived.Lib.Hide
import Derived.BigQuiet
import Derived.Deep.QuietTactic
namespace Go.Proofs.YteigdjocjcjkiaaDoor
open Go.RowKit

theorem shr_and (x r : Nat) (h : x < 2 ^ 63) : bits .and .i64 ((x : Int) / 2 ^ r) 1 = ((x / 2 ^ r % 2 : Nat) : Int) := by
  have h1 := and1_i64 (x / 2 ^ r) (Nat.lt_of_le_of_lt (Nat.div_le_self _ _) h)
  rw [Int.natCast_ediv, Int.natCast_pow] at h1
  exact h1
theorem l03Bit_low (s : ByteArray) (c : Int) (b : Nat) (w : World) (hs : s.size = 8) (hb : b < 64) :
    Calls Tryd.prog 33 #[.string s, .int .i64 c, .int .i64 b] w fun e w' => e = .returned (.int .i64 ((wordN s / 2 ^ b % 2 : Nat) : Int)) ∧ w = w' := by
  have hlt : b / 8 < s.size := by omega
  have hI : (b : Int) < 64 := by omega
  have hI2 : (b : Int) / 8 < (s.size : Int) := by omega
  have hl := byteAt_le s (b / 8)
  have HW : Hid (bits .and .i64 (wrap64 ((s[b / 8].toNat : Int) / 2 ^ (b % 8))) 1 = ((wordN s / 2 ^ b % 2 : Nat) : Int)) := by
    show _ = _
    have hd : byteAt s (b / 8) / 2 ^ (b % 8) ≤ byteAt s (b / 8) := Nat.div_le_self _ _
    have e : ((byteAt s (b / 8) : Nat) : Int) / 2 ^ (b % 8) = ((byteAt s (b / 8) / 2 ^ (b % 8) : Nat) : Int) := by rw [Int.natCast_ediv, Int.natCast_pow]; rfl
    rw [wordN_bit s hb, byteAt_eq hlt, e]
    generalize byteAt s (b / 8) / 2 ^ (b % 8) = q at *
    rw [IntWalk.wrap64_in _ (by omega), and1_i64 _ (by omega)]
  clear hs
  go_enter Tryd.func33, Tryd.ntmps33
  go_wp2
  go_ret
  exact ⟨ret_int HW.out, rfl⟩
theorem l03Bit_high (s : ByteArray) (c b : Nat) (w : World) (hc : c < 256) (hb : 64 ≤ b) (hb2 : b < 72) :
    Calls Tryd.prog 33 #[.string s, .int .i64 c, .int .i64 b] w fun e w' => e = .returned (.int .i64 ((c / 2 ^ (b - 64) % 2 : Nat) : Int)) ∧ w = w' := by
  have hI : (64 : Int) ≤ (b : Int) := by omega
  have hI2 : (b : Int) < 72 := by omega
  have hI3 : (c : Int) < 256 := by omega
  have HE := Lib.hid (shr_and c (b - 64) (by omega))
  go_enter Tryd.func33, Tryd.ntmps33
  go_wp2
  go_ret
  exact ⟨ret_int HE.out, rfl⟩
theorem l03Bit_any (X b : Nat) (w : World) (hX : X < 2 ^ 72) (hb : b < 72) :
    Calls Tryd.prog 33 #[.string (wStr (lo X)), .int .i64 (hi X : Nat), .int .i64 b] w fun e w' => e = .returned (.int .i64 ((X / 2 ^ b % 2 : Nat) : Int)) ∧ w = w' := by
  by_cases h : b < 64
  · refine (l03Bit_low _ _ b w (wStr_size _) h).mono ?_
    rintro e w' ⟨rfl, rfl⟩
    exact ⟨ret_int (by rw [wStr_word (lo_lt X), bit_lo X h]), rfl⟩
  · refine (l03Bit_high _ _ b w (hi_lt hX) (by omega) hb).mono ?_
    rintro e w' ⟨rfl, rfl⟩
    exact ⟨ret_int (by rw [bit_hi X (by omega)]), rfl⟩

theorem l03Position_high (b : Nat) (w : World) (hb : 64 ≤ b) (hb2 : b < 71) :
    Calls Tryd.prog 34 #[.int .i64 b] w fun e w' => e = .returned (.int .i64 (posN b : Nat)) ∧ w = w' := by
  have hI : (64 : Int) ≤ (b : Int) := by omega
  have hI2 : (b : Int) < 71 := by omega
  have HP : Hid (wrap64 (2 ^ (b - 64)) = ((posN b : Nat) : Int)) := by
    show _ = _
    have := posN_le b
    have e : ((2 : Int) ^ (b - 64)) = ((posN b : Nat) : Int) := by rw [pos_high hb hb2, Int.natCast_pow]; rfl
    rw [e, IntWalk.wrap64_in _ (by omega)]
  go_enter Tryd.func34, Tryd.ntmps34
  go_wp2
  go_ret
  exact ⟨ret_int HP.out, rfl⟩
theorem l03Position_low (b : Nat) (w : World) (hb : b < 64) :
    Calls Tryd.prog 34 #[.int .i64 b] w fun e w' => e = .returned (.int .i64 (posN b : Nat)) ∧ w = w' := by
  have hI : (b : Int) < 64 := by omega
  go_enter Tryd.func34, Tryd.ntmps34
  go_wp2
  go_loop [3, 4] (fun t i => ∃ a n : Nat, 2 ≤ a ∧ a ≤ 71 ∧ t = .int .i64 a ∧ i = .int .i64 ((n : Int) - 1) ∧ npN a = n ∧ n ≤ b + 1 ∧ (n = b + 1 → a = posN b)) (fun t _ => 71 - (intOf t).toNat)
  case atStart => exact ⟨2, 0, by omega, by omega, rfl, rfl, np_two, by omega, fun h => by omega⟩
  case round =>
    obtain ⟨a, n, ha, ha2, rfl, rfl, hn, hnb, he⟩ := hrel
    by_cases hlt : n < b + 1
    · have ha3 := np_end ha2 (by omega)
      have hand := i64_and_nat (a + 1) a (by omega) (by omega)
      have hsub : ((a : Int) + 1) - 1 = (a : Int) := by omega
      by_cases hz : (a + 1) &&& a = 0
      · have HF := Lib.hid (np_flat ha ha3 hz)
        have hb1 : (bits .and .i64 ((a : Int) + 1) (a : Int) != 0) = false := by
          rw [hz] at hand; rw [show ((a + 1 : Nat) : Int) = (a : Int) + 1 from rfl] at hand; rw [hand]; rfl
        have HN := Lib.hid hn
        clear hand hz hn he
        go_wp2
        go_round
        case rel => exact ⟨a + 1, n, by omega, by omega, by go_num, rfl, by rw [HF.out, HN.out], hnb, fun h => by omega⟩
        case measure => simp [intOf]; omega
      · have HF := Lib.hid (np_step ha ha3 hz)
        have hb1 : (bits .and .i64 ((a : Int) + 1) (a : Int) != 0) = true := by
          rw [show ((a + 1 : Nat) : Int) = (a : Int) + 1 from rfl] at hand; rw [hand]; simp; omega
        have HN := Lib.hid hn
        clear hand hz hn he
        go_wp2
        go_round
        case rel => exact ⟨a + 1, n + 1, by omega, by omega, by go_num, by go_num, by rw [HF.out.1, HN.out], by omega, fun h => by have := HF.out.2; rw [HN.out] at this; rw [← this]; congr 1; omega⟩
        case measure => simp [intOf]; omega
    · have hE := he (by omega)
      obtain rfl : n = b + 1 := by omega
      have HE := Lib.hid hE
      clear hE hn he
      go_wp2
      go_ret
      exact ⟨ret_int (by rw [HE.out]), rfl⟩
theorem l03Position_any (b : Nat) (w : World) (hb : b < 71) :
    Calls Tryd.prog 34 #[.int .i64 b] w fun e w' => e = .returned (.int .i64 (posN b : Nat)) ∧ w = w' := by
  by_cases h : b < 64
  · exact l03Position_low b w h
  · exact l03Position_high b w (by omega) hb
theorem pos_last : posN 71 = 0 := by decide

def SynPost (X : Nat) (w : World) (e : Ending) (w' : World) : Prop := e = .returned (.tuple #[.int .i64 (synN X : Nat), .int .i64 (parN X : Nat)]) ∧ w = w'
theorem l03Syndrome_any (X : Nat) (w : World) (hX : X < 2 ^ 72) :
    Calls Tryd.prog 24 #[.string (wStr (lo X)), .int .i64 (hi X : Nat)] w (SynPost X w) := by
  have HB := Lib.hid (fun (k : Nat) (W : World) (hk : k < 72) => l03Bit_any X k W hX hk)
  obtain ⟨s, hs⟩ : ∃ s, s = wStr (lo X) := ⟨_, rfl⟩
  obtain ⟨c, hc⟩ : ∃ c, c = hi X := ⟨_, rfl⟩
  rw [← hs, ← hc] at HB ⊢
  clear hs hc
  go_enter Tryd.func24, Tryd.ntmps24
  go_wp2
  go_loop [6, 7, 8] (fun u v i => ∃ k : Nat, k ≤ 72 ∧ i = .int .i64 k ∧ u = .int .i64 (accN posN X k : Nat) ∧ v = .int .i64 (accN (fun _ => 1) X k : Nat)) (fun _ _ i => 72 - (intOf i).toNat)
  case atStart => exact ⟨0, by omega, rfl, rfl, rfl⟩
  case round =>
    obtain ⟨k, hk, rfl, rfl, rfl⟩ := hrel
    by_cases hlt : k < 72
    · have hu : accN posN X k < 2 ^ 7 := accN_lt (n := 7) (fun b => by have := posN_le b; omega) X k
      have hv : accN (fun _ => 1) X k < 2 ^ 1 := accN_lt (n := 1) (fun b => by omega) X k
      by_cases hbit : X / 2 ^ k % 2 = 1
      · have hB := fun (W : World) => HB.out k W hlt
        rw [hbit] at hB
        have HB1 := Lib.hid hB
        have HA := Lib.hid (accN_yes (p := posN) hbit)
        have HV := Lib.hid (accN_yes (p := fun _ => 1) hbit)
        clear hB hbit
        have HXV := Lib.hid (i64_xor_nat (accN (fun _ => 1) X k) 1 (by omega) (by omega))
        by_cases h71 : k < 71
        · have hp := posN_le k
          have HXU := Lib.hid (i64_xor_nat (accN posN X k) (posN k) (by omega) (by omega))
          clear hp hu hv
          go_wp2_with (first
            | (go_at_call 33; refine (HB1.out _).mono ?_; rintro e w' ⟨rfl, rfl⟩)
            | (go_at_call 34; refine (l03Position_any k _ h71).mono ?_; rintro e w' ⟨rfl, rfl⟩))
          go_round
          case rel => exact ⟨k + 1, by omega, by go_num, by rw [HA.out, ← HXU.out], by rw [HV.out, ← HXV.out]; rfl⟩
          case measure => simp [intOf]; omega
        · obtain rfl : k = 71 := by omega
          clear hu hv
          go_wp2_with (go_at_call 33; refine (HB1.out _).mono ?_; rintro e w' ⟨rfl, rfl⟩)
          go_round
          case rel => exact ⟨72, by omega, by go_num, by rw [HA.out, pos_last, Nat.xor_zero], by rw [HV.out, ← HXV.out]; rfl⟩
          case measure => simp [intOf]
      · have hB := fun (W : World) => HB.out k W hlt
        rw [show X / 2 ^ k % 2 = 0 by omega] at hB
        have HB1 := Lib.hid hB
        have HA := Lib.hid (accN_no (p := posN) hbit)
        have HV := Lib.hid (accN_no (p := fun _ => 1) hbit)
        clear hB hbit hu hv
        go_wp2_with (go_at_call 33; refine (HB1.out _).mono ?_; rintro e w' ⟨rfl, rfl⟩)
        go_round
        case rel => exact ⟨k + 1, by omega, by go_num, by rw [HA.out], by rw [HV.out]⟩
        case measure => simp [intOf]; omega
    · obtain rfl : k = 72 := by omega
      go_wp2
      go_ret2
      exact ⟨rfl, rfl⟩
end Go.Proofs.YteigdjocjcjkiaaDoor
