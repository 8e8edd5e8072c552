/- The proof's own lemmas, part 11: EccS FlipS DecS EncS. -/
import Derived.Test.YthenilomgbnpeaaGreatDoorProg
import Derived.Test.YthenilomgbnpeaaGreatDoorMg5
import Derived.Test.YthenilomgbnpeaaGreatDoorMg6
import Derived.Test.YthenilomgbnpeaaGreatDoorMg0
import Derived.ProofKit
import Derived.Lib.Hide
import Derived.BigQuiet
import Derived.Deep.QuietTactic
import Derived.Test.YthenilomgbnpeaaGreatDoorMg4
import Derived.Deep.DeepMust
import Derived.Test.YthenilomgbnpeaaGreatDoorMg9
/- Error correction in the model: the contracts of its parts. -/
namespace Go.Proofs.YthenilomgbnpeaaGreatDoor
open Go.RowKit

theorem shr_and (x r : Nat) (h : x < 2 ^ 63) : bits .and .i64 ((x : Int) / 2 ^ r) 1 = ((x / 2 ^ r % 2 : Nat) : Int) := by
  have h1 := and1_i64 (x / 2 ^ r) (Nat.lt_of_le_of_lt (Nat.div_le_self _ _) h)
  rw [Int.natCast_ediv, Int.natCast_pow] at h1
  exact h1
theorem l03Bit_low (s : ByteArray) (c : Int) (b : Nat) (w : World) (hs : s.size = 8) (hb : b < 64) :
    Calls Tryz.prog 114 #[.string s, .int .i64 c, .int .i64 b] w fun e w' => e = .returned (.int .i64 ((wordN s / 2 ^ b % 2 : Nat) : Int)) ∧ w = w' := by
  have hlt : b / 8 < s.size := by omega
  have hI : (b : Int) < 64 := by omega
  have hI2 : (b : Int) / 8 < (s.size : Int) := by omega
  have hl := byteAt_le s (b / 8)
  have HW : Hid (bits .and .i64 (wrap64 ((s[b / 8].toNat : Int) / 2 ^ (b % 8))) 1 = ((wordN s / 2 ^ b % 2 : Nat) : Int)) := by
    show _ = _
    have hd : byteAt s (b / 8) / 2 ^ (b % 8) ≤ byteAt s (b / 8) := Nat.div_le_self _ _
    have e : ((byteAt s (b / 8) : Nat) : Int) / 2 ^ (b % 8) = ((byteAt s (b / 8) / 2 ^ (b % 8) : Nat) : Int) := by rw [Int.natCast_ediv, Int.natCast_pow]; rfl
    rw [wordN_bit s hb, byteAt_eq hlt, e]
    generalize byteAt s (b / 8) / 2 ^ (b % 8) = q at *
    rw [IntWalk.wrap64_in _ (by omega), and1_i64 _ (by omega)]
  clear hs
  go_enter Tryz.func114, Tryz.ntmps114
  go_wp2
  go_ret
  exact ⟨ret_int HW.out, rfl⟩
theorem l03Bit_high (s : ByteArray) (c b : Nat) (w : World) (hc : c < 256) (hb : 64 ≤ b) (hb2 : b < 72) :
    Calls Tryz.prog 114 #[.string s, .int .i64 c, .int .i64 b] w fun e w' => e = .returned (.int .i64 ((c / 2 ^ (b - 64) % 2 : Nat) : Int)) ∧ w = w' := by
  have hI : (64 : Int) ≤ (b : Int) := by omega
  have hI2 : (b : Int) < 72 := by omega
  have hI3 : (c : Int) < 256 := by omega
  have HE := Lib.hid (shr_and c (b - 64) (by omega))
  go_enter Tryz.func114, Tryz.ntmps114
  go_wp2
  go_ret
  exact ⟨ret_int HE.out, rfl⟩
theorem l03Bit_any (X b : Nat) (w : World) (hX : X < 2 ^ 72) (hb : b < 72) :
    Calls Tryz.prog 114 #[.string (wStr (lo X)), .int .i64 (hi X : Nat), .int .i64 b] w fun e w' => e = .returned (.int .i64 ((X / 2 ^ b % 2 : Nat) : Int)) ∧ w = w' := by
  by_cases h : b < 64
  · refine (l03Bit_low _ _ b w (wStr_size _) h).mono ?_
    rintro e w' ⟨rfl, rfl⟩
    exact ⟨ret_int (by rw [wStr_word (lo_lt X), bit_lo X h]), rfl⟩
  · refine (l03Bit_high _ _ b w (hi_lt hX) (by omega) hb).mono ?_
    rintro e w' ⟨rfl, rfl⟩
    exact ⟨ret_int (by rw [bit_hi X (by omega)]), rfl⟩

theorem l03Position_high (b : Nat) (w : World) (hb : 64 ≤ b) (hb2 : b < 71) :
    Calls Tryz.prog 115 #[.int .i64 b] w fun e w' => e = .returned (.int .i64 (posN b : Nat)) ∧ w = w' := by
  have hI : (64 : Int) ≤ (b : Int) := by omega
  have hI2 : (b : Int) < 71 := by omega
  have HP : Hid (wrap64 (2 ^ (b - 64)) = ((posN b : Nat) : Int)) := by
    show _ = _
    have := posN_le b
    have e : ((2 : Int) ^ (b - 64)) = ((posN b : Nat) : Int) := by rw [pos_high hb hb2, Int.natCast_pow]; rfl
    rw [e, IntWalk.wrap64_in _ (by omega)]
  go_enter Tryz.func115, Tryz.ntmps115
  go_wp2
  go_ret
  exact ⟨ret_int HP.out, rfl⟩
theorem l03Position_low (b : Nat) (w : World) (hb : b < 64) :
    Calls Tryz.prog 115 #[.int .i64 b] w fun e w' => e = .returned (.int .i64 (posN b : Nat)) ∧ w = w' := by
  have hI : (b : Int) < 64 := by omega
  go_enter Tryz.func115, Tryz.ntmps115
  go_wp2
  go_loop [3, 4] (fun t i => ∃ a n : Nat, 2 ≤ a ∧ a ≤ 71 ∧ t = .int .i64 a ∧ i = .int .i64 ((n : Int) - 1) ∧ npN a = n ∧ n ≤ b + 1 ∧ (n = b + 1 → a = posN b)) (fun t _ => 71 - (intOf t).toNat)
  case atStart => exact ⟨2, 0, by omega, by omega, rfl, rfl, np_two, by omega, fun h => by omega⟩
  case round =>
    obtain ⟨a, n, ha, ha2, rfl, rfl, hn, hnb, he⟩ := hrel
    by_cases hlt : n < b + 1
    · have ha3 := np_end ha2 (by omega)
      have hand := i64_and_nat (a + 1) a (by omega) (by omega)
      have hsub : ((a : Int) + 1) - 1 = (a : Int) := by omega
      by_cases hz : (a + 1) &&& a = 0
      · have HF := Lib.hid (np_flat ha ha3 hz)
        have hb1 : (bits .and .i64 ((a : Int) + 1) (a : Int) != 0) = false := by
          rw [hz] at hand; rw [show ((a + 1 : Nat) : Int) = (a : Int) + 1 from rfl] at hand; rw [hand]; rfl
        have HN := Lib.hid hn
        clear hand hz hn he
        go_wp2
        go_round
        case rel => exact ⟨a + 1, n, by omega, by omega, by go_num, rfl, by rw [HF.out, HN.out], hnb, fun h => by omega⟩
        case measure => simp [intOf]; omega
      · have HF := Lib.hid (np_step ha ha3 hz)
        have hb1 : (bits .and .i64 ((a : Int) + 1) (a : Int) != 0) = true := by
          rw [show ((a + 1 : Nat) : Int) = (a : Int) + 1 from rfl] at hand; rw [hand]; simp; omega
        have HN := Lib.hid hn
        clear hand hz hn he
        go_wp2
        go_round
        case rel => exact ⟨a + 1, n + 1, by omega, by omega, by go_num, by go_num, by rw [HF.out.1, HN.out], by omega, fun h => by have := HF.out.2; rw [HN.out] at this; rw [← this]; congr 1; omega⟩
        case measure => simp [intOf]; omega
    · have hE := he (by omega)
      obtain rfl : n = b + 1 := by omega
      have HE := Lib.hid hE
      clear hE hn he
      go_wp2
      go_ret
      exact ⟨ret_int (by rw [HE.out]), rfl⟩
theorem l03Position_any (b : Nat) (w : World) (hb : b < 71) :
    Calls Tryz.prog 115 #[.int .i64 b] w fun e w' => e = .returned (.int .i64 (posN b : Nat)) ∧ w = w' := by
  by_cases h : b < 64
  · exact l03Position_low b w h
  · exact l03Position_high b w (by omega) hb
theorem pos_last : posN 71 = 0 := by decide

def SynPost (X : Nat) (w : World) (e : Ending) (w' : World) : Prop := e = .returned (.tuple #[.int .i64 (synN X : Nat), .int .i64 (parN X : Nat)]) ∧ w = w'
theorem l03Syndrome_any (X : Nat) (w : World) (hX : X < 2 ^ 72) :
    Calls Tryz.prog 103 #[.string (wStr (lo X)), .int .i64 (hi X : Nat)] w (SynPost X w) := by
  have HB := Lib.hid (fun (k : Nat) (W : World) (hk : k < 72) => l03Bit_any X k W hX hk)
  obtain ⟨s, hs⟩ : ∃ s, s = wStr (lo X) := ⟨_, rfl⟩
  obtain ⟨c, hc⟩ : ∃ c, c = hi X := ⟨_, rfl⟩
  rw [← hs, ← hc] at HB ⊢
  clear hs hc
  go_enter Tryz.func103, Tryz.ntmps103
  go_wp2
  go_loop [6, 7, 8] (fun u v i => ∃ k : Nat, k ≤ 72 ∧ i = .int .i64 k ∧ u = .int .i64 (accN posN X k : Nat) ∧ v = .int .i64 (accN (fun _ => 1) X k : Nat)) (fun _ _ i => 72 - (intOf i).toNat)
  case atStart => exact ⟨0, by omega, rfl, rfl, rfl⟩
  case round =>
    obtain ⟨k, hk, rfl, rfl, rfl⟩ := hrel
    by_cases hlt : k < 72
    · have hu : accN posN X k < 2 ^ 7 := accN_lt (n := 7) (fun b => by have := posN_le b; omega) X k
      have hv : accN (fun _ => 1) X k < 2 ^ 1 := accN_lt (n := 1) (fun b => by omega) X k
      by_cases hbit : X / 2 ^ k % 2 = 1
      · have hB := fun (W : World) => HB.out k W hlt
        rw [hbit] at hB
        have HB1 := Lib.hid hB
        have HA := Lib.hid (accN_yes (p := posN) hbit)
        have HV := Lib.hid (accN_yes (p := fun _ => 1) hbit)
        clear hB hbit
        have HXV := Lib.hid (i64_xor_nat (accN (fun _ => 1) X k) 1 (by omega) (by omega))
        by_cases h71 : k < 71
        · have hp := posN_le k
          have HXU := Lib.hid (i64_xor_nat (accN posN X k) (posN k) (by omega) (by omega))
          clear hp hu hv
          go_wp2_with (first
            | (go_at_call 114; refine (HB1.out _).mono ?_; rintro e w' ⟨rfl, rfl⟩)
            | (go_at_call 115; refine (l03Position_any k _ h71).mono ?_; rintro e w' ⟨rfl, rfl⟩))
          go_round
          case rel => exact ⟨k + 1, by omega, by go_num, by rw [HA.out, ← HXU.out], by rw [HV.out, ← HXV.out]; rfl⟩
          case measure => simp [intOf]; omega
        · obtain rfl : k = 71 := by omega
          clear hu hv
          go_wp2_with (go_at_call 114; refine (HB1.out _).mono ?_; rintro e w' ⟨rfl, rfl⟩)
          go_round
          case rel => exact ⟨72, by omega, by go_num, by rw [HA.out, pos_last, Nat.xor_zero], by rw [HV.out, ← HXV.out]; rfl⟩
          case measure => simp [intOf]
      · have hB := fun (W : World) => HB.out k W hlt
        rw [show X / 2 ^ k % 2 = 0 by omega] at hB
        have HB1 := Lib.hid hB
        have HA := Lib.hid (accN_no (p := posN) hbit)
        have HV := Lib.hid (accN_no (p := fun _ => 1) hbit)
        clear hB hbit hu hv
        go_wp2_with (go_at_call 114; refine (HB1.out _).mono ?_; rintro e w' ⟨rfl, rfl⟩)
        go_round
        case rel => exact ⟨k + 1, by omega, by go_num, by rw [HA.out], by rw [HV.out]⟩
        case measure => simp [intOf]; omega
    · obtain rfl : k = 72 := by omega
      go_wp2
      go_ret2
      exact ⟨rfl, rfl⟩
end Go.Proofs.YthenilomgbnpeaaGreatDoor
/- A bit of a codeword inverted, in the model; valid words: the contracts. -/
namespace Go.Proofs.YthenilomgbnpeaaGreatDoor
open Go.RowKit

theorem nums_wStr (x : Nat) : ((wStr x).data.toList.map fun b => (b.toNat : Int)) = wL x := by
  apply List.ext_getElem
  · have := wStr_size x
    simp only [List.length_map, wL_length]
    simpa using this
  · intro k h1 h2
    have h2' : k < 8 := by rw [wL_length] at h2; exact h2
    have e1 := wStr_at x h2'
    have e2 := wL_at x h2'
    rw [List.getD_eq_getElem?_getD, List.getElem?_eq_getElem h2] at e2
    simp only [Option.getD_some] at e2
    rw [e2, ← e1]
    unfold byteAt
    rw [List.getD_eq_getElem?_getD, List.getElem?_eq_getElem (by simpa using h1)]
    simp
def FlipPost (X b : Nat) (w : World) (e : Ending) (w' : World) : Prop := e = .returned (.tuple #[.string (wStr (lo (X ^^^ 2 ^ b))), .int .i64 (hi (X ^^^ 2 ^ b) : Nat)]) ∧ Below w.heap.size w w'
end Go.Proofs.YthenilomgbnpeaaGreatDoor
/- Decoding a codeword, in the model: the contracts. -/
namespace Go.Proofs.YthenilomgbnpeaaGreatDoor
open Go.RowKit

theorem syn_ret (X S P : Nat) (w : World) (hX : X < 2 ^ 72) (hS : synN X = S) (hP : parN X = P) :
    Calls Tryz.prog 103 #[.string (wStr (lo X)), .int .i64 (hi X : Nat)] w fun e w' => e = .returned (.tuple #[.int .i64 S, .int .i64 P]) ∧ w = w' := by
  subst hS; subst hP; exact l03Syndrome_any X w hX
theorem l03Check_any (x : Nat) (w : World) (hx : x < 2 ^ 64) :
    Calls Tryz.prog 84 #[.string (wStr x)] w fun e w' => e = .returned (.int .i64 (chkN x : Nat)) ∧ w = w' := by
  have hl : lowN x < 128 := synN_lt x
  have h0 : x < 2 ^ 72 := by omega
  have h1 : x + 2 ^ 64 * lowN x < 2 ^ 72 := by omega
  have hp := parN_lt (x + 2 ^ 64 * lowN x)
  have A := fun (W : World) => syn_ret x (lowN x) (parN x) W h0 rfl rfl
  have B := fun (W : World) => syn_ret (x + 2 ^ 64 * lowN x) _ (parN (x + 2 ^ 64 * lowN x)) W h1 rfl rfl
  rw [show lo x = x by unfold lo; omega, show hi x = 0 by unfold hi; omega] at A
  rw [lo_of _ hx, hi_of _ hx] at B
  have hE := chk_or x
  generalize parN (x + 2 ^ 64 * lowN x) = P at *
  generalize synN (x + 2 ^ 64 * lowN x) = S at *
  generalize parN x = Q at *
  generalize chkN x = C at *
  generalize lowN x = L at *
  have HE : Hid (bits .or .i64 (L : Nat) ((P : Nat) * 128) = ((C : Nat) : Int)) := by
    show _ = _
    have e := i64_or_nat L (P * 128) (by omega) (by omega)
    rw [hE, Int.natCast_mul] at e
    exact e
  have HA := Lib.hid A
  have HB := Lib.hid B
  clear A B h0 h1 hE
  generalize wStr x = s at *
  clear hx
  go_enter Tryz.func84, Tryz.ntmps84
  go_wp2_with fail
  refine (HA.out _).mono ?_
  rintro e w' ⟨rfl, rfl⟩
  go_wp2_with fail
  refine (HB.out _).mono ?_
  rintro e w' ⟨rfl, rfl⟩
  go_wp2
  go_ret
  exact ⟨ret_int HE.out, rfl⟩
end Go.Proofs.YthenilomgbnpeaaGreatDoor
/- The check bytes of several words, in the model and in the program: the contracts. -/
namespace Go.Proofs.YthenilomgbnpeaaGreatDoor
open Go.RowKit

theorem BytesOwn.later {w w' : World} {B B' : Nat} {v : Value} {l : List Int} (h : BytesOwn w B v l) (hb : Below B' w w') (hv : ∀ g, v.ownBlock = some g → g < B') : BytesOwn w' B v l := by
  refine ⟨h.1, ?_⟩
  rcases h.2 with h2 | ⟨g, cap, cur, h1, h2, h3, h4⟩
  · exact .inl h2
  · exact .inr ⟨g, cap, cur, h1, h2, (hb.block g (hv g (by rw [h1]; rfl))).trans h3, h4⟩
theorem slice_wd (s : ByteArray) (k : Nat) (h : 8 * k + 8 ≤ s.size) (w : World) :
    (Instr.slice 9 (.string s) (some (.int .i64 ((k : Int) * 8))) (some (.int .i64 (((k : Int) + 1) * 8))) none).run Tryz.prog w = .ok (.string (wd s k)) w := by
  rw [run_slice_string w 9 s .i64 .i64 _ _ Tryz.underlying9 (by omega) (by omega) (by omega)]
  rw [show (((k : Int) + 1) * 8).toNat = 8 * k + 8 by omega, show ((k : Int) * 8).toNat = 8 * k by omega]; rfl
theorem slice_at (s : ByteArray) (i : Nat) (h : i + 8 ≤ s.size) (w : World) :
    (Instr.slice 9 (.string s) (some (.int .i64 (i : Int))) (some (.int .i64 ((i : Int) + 8))) none).run Tryz.prog w = .ok (.string (s.extract i (i + 8))) w := by
  rw [run_slice_string w 9 s .i64 .i64 _ _ Tryz.underlying9 (by omega) (by omega) (by omega)]
  rw [show ((i : Int) + 8).toNat = i + 8 by omega]; rfl
theorem wordOf_any (s : ByteArray) (k : Nat) (w : World) (h : 8 * k + 8 ≤ s.size) (hs : s.size ≤ 1048576) :
    Calls Tryz.prog 56 #[.string s, .int .i64 k] w fun e w' => e = .returned (.string (wd s k)) ∧ w = w' := by
  have hsl := slice_wd s k h
  have hk : (k : Int) ≤ 1048576 := by omega
  go_enter Tryz.func56, Tryz.ntmps56
  go_wp2
  go_ret
  exact ⟨rfl, rfl⟩
/-- Is a text made of at most 32 words? -/
def Whole (s : ByteArray) : Prop := s.size % 8 = 0 ∧ s.size ≤ 256
theorem wholeWords_yes (s : ByteArray) (w : World) (h : Whole s) :
    Calls Tryz.prog 54 #[.string s] w fun e w' => e = .returned (.bool true) ∧ w = w' := by
  obtain ⟨h1, h2⟩ := h
  have hb : (((s.size : Int) % 8) == 0) = true := by simp; omega
  have h3 : (s.size : Int) ≤ 256 := by omega
  clear h1
  go_enter Tryz.func54, Tryz.ntmps54
  go_wp2
  go_ret
  exact ⟨rfl, rfl⟩
theorem wholeWords_no (s : ByteArray) (w : World) (h : ¬ Whole s) :
    Calls Tryz.prog 54 #[.string s] w fun e w' => e = .returned (.bool false) ∧ w = w' := by
  by_cases h1 : s.size % 8 = 0
  · have h2 : 256 < (s.size : Int) := by unfold Whole at h; omega
    have hb : (((s.size : Int) % 8) == 0) = true := by simp; omega
    have hd : decide ((s.size : Int) ≤ 256) = false := by simp; omega
    clear h1 h
    go_enter Tryz.func54, Tryz.ntmps54
    go_wp2
    go_ret
    exact ⟨rfl, rfl⟩
  · have hb : (((s.size : Int) % 8) == 0) = false := by simp; omega
    clear h1 h
    go_enter Tryz.func54, Tryz.ntmps54
    go_wp2
    go_ret
    exact ⟨rfl, rfl⟩
theorem l03Words_yes (s : ByteArray) (w : World) (h : Whole s) :
    Calls Tryz.prog 83 #[.string s] w fun e w' => e = .returned (.bool true) ∧ w = w' := by
  obtain ⟨h1, h2⟩ := h
  have hb : (((s.size : Int) % 8) == 0) = true := by simp; omega
  have h3 : (s.size : Int) ≤ 256 := by omega
  clear h1
  go_enter Tryz.func83, Tryz.ntmps83
  go_wp2
  go_ret
  exact ⟨rfl, rfl⟩
theorem l03Words_no (s : ByteArray) (w : World) (h : ¬ Whole s) :
    Calls Tryz.prog 83 #[.string s] w fun e w' => e = .returned (.bool false) ∧ w = w' := by
  by_cases h1 : s.size % 8 = 0
  · have h2 : 256 < (s.size : Int) := by unfold Whole at h; omega
    have hb : (((s.size : Int) % 8) == 0) = true := by simp; omega
    have hd : decide ((s.size : Int) ≤ 256) = false := by simp; omega
    clear h1 h
    go_enter Tryz.func83, Tryz.ntmps83
    go_wp2
    go_ret
    exact ⟨rfl, rfl⟩
  · have hb : (((s.size : Int) % 8) == 0) = false := by simp; omega
    clear h1 h
    go_enter Tryz.func83, Tryz.ntmps83
    go_wp2
    go_ret
    exact ⟨rfl, rfl⟩
def EncPost (r : ByteArray) (c : Int) (w : World) (e : Ending) (w' : World) : Prop := e = .returned (.tuple #[.string r, .int .i64 c]) ∧ Below w.heap.size w w'
set_option maxRecDepth 100000 in
theorem specEnc_yes (s : ByteArray) (n : Nat) (w : World) (hn : s.size = 8 * n) (hn2 : n ≤ 32) :
    Calls Tryz.prog 67 #[.string s] w (EncPost (strOfNums (chkL s n)) 0 w) := by
  have HV := Lib.hid (fun (W : World) => l03Words_yes s W ⟨by omega, by omega⟩)
  have HS := Lib.hid (fun (i : Nat) (h : i + 8 ≤ s.size) (W : World) => slice_at s i h W)
  have hsz : (s.size : Int) ≤ 256 := by omega
  have HN := Lib.hid hn
  clear hn
  go_enter Tryz.func67, Tryz.ntmps67
  go_wp2_with (go_at_call 83; refine (HV.out _).mono ?_; rintro e w' ⟨rfl, rfl⟩)
  go_loopw [4, 5] (fun v j wr => ∃ (k i : Nat), k ≤ n ∧ i = 8 * k ∧ j = .int .i64 i ∧ BytesOwn wr w.heap.size v (chkL s k) ∧ Below w.heap.size w wr) (fun _ j _ => s.size - (intOf j).toNat)
  case atStart => exact ⟨0, 0, by omega, rfl, rfl, BytesOwn.made _ (Nat.le_refl _), (Below.refl _ _).alloc (Nat.le_refl _) _⟩
  case round =>
    obtain ⟨k, i, hk, hi, rfl, hown, hb⟩ := hrel
    have hz := hb.size
    have hlen := chkL_length s k
    have HNo := HN.out
    by_cases hlt : k < n
    · have hi8 : i + 8 ≤ s.size := by omega
      have hsl := fun (W : World) => HS.out i hi8 W
      have hwd : s.extract i (i + 8) = wStr (wdN s k) := by rw [← wd_wStr (by omega), hi]; rfl
      rw [hwd] at hsl
      have hil : (i : Int) < (s.size : Int) := by omega
      have hc := chkN_lt (wdN s k)
      have HK := Lib.hid (fun (W : World) => l03Check_any (wdN s k) W (wdN_lt s k))
      have HL : Hid (chkL s (k + 1) = chkL s k ++ [((chkN (wdN s k) : Nat) : Int)]) := by show _ = _; rfl
      have HI := Lib.hid hi
      clear hwd hi HNo
      generalize chkN (wdN s k) = c at *
      generalize wStr (wdN s k) = t at *
      go_wp2_with (first
        | (go_at_call 84; refine (HK.out _).mono ?_; rintro e w' ⟨rfl, rfl⟩)
        | (at_builtin; refine wpList_append_byte rfl _ _ rfl _ _ rfl hown hb hz _ _ rfl (by omega) ?_; intro v' w1 hown' hb'; clear hown hb))
      go_roundw
      case rel => exact ⟨k + 1, i + 8, by omega, by have := HI.out; omega, by go_num, by rw [HL.out]; exact hown', hb'⟩
      case measure => simp [intOf]; omega
    · obtain rfl : k = n := by omega
      have hil : (s.size : Int) ≤ (i : Int) := by omega
      have hcv := bytes_str hown
      clear hi HNo
      go_wp2
      go_ret2
      exact ⟨rfl, hb⟩
theorem specEnc_no (s : ByteArray) (w : World) (h : ¬ Whole s) :
    Calls Tryz.prog 67 #[.string s] w (EncPost ⟨#[]⟩ 1 w) := by
  have HV := Lib.hid (fun (W : World) => l03Words_no s W h)
  clear h
  go_enter Tryz.func67, Tryz.ntmps67
  go_wp2_with (go_at_call 83; refine (HV.out _).mono ?_; rintro e w' ⟨rfl, rfl⟩)
  go_ret2
  exact ⟨rfl, Below.refl _ _⟩
theorem implEnc_no (s : ByteArray) (w : World) (h : ¬ Whole s) :
    Calls Tryz.prog 28 #[.string s] w (EncPost ⟨#[]⟩ 1 w) := by
  have HV := Lib.hid (fun (W : World) => wholeWords_no s W h)
  clear h
  go_enter Tryz.func28, Tryz.ntmps28
  go_wp2_with (go_at_call 54; refine (HV.out _).mono ?_; rintro e w' ⟨rfl, rfl⟩)
  go_ret2
  exact ⟨rfl, Below.refl _ _⟩
theorem set_at_end' (l : List Int) (n k : Nat) (b : Int) (h : l.length = k) (hk : k < n) : (l ++ List.replicate (n - k) 0).set k b = (l ++ [b]) ++ List.replicate (n - (k + 1)) 0 := by
  rw [List.set_append_right _ _ (by omega), h, Nat.sub_self, show n - k = (n - (k + 1)) + 1 by omega, List.replicate_succ, List.set_cons_zero, List.append_assoc]; rfl
theorem implEnc_yes (s : ByteArray) (n : Nat) (w : World) (hn : s.size = 8 * n) (hn2 : n ≤ 32) (hT : MaskTab w) :
    Calls Tryz.prog 28 #[.string s] w (EncPost (strOfNums (chkL s n)) 0 w) := by
  have HT := Lib.hid hT
  have HV := Lib.hid (fun (W : World) => wholeWords_yes s W ⟨by omega, by omega⟩)
  have HW := Lib.hid (fun (k : Nat) (W : World) (h : 8 * k + 8 ≤ s.size) => wordOf_any s k W h (by omega))
  have hsz : (s.size : Int) ≤ 256 := by omega
  have hdv : (s.size : Int) / 8 = (n : Int) := by omega
  have HN := Lib.hid hn
  clear hn hT
  go_enter Tryz.func28, Tryz.ntmps28
  go_wp2_with (first
    | (go_at_call 54; refine (HV.out _).mono ?_; rintro e w' ⟨rfl, rfl⟩)
    | (refine wpList_make_bytes rfl _ _ rfl _ _ _ _ n rfl rfl (by first | exact hdv | rfl) (by first | exact hdv | rfl) (by omega) (Below.refl _ _) (Nat.le_refl _) ?_; intro w1 hown hb))
  clear hdv
  go_loopw [15] (fun j wr => ∃ k : Nat, k ≤ n ∧ j = .int .i64 k ∧ BytesOwn wr w.heap.size (.slice (some ⟨w.heap.size, 0, none⟩) n n) (chkL s k ++ List.replicate (n - k) 0) ∧ Below w.heap.size w wr ∧ w.heap.size < wr.heap.size) (fun j _ => n - (intOf j).toNat)
  case atStart => exact ⟨0, by omega, rfl, by simpa [chkL] using hown, hb, (World.ownsRow.lt hown _ rfl).2⟩
  case round =>
    clear hown hb
    obtain ⟨k, hk, rfl, hown, hb, hzb⟩ := hrel
    have hz := hb.size
    have hclen := chkL_length s k
    have HNo := HN.out
    have hlen : (chkL s k ++ List.replicate (n - k) 0).length = n := by simp [hclen]; omega
    by_cases hlt : k < n
    · have h8 : 8 * k + 8 ≤ s.size := by omega
      have hwd := wd_wStr h8
      have HW1 := Lib.hid (fun (W : World) => HW.out k W h8)
      rw [hwd] at HW1
      have hc := chkN_lt (wdN s k)
      have HK := Lib.hid (fun (W : World) (hT : MaskTab W) => implCheck_yes (wdN s k) W (wdN_lt s k) hT)
      have HL : Hid (chkL s (k + 1) = chkL s k ++ [((chkN (wdN s k) : Nat) : Int)]) := by show _ = _; rfl
      have hse := set_at_end' (chkL s k) n k ((chkN (wdN s k) : Nat) : Int) hclen hlt
      have HSE := Lib.hid hse
      clear hwd hse HNo
      have hTr := HT.out.below hb (Nat.le_refl _)
      generalize chkN (wdN s k) = c at *
      generalize wStr (wdN s k) = t at *
      have hki : (k : Int) < (n : Int) := by omega
      have hci : (c : Int) ≤ 255 := by omega
      have hni : (n : Int) ≤ 32 := by omega
      go_wp2_with fail
      refine (HW1.out _).mono ?_
      rintro e w' ⟨rfl, rfl⟩
      go_wp2_with fail
      refine (HK.out _ hTr).mono ?_
      rintro e w2 ⟨rfl, hb2⟩
      have hb3 := hb.trans (hb2.mono hz)
      have hown3 : BytesOwn w2 w.heap.size (.slice (some ⟨w.heap.size, 0, none⟩) n n) (chkL s k ++ List.replicate (n - k) 0) := hown.later hb2 (fun g hg => by have e : w.heap.size = g := Option.some.inj hg; omega)
      have hcell := hown3.cell (j := k) hlen hlt
      have hfree := hown3.free hlen k
      have hnext := hown3.stored hlen k (c : Int)
      rw [HSE.out] at hnext
      have hbn := hb3.setCell (p := ⟨w.heap.size, k, none⟩) (Nat.le_refl _) (.int .u8 (c : Int))
      have hzn := hb2.size
      clear hown hb hown3 hb3 hb2
      go_wp2
      go_roundw
      case rel => exact ⟨k + 1, by omega, by go_num, by rw [HL.out]; exact hnext, hbn, by simp; omega⟩
      case measure => simp [intOf]; omega
    · obtain rfl : k = n := by omega
      have hcv := bytes_str hown
      rw [Nat.sub_self, List.replicate_zero, List.append_nil] at hcv
      clear HNo
      go_wp2
      go_ret2
      exact ⟨rfl, hb⟩
end Go.Proofs.YthenilomgbnpeaaGreatDoor
