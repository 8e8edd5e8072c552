/- A bit of a codeword inverted, in the model; valid words: the contracts. -/
import Derived.Test.YteigdjocjcjkiaaDoorProg
import Derived.Test.YteigdjocjcjkiaaDoorLfsr
import Derived.Test.YteigdjocjcjkiaaDoorWordN
import Derived.Test.YteigdjocjcjkiaaDoorEccN
import Derived.Test.YteigdjocjcjkiaaDoorBytes
import Derived.ProofKit
import Derived.Lib.Hide
import Derived.Deep.DeepMust
namespace Go.Proofs.YteigdjocjcjkiaaDoor
open Go.RowKit

theorem nums_wStr (x : Nat) : ((wStr x).data.toList.map fun b => (b.toNat : Int)) = wL x := by
  apply List.ext_getElem
  · have := wStr_size x
    simp only [List.length_map, wL_length]
    simpa using this
  · intro k h1 h2
    have h2' : k < 8 := by rw [wL_length] at h2; exact h2
    have e1 := wStr_at x h2'
    have e2 := wL_at x h2'
    rw [List.getD_eq_getElem?_getD, List.getElem?_eq_getElem h2] at e2
    simp only [Option.getD_some] at e2
    rw [e2, ← e1]
    unfold byteAt
    rw [List.getD_eq_getElem?_getD, List.getElem?_eq_getElem (by simpa using h1)]
    simp
def FlipPost (X b : Nat) (w : World) (e : Ending) (w' : World) : Prop := e = .returned (.tuple #[.string (wStr (lo (X ^^^ 2 ^ b))), .int .i64 (hi (X ^^^ 2 ^ b) : Nat)]) ∧ Below w.heap.size w w'
theorem l03Flip_high (X b : Nat) (w : World) (hX : X < 2 ^ 72) (hb : 64 ≤ b) (hb2 : b < 72) :
    Calls Tryd.prog 25 #[.string (wStr (lo X)), .int .i64 (hi X : Nat), .int .i64 b] w (FlipPost X b w) := by
  have hI : (64 : Int) ≤ (b : Int) := by omega
  have hI2 : (b : Int) < 72 := by omega
  obtain ⟨h1, h2⟩ := flip_hi hX hb hb2
  have hc := hi_lt hX
  have hp : (2 : Nat) ^ (b - 64) < 2 ^ 8 := Nat.pow_lt_pow_right (by decide) (by omega)
  have HX : Hid (bits .xor .i64 (hi X : Nat) (wrap64 (2 ^ (b - 64))) = ((hi (X ^^^ 2 ^ b) : Nat) : Int)) := by
    show _ = _
    have e : ((2 : Int) ^ (b - 64)) = (((2 : Nat) ^ (b - 64) : Nat) : Int) := by rw [Int.natCast_pow]; rfl
    rw [h2, e]
    generalize (2 : Nat) ^ (b - 64) = p at *
    rw [IntWalk.wrap64_in _ (by omega), i64_xor_nat _ _ (by omega) (by omega)]
  unfold FlipPost
  rw [h1]
  clear h1 h2 hp
  go_enter Tryd.func25, Tryd.ntmps25
  go_wp2
  go_ret2
  exact ⟨by rw [HX.out]; rfl, Below.refl _ _⟩
theorem l03Flip_low (X b : Nat) (w : World) (hb : b < 64) :
    Calls Tryd.prog 25 #[.string (wStr (lo X)), .int .i64 (hi X : Nat), .int .i64 b] w (FlipPost X b w) := by
  have hI : (b : Int) < 64 := by omega
  obtain ⟨h1, h2⟩ := flip_lo X hb
  have hsz := wStr_size (lo X)
  obtain ⟨s, hs⟩ : ∃ s, s = wStr (lo X) := ⟨_, rfl⟩
  have hn := nums_wStr (lo X)
  unfold FlipPost
  rw [h1, h2]
  rw [← hs] at hsz hn ⊢
  have hp : (2 : Nat) ^ (b % 8) < 2 ^ 8 := Nat.pow_lt_pow_right (by decide) (by omega)
  have hI2 : (b : Int) / 8 < (s.size : Int) := by omega
  obtain ⟨y, hy⟩ : ∃ y, y = lo X / 256 ^ (b / 8) % 256 := ⟨_, rfl⟩
  have HX : Hid (bits .xor .u8 (y : Int) (2 ^ (b % 8) % 256) = ((y ^^^ 2 ^ (b % 8) : Nat) : Int)) := by
    show _ = _
    have e : ((2 : Int) ^ (b % 8)) = (((2 : Nat) ^ (b % 8) : Nat) : Int) := by rw [Int.natCast_pow]; rfl
    have hyl : y < 256 := by omega
    rw [e]
    generalize (2 : Nat) ^ (b % 8) = p at *
    rw [show (p : Int) % 256 = (p : Int) by omega, u8_xor_nat _ _ (by omega) (by omega)]
  have HL : Hid ((wL (lo X)).set (b / 8) ((y ^^^ 2 ^ (b % 8) : Nat) : Int) = wL (lo X ^^^ 2 ^ b)) := by show _ = _; rw [hy]; exact wL_flip (lo X) b
  have HG : Hid ((wL (lo X)).getD (b / 8) 0 = (y : Int)) := by show _ = _; rw [wL_at _ (by omega), hy]
  have HS := Lib.hid hsz
  have HN := Lib.hid hn
  clear hs hn hsz hy h1 h2 hp
  go_enter Tryd.func25, Tryd.ntmps25
  go_wp2_with (refine wpList_str_bytes rfl _ rfl s rfl (Below.refl w.heap.size w) (Nat.le_refl _) ?_; intro cap w1 hat hz1 hb1; go_must (rw [HN.out] at hat; have hlen := wL_length (lo X); have hcell := (hat (b / 8) (by omega)).1; have hfree := (hat (b / 8) (by omega)).2; rw [HG.out] at hcell; have hset := hat.set_ (k := b / 8) (by omega) ((y ^^^ 2 ^ (b % 8) : Nat) : Int); rw [HL.out] at hset; have hcv := hset.str (cap := cap); rw [show (wL (lo X ^^^ 2 ^ b)).length = s.size by rw [wL_length, HS.out]] at hcv; have hcv2 := hcv; rw [← HX.out] at hcv2; have HE := Lib.hid hcv; have hbe := hb1.setCell (p := ⟨w.heap.size, b / 8, none⟩) (Nat.le_refl _) (.int .u8 (bits .xor .u8 (y : Int) (2 ^ (b % 8) % 256))); clear hat hset hcv hlen))
  go_ret2
  exact ⟨rfl, hbe⟩
theorem l03Flip_any (X b : Nat) (w : World) (hX : X < 2 ^ 72) (hb : b < 72) :
    Calls Tryd.prog 25 #[.string (wStr (lo X)), .int .i64 (hi X : Nat), .int .i64 b] w (FlipPost X b w) := by
  by_cases h : b < 64
  · exact l03Flip_low X b w h
  · exact l03Flip_high X b w hX (by omega) hb
theorem l03Valid_yes (s : ByteArray) (c : Int) (w : World) (hs : s.size = 8) (hc : 0 ≤ c ∧ c ≤ 255) :
    Calls Tryd.prog 14 #[.string s, .int .i64 c] w fun e w' => e = .returned (.bool true) ∧ w = w' := by
  have h1 : ((s.size : Int) == 8) = true := by rw [hs]; rfl
  clear hs
  go_enter Tryd.func14, Tryd.ntmps14
  go_wp2_with (go_at_call 23; refine (l00In_yes _ _ _ _ (by omega) (by omega)).mono ?_; rintro e w' ⟨rfl, rfl⟩)
  go_ret
  exact ⟨rfl, rfl⟩
theorem l03Valid_no (s : ByteArray) (c : Int) (w : World) (h : s.size ≠ 8 ∨ c < 0 ∨ 255 < c) :
    Calls Tryd.prog 14 #[.string s, .int .i64 c] w fun e w' => e = .returned (.bool false) ∧ w = w' := by
  by_cases hs : s.size = 8
  · have h1 : ((s.size : Int) == 8) = true := by rw [hs]; rfl
    have hc : c < 0 ∨ 255 < c := by omega
    clear hs h
    go_enter Tryd.func14, Tryd.ntmps14
    go_wp2_with (go_at_call 23; refine (l00In_no _ _ _ _ hc).mono ?_; rintro e w' ⟨rfl, rfl⟩)
    go_ret
    exact ⟨rfl, rfl⟩
  · have h1 : ((s.size : Int) == 8) = false := by simp; omega
    clear hs h
    go_enter Tryd.func14, Tryd.ntmps14
    go_wp2
    go_ret
    exact ⟨rfl, rfl⟩
end Go.Proofs.YteigdjocjcjkiaaDoor
