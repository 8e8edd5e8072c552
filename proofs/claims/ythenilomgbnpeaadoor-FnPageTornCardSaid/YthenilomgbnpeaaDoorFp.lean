/- A bit of a raw page inverted, in the model and in the program: the contracts. -/
import Derived.Test.YthenilomgbnpeaaDoorProg
import Derived.Test.YthenilomgbnpeaaDoorPg
import Derived.Test.YthenilomgbnpeaaDoorBits
import Derived.Deep.DeepMust
namespace Go.Proofs.YthenilomgbnpeaaDoor
open Go.RowKit
set_option linter.unusedVariables false

def byteNums (s : ByteArray) : List Int := s.data.toList.map fun b => (b.toNat : Int)
theorem byteNums_length (s : ByteArray) : (byteNums s).length = s.size := by simp [byteNums]
theorem byteNums_get (s : ByteArray) (k : Nat) (h : k < s.size) : (byteNums s).getD k 0 = (byteAt s k : Int) := by
  have h' : k < s.data.toList.length := by simpa using h
  unfold byteNums byteAt
  rw [List.getD_eq_getElem?_getD, List.getElem?_map, List.getD_eq_getElem?_getD, List.getElem?_eq_getElem h']; rfl
/-- Bit k of a raw page inverted. -/
def flipL (raw : ByteArray) (k : Nat) : List Int := (byteNums raw).set (k / 8) ((byteAt raw (k / 8) ^^^ 2 ^ (k % 8) : Nat) : Int)
def flipP (raw : ByteArray) (k : Nat) : ByteArray := strOfNums (flipL raw k)
theorem flipP_size (raw : ByteArray) (k : Nat) : (flipP raw k).size = raw.size := by
  unfold flipP flipL; rw [strOfNums_size, List.length_set, byteNums_length]
/-- What FlipPageBit answers. -/
inductive FlipEnds (raw : ByteArray) (k : Int) : ByteArray → Int → Prop
  | invalid (h : raw.size ≠ 91) : FlipEnds raw k ⟨#[]⟩ 1
  | range (h : raw.size = 91) (h1 : ¬ (0 ≤ k ∧ k ≤ 727)) : FlipEnds raw k ⟨#[]⟩ 2
  | done (h : raw.size = 91) (n : Nat) (hn : k = n) (h1 : n ≤ 727) : FlipEnds raw k (flipP raw n) 0
theorem flipEnds (raw : ByteArray) (k : Int) : ∃ s c, FlipEnds raw k s c := by
  by_cases h : raw.size = 91
  case neg => exact ⟨_, _, .invalid h⟩
  by_cases h1 : 0 ≤ k ∧ k ≤ 727
  case neg => exact ⟨_, _, .range h h1⟩
  exact ⟨_, _, .done h k.toNat (by omega) (by omega)⟩
theorem FlipEnds.size {raw : ByteArray} {k : Int} {s : ByteArray} {c : Int} (h : FlipEnds raw k s c) : s.size ≤ 91 := by
  rcases h with h | h | ⟨h, n, rfl, h1⟩
  · exact Nat.zero_le _
  · exact Nat.zero_le _
  · rw [flipP_size]; omega
theorem flip_byte (y k : Nat) (hy : y < 256) : bits .xor .u8 (y : Int) (2 ^ (k % 8) % 256) = ((y ^^^ 2 ^ (k % 8) : Nat) : Int) := by
  have e : ((2 : Int) ^ (k % 8)) = (((2 : Nat) ^ (k % 8) : Nat) : Int) := by rw [Int.natCast_pow]; rfl
  have hp : (2 : Nat) ^ (k % 8) < 2 ^ 8 := Nat.pow_lt_pow_right (by decide) (by omega)
  rw [e]
  generalize (2 : Nat) ^ (k % 8) = q at *
  rw [show (q : Int) % 256 = (q : Int) by omega, u8_xor_nat _ _ (by omega) (by omega)]
set_option maxRecDepth 100000 in
theorem implFlipP_any (raw : ByteArray) (k : Int) (s : ByteArray) (c : Int) (w : World) (hs : raw.size ≤ 9223372036854775807) (h : FlipEnds raw k s c) :
    Calls Tryd.prog 10 #[.string raw, .int .i64 k] w (PairPost s c w) := by
  rcases h with h | ⟨h, h1⟩ | ⟨h, n, rfl, h1⟩
  · have hd : ((raw.size : Int) != 91) = true := by simp; omega
    go_enter Tryd.func10, Tryd.ntmps10
    go_wp2
    go_ret2
    exact ⟨rfl, Below.refl _ _⟩
  · have hd : ((raw.size : Int) != 91) = false := by rw [h]; rfl
    by_cases h0 : k < 0
    · clear h1
      go_enter Tryd.func10, Tryd.ntmps10
      go_wp2
      go_ret2
      exact ⟨rfl, Below.refl _ _⟩
    · have h2 : 728 ≤ k := by omega
      clear h1
      go_enter Tryd.func10, Tryd.ntmps10
      go_wp2
      go_ret2
      exact ⟨rfl, Below.refl _ _⟩
  · have hd : ((raw.size : Int) != 91) = false := by rw [h]; rfl
    have HSZ := Lib.hid h
    have hI2 : (n : Int) / 8 < (raw.size : Int) := by omega
    have hI3 : (n : Int) ≤ 727 := by omega
    have hyl := byteAt_le raw (n / 8)
    have HX := Lib.hid (flip_byte (byteAt raw (n / 8)) n (by omega))
    have HG := Lib.hid (byteNums_get raw (n / 8) (by omega))
    clear h h1
    unfold flipP flipL
    generalize hy : byteAt raw (n / 8) = y at *
    clear hy
    go_enter Tryd.func10, Tryd.ntmps10
    go_wp2_with (refine wpList_str_bytes rfl _ rfl raw rfl (Below.refl w.heap.size w) (Nat.le_refl _) ?_; intro cap w1 hat hz1 hb1; go_must (
      have hlen := byteNums_length raw
      change BytesAt w1 w.heap.size (byteNums raw) at hat
      have hcell := (hat (n / 8) (by have := HSZ.out; omega)).1
      have hfree := (hat (n / 8) (by have := HSZ.out; omega)).2
      rw [HG.out] at hcell
      have hset := (hat.set_ (k := n / 8) (by have := HSZ.out; omega) (bits .xor .u8 (y : Int) (2 ^ (n % 8) % 256))).drew
      have hcv := hset.str (cap := cap)
      rw [List.length_set, hlen] at hcv
      have HCV := Lib.hid hcv
      have HBE := Lib.hid (hb1.setCell (p := ⟨w.heap.size, n / 8, none⟩) (Nat.le_refl _) (.int .u8 (bits .xor .u8 (y : Int) (2 ^ (n % 8) % 256)))).drew
      clear hat hset hcv hlen))
    have i1 : (0 : Int) ≤ (n : Int) / 8 := by omega
    have i2 : ((n : Int) / 8).toNat = n / 8 := by omega
    have i3 : (0 : Int) ≤ (n : Int) % 8 := by omega
    have i4 : ((n : Int) % 8).toNat = n % 8 := by omega
    go_region
    have hcv := HCV.out
    go_wp2
    go_ret2
    exact ⟨by rw [HX.out]; rfl, HBE.out⟩
end Go.Proofs.YthenilomgbnpeaaDoor
