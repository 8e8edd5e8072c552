/- The proof's own lemmas, part 17: UvN CxG CxH CxW. -/
import Derived.Test.YtainlanblpccjaaMg15
import Derived.WalkKit
import Derived.Test.YtainlanblpccjaaProg
import Derived.Test.YtainlanblpccjaaMg14
import Derived.Test.YtainlanblpccjaaMg13
import Derived.Test.YtainlanblpccjaaShelf
import Derived.Deep.RegionLaw
import Derived.Shelf.Strings.FuncGrows
import Derived.Laws.RangeString
import Derived.Laws.RangeAny
import Derived.StillTailTactics
import Derived.Deep.RegionHeld3
import Derived.Deep.Cut
import Derived.Deep.DeepCutAuto
import Derived.Lib.Repeat
/- Plain facts on the variable-length encoding of natural numbers: groups of seven bits, the least significant group first. -/
namespace Go.Proofs.Ytainlanblpccjaa
open Go.RowKit

/-- The encoding's bytes. -/
def uv (n : Nat) : List Int := if n < 128 then [(n : Int)] else ((n % 128 + 128 : Nat) : Int) :: uv (n / 128)
termination_by n
decreasing_by omega

theorem uv_small {n : Nat} (h : n < 128) : uv n = [(n : Int)] := by rw [uv, if_pos h]
theorem uv_big {n : Nat} (h : ¬ n < 128) : uv n = ((n % 128 + 128 : Nat) : Int) :: uv (n / 128) := by rw [uv, if_neg h]

theorem uv_room {x k : Nat} (h : x * 128 ^ k < 2 ^ 63) (hx : 128 ≤ x) : k < 8 ∧ x / 128 * 128 ^ (k + 1) < 2 ^ 63 := by
  have h1 : 128 ^ (k + 1) ≤ x * 128 ^ k := by rw [Nat.pow_succ, Nat.mul_comm]; exact Nat.mul_le_mul_right _ hx
  refine ⟨?_, ?_⟩
  · have h2 : 128 ^ (k + 1) < 128 ^ 9 := by
      have : (128 : Nat) ^ 9 = 2 ^ 63 := by decide
      omega
    have := (Nat.pow_lt_pow_iff_right (by decide : 1 < 128)).1 h2
    omega
  · have : x / 128 * 128 ^ (k + 1) ≤ x * 128 ^ k := by
      rw [Nat.pow_succ, Nat.mul_comm (128 ^ k), ← Nat.mul_assoc]
      exact Nat.mul_le_mul_right _ (Nat.div_mul_le_self x 128)
    omega
theorem uv_length_le : ∀ (f x k : Nat), k + f = 9 → k ≤ 8 → x * 128 ^ k < 2 ^ 63 → (uv x).length + k ≤ 9
  | 0, x, k, hf, hk, h => by omega
  | f + 1, x, k, hf, hk, h => by
    by_cases hx : x < 128
    · rw [uv_small hx]; simp; omega
    · have hr := uv_room h (by omega)
      rw [uv_big hx]
      have := uv_length_le f (x / 128) (k + 1) (by omega) (by omega) hr.2
      simp; omega
theorem uv_len {n : Nat} (h : n < 2 ^ 63) : (uv n).length ≤ 9 := by
  have := uv_length_le 9 n 0 rfl (by omega) (by simpa using h)
  omega
theorem uv_pos (n : Nat) : 1 ≤ (uv n).length := by
  by_cases hx : n < 128
  · rw [uv_small hx]; simp
  · rw [uv_big hx]; simp

theorem or128 {a : Nat} (h : a < 128) : a ||| 128 = a + 128 := by
  have := Nat.two_pow_add_eq_or_of_lt (i := 7) h 1
  rw [show 2 ^ 7 * 1 = 128 from rfl, Nat.or_comm] at this
  omega
theorem or128' (x : Nat) : x % 256 ||| 128 = x % 128 + 128 := by
  by_cases h : x % 256 < 128
  · rw [or128 h]; omega
  · have e : x % 256 = x % 128 ||| 128 := by rw [or128 (by omega)]; omega
    rw [e, Nat.or_assoc, Nat.or_self, or128 (by omega)]
theorem enc_spec (x : Nat) : bits .or .i64 (bits .and .i64 (x : Int) 127) 128 % 256 = ((x % 128 + 128 : Nat) : Int) := by
  rw [i64_and127]
  have := i64_or_nat (x % 128) 128 (by omega) (by omega)
  rw [or128 (by omega)] at this
  rw [show (x : Int) % 128 = ((x % 128 : Nat) : Int) by omega, show (128 : Int) = ((128 : Nat) : Int) by rfl, this]
  omega
theorem enc_impl (x : Nat) : bits .or .u8 ((x : Int) % 256) 128 = ((x % 128 + 128 : Nat) : Int) := by
  have := u8_or_nat (x % 256) 128 (by omega) (by omega)
  rw [or128'] at this
  rw [← this]; rfl
theorem enc_last {x : Nat} (h : x < 128) : (x : Int) % 256 = x := by omega
theorem uv_bytes : ∀ (f n : Nat), n < 128 ^ f → ∀ x ∈ uv n, 0 ≤ x ∧ x < 256
  | 0, n, h, x, hx => by
    have : n < 128 := by simp at h; omega
    rw [uv_small this] at hx; simp at hx; omega
  | f + 1, n, h, x, hx => by
    by_cases hn : n < 128
    · rw [uv_small hn] at hx; simp at hx; omega
    · rw [uv_big hn] at hx
      rcases List.mem_cons.1 hx with rfl | hx
      · omega
      · exact uv_bytes f (n / 128) (by rw [Nat.div_lt_iff_lt_mul (by decide)]; rw [Nat.pow_succ] at h; exact h) x hx
/-- The encoding with zeros behind it, nine bytes. -/
def pad9 (l : List Int) : List Int := l ++ List.replicate (9 - l.length) 0
theorem pad9_length {l : List Int} (h : l.length ≤ 9) : (pad9 l).length = 9 := by simp [pad9]; omega
theorem pad9_bytes {l : List Int} (h : ∀ x ∈ l, 0 ≤ x ∧ x < 256) : ∀ x ∈ pad9 l, 0 ≤ x ∧ x < 256 := by
  intro x hx
  rcases List.mem_append.1 hx with hx | hx
  · exact h x hx
  · have := List.eq_of_mem_replicate hx; omega
/-- What the first k bytes of a string stand for. -/
def acc (s : ByteArray) : Nat → Nat
  | 0 => 0
  | k + 1 => acc s k + byteAt s k % 128 * 128 ^ k
theorem acc_lt (s : ByteArray) : ∀ k, acc s k < 128 ^ k
  | 0 => by simp [acc]
  | k + 1 => by
    have h := acc_lt s k
    have h2 : byteAt s k % 128 * 128 ^ k ≤ 127 * 128 ^ k := Nat.mul_le_mul_right _ (by omega)
    rw [acc, Nat.pow_succ]
    omega
theorem and127_u8 (b : Nat) (h : b ≤ 255) : bits .and .u8 (b : Int) 127 = ((b % 128 : Nat) : Int) := by
  have := u8_and_nat b 127 (by omega) (by omega)
  rw [show (127 : Nat) = 2 ^ 7 - 1 from rfl, Nat.and_two_pow_sub_one_eq_mod] at this
  exact this
theorem acc_step (s : ByteArray) (k b : Nat) (hk : k < 9) (hb : b = byteAt s k) :
    bits .or .i64 ((acc s k : Nat) : Int) (wrap64 (wrap64 (bits .and .u8 (b : Int) 127) * 2 ^ (7 * k))) = ((acc s (k + 1) : Nat) : Int) := by
  have hle : b ≤ 255 := by rw [hb]; exact byteAt_le s k
  have h := acc_lt s k
  have e : (2 : Nat) ^ (7 * k) = 128 ^ k := by rw [Nat.pow_mul]
  have h9 : 128 ^ (k + 1) ≤ 128 ^ 9 := Nat.pow_le_pow_right (by decide) (by omega)
  have e9 : (128 : Nat) ^ 9 = 2 ^ 63 := by decide
  rw [Nat.pow_succ] at h9
  have h2 : b % 128 * 128 ^ k ≤ 127 * 128 ^ k := Nat.mul_le_mul_right _ (by omega)
  rw [and127_u8 b hle, IntWalk.wrap64_in ((b % 128 : Nat) : Int) (by omega)]
  have ec : ((b % 128 : Nat) : Int) * 2 ^ (7 * k) = ((b % 128 * 128 ^ k : Nat) : Int) := by
    rw [Int.natCast_mul, ← e, Int.natCast_pow]; rfl
  rw [ec, IntWalk.wrap64_in ((b % 128 * 128 ^ k : Nat) : Int) (by omega), i64_or_nat _ _ (by omega) (by omega), acc, ← hb, Nat.or_comm, ← e]
  have := Nat.two_pow_add_eq_or_of_lt (i := 7 * k) (b := acc s k) (by rw [e]; exact h) (b % 128)
  rw [Nat.mul_comm (b % 128), ← this, Nat.add_comm]
/-- The first k bytes of a string, as integers. -/
def takeB (s : ByteArray) (k : Nat) : List Int := (s.data.toList.take k).map fun b => (b.toNat : Int)
theorem takeB_length {s : ByteArray} {k : Nat} (h : k ≤ s.size) : (takeB s k).length = k := by
  unfold takeB; simp; omega
theorem takeB_succ {s : ByteArray} {k : Nat} (h : k < s.size) : takeB s (k + 1) = takeB s k ++ [(byteAt s k : Int)] := by
  have h' : k < s.data.toList.length := by simpa using h
  unfold takeB byteAt
  rw [List.take_succ_eq_append_getElem h', List.map_append, List.getD_eq_getElem?_getD, List.getElem?_eq_getElem h']
  rfl
theorem takeB_bytes (s : ByteArray) (k : Nat) : ∀ x ∈ takeB s k, 0 ≤ x ∧ x < 256 := by
  intro x hx
  obtain ⟨b, _, rfl⟩ := List.mem_map.1 hx
  have := UInt8.toNat_lt b
  omega
theorem takeB_mem {s : ByteArray} {x : Int} : ∀ {k : Nat}, k ≤ s.size → x ∈ takeB s k → ∃ j, j < k ∧ x = byteAt s j
  | 0, _, h => by simp [takeB] at h
  | k + 1, hk, h => by
    rw [takeB_succ (by omega)] at h
    rcases List.mem_append.1 h with h | h
    · obtain ⟨j, h1, h2⟩ := takeB_mem (by omega) h
      exact ⟨j, by omega, h2⟩
    · exact ⟨k, by omega, by simpa using h⟩
theorem takeB_str (s : ByteArray) (k : Nat) : strOfNums (takeB s k) = s.extract 0 k := by
  apply ByteArray.ext
  unfold strOfNums takeB
  rw [List.map_map, ByteArray.data_extract]
  apply Array.toList_inj.1
  rw [List.toList_toArray, Array.toList_extract]
  simp [Function.comp_def]
theorem strOfNums_inj {l l' : List Int} (h : ∀ x ∈ l, 0 ≤ x ∧ x < 256) (h' : ∀ x ∈ l', 0 ≤ x ∧ x < 256) : strOfNums l = strOfNums l' ↔ l = l' := by
  constructor
  · intro e
    have e2 := congrArg (fun b => b.data.toList.map fun b => (b.toNat : Int)) e
    simp only [strOfNums_data, List.map_map] at e2
    have key : ∀ {l : List Int}, (∀ x ∈ l, 0 ≤ x ∧ x < 256) → l.map ((fun b : UInt8 => (b.toNat : Int)) ∘ fun n => UInt8.ofNat n.toNat) = l := by
      intro l hl
      conv => rhs; rw [← List.map_id l]
      apply List.map_congr_left
      intro x hx
      have := hl x hx
      simp only [Function.comp_apply, UInt8.toNat_ofNat', id]
      omega
    rwa [key h, key h'] at e2
  · rintro rfl; rfl

/-- Two encodings that are the same with zeros behind them are the same: only the last byte is below 128. -/
def Enc (l : List Int) : Prop := ∃ i x, l = i ++ [x] ∧ x < 128 ∧ ∀ y ∈ i, 128 ≤ y
theorem uv_enc : ∀ (f n : Nat), n < 128 ^ f → Enc (uv n)
  | 0, n, h => ⟨[], n, by rw [uv_small (by simp at h; omega)]; rfl, by simp at h; omega, by simp⟩
  | f + 1, n, h => by
    by_cases hn : n < 128
    · exact ⟨[], n, by rw [uv_small hn]; rfl, by omega, by simp⟩
    · obtain ⟨i, x, h1, h2, h3⟩ := uv_enc f (n / 128) (by rw [Nat.div_lt_iff_lt_mul (by decide)]; rw [Nat.pow_succ] at h; exact h)
      refine ⟨((n % 128 + 128 : Nat) : Int) :: i, x, by rw [uv_big hn, h1]; rfl, h2, ?_⟩
      intro y hy
      rcases List.mem_cons.1 hy with rfl | hy
      · omega
      · exact h3 y hy
theorem enc_pad {i j a b : List Int} {x y : Int} (h : i ++ x :: a = j ++ y :: b) (hx : x < 128) (hy : y < 128) (hi : ∀ z ∈ i, 128 ≤ z) (hj : ∀ z ∈ j, 128 ≤ z) : i = j ∧ x = y := by
  induction i generalizing j with
  | nil =>
    match j with
    | [] => simp at h; exact ⟨rfl, h.1⟩
    | z :: j => simp at h; have := hj z (by simp); omega
  | cons c i ih =>
    match j with
    | [] => simp at h; have := hi c (by simp); omega
    | z :: j =>
      simp at h
      obtain ⟨e1, e2⟩ := ih h.2 (fun w hw => hi w (by simp [hw])) (fun w hw => hj w (by simp [hw]))
      exact ⟨by rw [h.1, e1], e2⟩
theorem pad9_enc {l l' : List Int} (h : Enc l) (h' : Enc l') : pad9 l = pad9 l' ↔ l = l' := by
  constructor
  · intro e
    obtain ⟨i, x, rfl, hx, hi⟩ := h
    obtain ⟨j, y, rfl, hy, hj⟩ := h'
    unfold pad9 at e
    rw [List.append_assoc, List.append_assoc] at e
    obtain ⟨rfl, rfl⟩ := enc_pad e hx hy hi hj
    rfl
  · rintro rfl; rfl

theorem takeB_enc {s : ByteArray} {k : Nat} (hlt : k < s.size) (h : byteAt s k < 128) (hge : ∀ j, j < k → 128 ≤ byteAt s j) : Enc (takeB s (k + 1)) := by
  refine ⟨takeB s k, byteAt s k, takeB_succ hlt, by omega, fun y hy => ?_⟩
  obtain ⟨j, h1, rfl⟩ := takeB_mem (by omega) hy
  have := hge j h1
  omega

/-- How many bytes the decoder consumes from byte i on, f bytes at most; 0: the text is refused. -/
def decF (s : ByteArray) : Nat → Nat → Nat
  | 0, _ => 0
  | f + 1, i => if i < s.size ∧ i < 9 then (if byteAt s i < 128 then (if uv (acc s (i + 1)) = takeB s (i + 1) then i + 1 else 0) else decF s f (i + 1)) else 0
def decUv (s : ByteArray) : Nat := decF s 10 0
theorem decF_end {s : ByteArray} {f i : Nat} (h : ¬ (i < s.size ∧ i < 9)) : decF s (f + 1) i = 0 := by rw [decF, if_neg h]
theorem decF_next {s : ByteArray} {f i : Nat} (h1 : i < s.size) (h2 : i < 9) (h3 : ¬ byteAt s i < 128) : decF s (f + 1) i = decF s f (i + 1) := by rw [decF, if_pos ⟨h1, h2⟩, if_neg h3]
theorem decF_yes {s : ByteArray} {f i : Nat} (h1 : i < s.size) (h2 : i < 9) (h3 : byteAt s i < 128) (h4 : uv (acc s (i + 1)) = takeB s (i + 1)) : decF s (f + 1) i = i + 1 := by rw [decF, if_pos ⟨h1, h2⟩, if_pos h3, if_pos h4]
theorem decF_no {s : ByteArray} {f i : Nat} (h1 : i < s.size) (h2 : i < 9) (h3 : byteAt s i < 128) (h4 : ¬ uv (acc s (i + 1)) = takeB s (i + 1)) : decF s (f + 1) i = 0 := by rw [decF, if_pos ⟨h1, h2⟩, if_pos h3, if_neg h4]
theorem decF_le (s : ByteArray) : ∀ f i, decF s f i ≤ s.size ∧ decF s f i ≤ 9
  | 0, i => by simp [decF]
  | f + 1, i => by
    unfold decF
    split
    · split
      · split
        · omega
        · omega
      · exact decF_le s f (i + 1)
    · omega
theorem decUv_le (s : ByteArray) : decUv s ≤ s.size ∧ decUv s ≤ 9 := decF_le s 10 0
theorem acc_lt63 (s : ByteArray) {k : Nat} (h : k ≤ 9) : acc s k < 2 ^ 63 := by
  have h1 := acc_lt s k
  have h2 : (128 : Nat) ^ k ≤ 128 ^ 9 := Nat.pow_le_pow_right (by decide) h
  rw [show (128 : Nat) ^ 9 = 2 ^ 63 by decide] at h2
  omega
end Go.Proofs.Ytainlanblpccjaa
/- Bit strings; which string is one, in the model and in the program: the contracts. -/
namespace Go.Proofs.Ytainlanblpccjaa
open Go.RowKit
set_option linter.unusedVariables false
set_option linter.unusedSimpArgs false

/-- Byte k is one of the two digits. -/
def BitAt (s : ByteArray) (k : Nat) : Prop := byteAt s k = 48 ∨ byteAt s k = 49
def BitsOk (s : ByteArray) : Prop := ∀ k, k < s.size → BitAt s k
def prgC (M : Ce) (s : ByteArray) : Ce := ⟨mapI (fun i y => if byteAt s i = 48 then 255 else y) M.c⟩
def PrgIs (M : Ce) (r b : Bool) (s : ByteArray) (G : Ce) (c : Int) : Prop :=
  (¬ (r = true ∧ b = true) ∧ G = Ce.zero ∧ c = 1) ∨ ((r = true ∧ b = true) ∧ s.size ≠ M.c.length ∧ G = Ce.zero ∧ c = 2) ∨ ((r = true ∧ b = true) ∧ s.size = M.c.length ∧ G = prgC M s ∧ c = 0)
theorem prgIs (M : Ce) (r b : Bool) (s : ByteArray) : ∃ G c, PrgIs M r b s G c := by
  by_cases g : r = true ∧ b = true
  · by_cases e : s.size = M.c.length
    · exact ⟨_, _, .inr (.inr ⟨g, e, rfl, rfl⟩)⟩
    · exact ⟨_, _, .inr (.inl ⟨g, e, rfl, rfl⟩)⟩
  · exact ⟨_, _, .inl ⟨g, rfl, rfl⟩⟩
theorem prgIs_sz {M : Ce} {r b : Bool} {s : ByteArray} {G : Ce} {c : Int} (h : PrgIs M r b s G c) (z : CeSz M) : CeSz G := by
  unfold CeSz at z ⊢
  rcases h with ⟨_, rfl, _⟩ | ⟨_, _, rfl, _⟩ | ⟨_, _, rfl, _⟩
  · simp [Ce.zero]
  · simp [Ce.zero]
  · unfold prgC; rw [mapI_length]; exact z
/-- A rune that is neither of the two digits. -/
def noBit (R : Nat) : Bool := decide (R ≠ 48 ∧ R ≠ 49)
theorem idx_bits (s : ByteArray) : ∀ f pos, s.size ≤ pos + f → ((0 ≤ Lib.idxFuncFrom noBit true s f pos) ↔ ∃ k, pos ≤ k ∧ k < s.size ∧ ¬ BitAt s k) := by
  intro f
  induction f with
  | zero =>
    intro pos h
    simp only [Lib.idxFuncFrom]
    exact ⟨fun e => by omega, fun ⟨k, h1, h2, _⟩ => by omega⟩
  | succ f ih =>
    intro pos h
    by_cases hlt : pos < s.size
    · simp only [Lib.idxFuncFrom, hlt, if_true]
      have hb := byteAt_eq hlt
      by_cases ha : (s[pos]'hlt).toNat < 128
      · rw [decode_ascii s pos hlt ha]
        simp only
        rw [hb]
        by_cases hbit : BitAt s pos
        · have hn : noBit (byteAt s pos) = false := by unfold noBit; unfold BitAt at hbit; simp; omega
          rw [hn]
          simp only [Bool.false_eq_true, if_false]
          rw [ih (pos + 1) (by omega)]
          exact ⟨fun ⟨k, h1, h2, h3⟩ => ⟨k, by omega, h2, h3⟩, fun ⟨k, h1, h2, h3⟩ => ⟨k, by
            rcases Nat.lt_or_ge pos k with g | g
            · omega
            · exact absurd (by obtain rfl : k = pos := by omega
                               exact hbit) h3, h2, h3⟩⟩
        · have hn : noBit (byteAt s pos) = true := by unfold noBit; unfold BitAt at hbit; simp; omega
          rw [hn]
          simp only [if_true]
          exact ⟨fun _ => ⟨pos, Nat.le_refl _, hlt, hbit⟩, fun _ => by omega⟩
      · have hd := decode_high s pos hlt (by omega)
        have hn : noBit (Utf8.decode s pos).1 = true := by unfold noBit; simp; omega
        rw [hn]
        simp only [if_true]
        exact ⟨fun _ => ⟨pos, Nat.le_refl _, hlt, by unfold BitAt; rw [← hb]; omega⟩, fun _ => by omega⟩
    · rw [Lib.idxFuncFrom_end _ _ _ _ _ hlt]
      exact ⟨fun e => by omega, fun ⟨k, h1, h2, _⟩ => by omega⟩
theorem idx_bits0 {s : ByteArray} {b : Bool} (hb : b = true ↔ BitsOk s) : decide (0 ≤ Lib.idxFunc noBit true s) = !b := by
  have h := idx_bits s s.size 0 (by omega)
  rw [Bool.eq_iff_iff, decide_eq_true_iff]
  show 0 ≤ Lib.idxFuncFrom noBit true s s.size 0 ↔ _
  rw [h]
  constructor
  · rintro ⟨k, _, h2, h3⟩
    cases b with
    | true => exact absurd (hb.1 rfl k h2) h3
    | false => rfl
  · intro e
    have hf : b = false := by simpa using e
    rcases Classical.em (∃ k, 0 ≤ k ∧ k < s.size ∧ ¬ BitAt s k) with g | g
    · exact g
    · have : b = true := hb.2 (fun k hk => by
        rcases Classical.em (BitAt s k) with q | q
        · exact q
        · exact absurd ⟨k, Nat.zero_le _, hk, q⟩ g)
      rw [hf] at this; cases this
end Go.Proofs.Ytainlanblpccjaa
/- ProgramCells, in the model and in the program: the contracts. -/
namespace Go.Proofs.Ytainlanblpccjaa
open Go.RowKit
set_option linter.unusedVariables false
set_option linter.unusedSimpArgs false

def CePost (G : Ce) (c : Int) (w : World) (e : Ending) (w' : World) : Prop := ∃ u, e = .returned (.tuple #[u, .int .i64 c]) ∧ CeOwn w' w.heap.size w'.heap.size u G ∧ Below w.heap.size w w'
theorem ce_end {w' : World} {B lo : Nat} {A : Option Addr} {n c k : Nat} {v : Value} {L : List Int} (h : IntsOwn w' lo (.slice A n c) L) (hg : k < lo) (hB : B ≤ lo) :
    CeOwn (w'.setCell ⟨k, 0, none⟩ v) B (w'.setCell ⟨k, 0, none⟩ v).heap.size (.agg #[.slice A n c]) ⟨L⟩ :=
  ⟨_, rfl, ⟨(h.sames fun j e => by
    have := (h.blockOf e).1
    rw [Below.heap_setCell _ ⟨_, _, none⟩ _ j (by simp; omega)]).low hB, fun j e => by have := (h.blockOf e).2; simpa using this⟩⟩
theorem own_someC {w : World} {B n c : Nat} {A : Option Addr} {L : List Int} (h : IntsOwn w B (.slice A n c) L) (h0 : 0 < L.length) : ∃ q, A = some ⟨q, 0, none⟩ := by
  rcases h.shape with ⟨_, rfl⟩ | ⟨g, cap, e, _⟩
  · simp at h0
  · injection e with e _ _; exact ⟨g, e⟩
end Go.Proofs.Ytainlanblpccjaa
/- WipeCells, in the model and in the program: the contracts. -/
namespace Go.Proofs.Ytainlanblpccjaa
open Go.RowKit
set_option linter.unusedVariables false
set_option linter.unusedSimpArgs false

def wipE (M : Ce) (r : Bool) : Ce := bif r then ⟨List.replicate M.c.length 63⟩ else Ce.zero
theorem wipE_sz {M : Ce} {r : Bool} (z : CeSz M) : CeSz (wipE M r) := by
  unfold CeSz at z ⊢
  cases r
  · simp [wipE, Ce.zero]
  · simpa [wipE] using z
theorem wpList_append_intH {Q : Exit → Act → World → Prop} {ops : Array Oper} {rest : List Oper} {o : Oper} {a : Act} {w0 wr : World} {B : Nat} (hgd : o.guard = none) (s x : Operand)
    (ho : o.op = .call { callee := .builtin .append, args := #[s, x], argTypes := #[22, 22] })
    (v : Value) (l : List Int) (hs : a.eval s = v) (hown : IntsOwn wr B v l) (hb : Below B w0 wr) (hB : B ≤ wr.heap.size)
    (b : Int) (c : Nat) (hx : a.eval x = .slice (some ⟨wr.heap.size, 0, none⟩) 1 c) (hl : l.length + 1 ≤ 1048577)
    (h : ∀ v' w', IntsOwn w' B v' (l ++ [b]) → Below B w0 w' → wpList Try.prog ops Q rest (a.put o.dst v') w') :
    wpList Try.prog ops Q (o :: rest) a (wr.alloc (.cells #[.int .i64 b] 2)) := by
  obtain ⟨i0, hi, hz0, hz1, hz2⟩ := info_parts info64
  refine wpList_append_own _ hgd s x _ ho B 2 i0 (.int .i64 0) 1 8 Try.underlying22 hi hz0 hz1 hz2 rfl (by decide) v l.length (l.map (Value.int .i64)) hs (World.ownsRow.alloc hown _) ⟨wr.heap.size, 0, none⟩ 1 c [.int .i64 b] hx rfl ?_ ?_ (by unfold maxLen; omega) (by omega) (by simp; omega) ?_
  · intro j u hj
    match j, hj with
    | 0, hj => simp at hj; subst hj; simp [Addr.add]
  · intro u hu; simp at hu; subst hu; rfl
  · intro v' w' h1 h2 _
    refine h v' w' ?_ ?_
    · unfold IntsOwn; simpa using h1
    · exact (hb.alloc hB _).grown h2 (by simp; omega) fun k hk => (World.ownsRow.lt hown k hk).1
end Go.Proofs.Ytainlanblpccjaa
