/- The proof's own lemmas, part 3: UvN Uv Draw1. -/
import Derived.Test.YthenilomgbnpeaaGreatDoorMg1
import Derived.WalkKit
import Derived.Test.YthenilomgbnpeaaGreatDoorProg
import Derived.Test.YthenilomgbnpeaaGreatDoorMg0
import Derived.ProofKit
import Derived.Lib.Hide
/- Plain facts on the variable-length encoding of natural numbers: groups of seven bits, the least significant group first. -/
namespace Go.Proofs.YthenilomgbnpeaaGreatDoor
open Go.RowKit

/-- The encoding's bytes. -/
def uv (n : Nat) : List Int := if n < 128 then [(n : Int)] else ((n % 128 + 128 : Nat) : Int) :: uv (n / 128)
termination_by n
decreasing_by omega

theorem uv_small {n : Nat} (h : n < 128) : uv n = [(n : Int)] := by rw [uv, if_pos h]
theorem uv_big {n : Nat} (h : ¬ n < 128) : uv n = ((n % 128 + 128 : Nat) : Int) :: uv (n / 128) := by rw [uv, if_neg h]

theorem uv_room {x k : Nat} (h : x * 128 ^ k < 2 ^ 63) (hx : 128 ≤ x) : k < 8 ∧ x / 128 * 128 ^ (k + 1) < 2 ^ 63 := by
  have h1 : 128 ^ (k + 1) ≤ x * 128 ^ k := by rw [Nat.pow_succ, Nat.mul_comm]; exact Nat.mul_le_mul_right _ hx
  refine ⟨?_, ?_⟩
  · have h2 : 128 ^ (k + 1) < 128 ^ 9 := by
      have : (128 : Nat) ^ 9 = 2 ^ 63 := by decide
      omega
    have := (Nat.pow_lt_pow_iff_right (by decide : 1 < 128)).1 h2
    omega
  · have : x / 128 * 128 ^ (k + 1) ≤ x * 128 ^ k := by
      rw [Nat.pow_succ, Nat.mul_comm (128 ^ k), ← Nat.mul_assoc]
      exact Nat.mul_le_mul_right _ (Nat.div_mul_le_self x 128)
    omega
theorem uv_length_le : ∀ (f x k : Nat), k + f = 9 → k ≤ 8 → x * 128 ^ k < 2 ^ 63 → (uv x).length + k ≤ 9
  | 0, x, k, hf, hk, h => by omega
  | f + 1, x, k, hf, hk, h => by
    by_cases hx : x < 128
    · rw [uv_small hx]; simp; omega
    · have hr := uv_room h (by omega)
      rw [uv_big hx]
      have := uv_length_le f (x / 128) (k + 1) (by omega) (by omega) hr.2
      simp; omega
theorem uv_len {n : Nat} (h : n < 2 ^ 63) : (uv n).length ≤ 9 := by
  have := uv_length_le 9 n 0 rfl (by omega) (by simpa using h)
  omega
theorem uv_pos (n : Nat) : 1 ≤ (uv n).length := by
  by_cases hx : n < 128
  · rw [uv_small hx]; simp
  · rw [uv_big hx]; simp

theorem or128 {a : Nat} (h : a < 128) : a ||| 128 = a + 128 := by
  have := Nat.two_pow_add_eq_or_of_lt (i := 7) h 1
  rw [show 2 ^ 7 * 1 = 128 from rfl, Nat.or_comm] at this
  omega
theorem or128' (x : Nat) : x % 256 ||| 128 = x % 128 + 128 := by
  by_cases h : x % 256 < 128
  · rw [or128 h]; omega
  · have e : x % 256 = x % 128 ||| 128 := by rw [or128 (by omega)]; omega
    rw [e, Nat.or_assoc, Nat.or_self, or128 (by omega)]
theorem enc_spec (x : Nat) : bits .or .i64 (bits .and .i64 (x : Int) 127) 128 % 256 = ((x % 128 + 128 : Nat) : Int) := by
  rw [i64_and127]
  have := i64_or_nat (x % 128) 128 (by omega) (by omega)
  rw [or128 (by omega)] at this
  rw [show (x : Int) % 128 = ((x % 128 : Nat) : Int) by omega, show (128 : Int) = ((128 : Nat) : Int) by rfl, this]
  omega
theorem enc_impl (x : Nat) : bits .or .u8 ((x : Int) % 256) 128 = ((x % 128 + 128 : Nat) : Int) := by
  have := u8_or_nat (x % 256) 128 (by omega) (by omega)
  rw [or128'] at this
  rw [← this]; rfl
theorem enc_last {x : Nat} (h : x < 128) : (x : Int) % 256 = x := by omega
theorem uv_bytes : ∀ (f n : Nat), n < 128 ^ f → ∀ x ∈ uv n, 0 ≤ x ∧ x < 256
  | 0, n, h, x, hx => by
    have : n < 128 := by simp at h; omega
    rw [uv_small this] at hx; simp at hx; omega
  | f + 1, n, h, x, hx => by
    by_cases hn : n < 128
    · rw [uv_small hn] at hx; simp at hx; omega
    · rw [uv_big hn] at hx
      rcases List.mem_cons.1 hx with rfl | hx
      · omega
      · exact uv_bytes f (n / 128) (by rw [Nat.div_lt_iff_lt_mul (by decide)]; rw [Nat.pow_succ] at h; exact h) x hx
/-- The encoding with zeros behind it, nine bytes. -/
def pad9 (l : List Int) : List Int := l ++ List.replicate (9 - l.length) 0
theorem pad9_length {l : List Int} (h : l.length ≤ 9) : (pad9 l).length = 9 := by simp [pad9]; omega
theorem pad9_bytes {l : List Int} (h : ∀ x ∈ l, 0 ≤ x ∧ x < 256) : ∀ x ∈ pad9 l, 0 ≤ x ∧ x < 256 := by
  intro x hx
  rcases List.mem_append.1 hx with hx | hx
  · exact h x hx
  · have := List.eq_of_mem_replicate hx; omega
/-- What the first k bytes of a string stand for. -/
def acc (s : ByteArray) : Nat → Nat
  | 0 => 0
  | k + 1 => acc s k + byteAt s k % 128 * 128 ^ k
theorem acc_lt (s : ByteArray) : ∀ k, acc s k < 128 ^ k
  | 0 => by simp [acc]
  | k + 1 => by
    have h := acc_lt s k
    have h2 : byteAt s k % 128 * 128 ^ k ≤ 127 * 128 ^ k := Nat.mul_le_mul_right _ (by omega)
    rw [acc, Nat.pow_succ]
    omega
theorem and127_u8 (b : Nat) (h : b ≤ 255) : bits .and .u8 (b : Int) 127 = ((b % 128 : Nat) : Int) := by
  have := u8_and_nat b 127 (by omega) (by omega)
  rw [show (127 : Nat) = 2 ^ 7 - 1 from rfl, Nat.and_two_pow_sub_one_eq_mod] at this
  exact this
theorem acc_step (s : ByteArray) (k b : Nat) (hk : k < 9) (hb : b = byteAt s k) :
    bits .or .i64 ((acc s k : Nat) : Int) (wrap64 (wrap64 (bits .and .u8 (b : Int) 127) * 2 ^ (7 * k))) = ((acc s (k + 1) : Nat) : Int) := by
  have hle : b ≤ 255 := by rw [hb]; exact byteAt_le s k
  have h := acc_lt s k
  have e : (2 : Nat) ^ (7 * k) = 128 ^ k := by rw [Nat.pow_mul]
  have h9 : 128 ^ (k + 1) ≤ 128 ^ 9 := Nat.pow_le_pow_right (by decide) (by omega)
  have e9 : (128 : Nat) ^ 9 = 2 ^ 63 := by decide
  rw [Nat.pow_succ] at h9
  have h2 : b % 128 * 128 ^ k ≤ 127 * 128 ^ k := Nat.mul_le_mul_right _ (by omega)
  rw [and127_u8 b hle, IntWalk.wrap64_in ((b % 128 : Nat) : Int) (by omega)]
  have ec : ((b % 128 : Nat) : Int) * 2 ^ (7 * k) = ((b % 128 * 128 ^ k : Nat) : Int) := by
    rw [Int.natCast_mul, ← e, Int.natCast_pow]; rfl
  rw [ec, IntWalk.wrap64_in ((b % 128 * 128 ^ k : Nat) : Int) (by omega), i64_or_nat _ _ (by omega) (by omega), acc, ← hb, Nat.or_comm, ← e]
  have := Nat.two_pow_add_eq_or_of_lt (i := 7 * k) (b := acc s k) (by rw [e]; exact h) (b % 128)
  rw [Nat.mul_comm (b % 128), ← this, Nat.add_comm]
/-- The first k bytes of a string, as integers. -/
def takeB (s : ByteArray) (k : Nat) : List Int := (s.data.toList.take k).map fun b => (b.toNat : Int)
theorem takeB_length {s : ByteArray} {k : Nat} (h : k ≤ s.size) : (takeB s k).length = k := by
  unfold takeB; simp; omega
theorem takeB_succ {s : ByteArray} {k : Nat} (h : k < s.size) : takeB s (k + 1) = takeB s k ++ [(byteAt s k : Int)] := by
  have h' : k < s.data.toList.length := by simpa using h
  unfold takeB byteAt
  rw [List.take_succ_eq_append_getElem h', List.map_append, List.getD_eq_getElem?_getD, List.getElem?_eq_getElem h']
  rfl
theorem takeB_bytes (s : ByteArray) (k : Nat) : ∀ x ∈ takeB s k, 0 ≤ x ∧ x < 256 := by
  intro x hx
  obtain ⟨b, _, rfl⟩ := List.mem_map.1 hx
  have := UInt8.toNat_lt b
  omega
theorem takeB_mem {s : ByteArray} {x : Int} : ∀ {k : Nat}, k ≤ s.size → x ∈ takeB s k → ∃ j, j < k ∧ x = byteAt s j
  | 0, _, h => by simp [takeB] at h
  | k + 1, hk, h => by
    rw [takeB_succ (by omega)] at h
    rcases List.mem_append.1 h with h | h
    · obtain ⟨j, h1, h2⟩ := takeB_mem (by omega) h
      exact ⟨j, by omega, h2⟩
    · exact ⟨k, by omega, by simpa using h⟩
theorem takeB_str (s : ByteArray) (k : Nat) : strOfNums (takeB s k) = s.extract 0 k := by
  apply ByteArray.ext
  unfold strOfNums takeB
  rw [List.map_map, ByteArray.data_extract]
  apply Array.toList_inj.1
  rw [List.toList_toArray, Array.toList_extract]
  simp [Function.comp_def]
theorem strOfNums_inj {l l' : List Int} (h : ∀ x ∈ l, 0 ≤ x ∧ x < 256) (h' : ∀ x ∈ l', 0 ≤ x ∧ x < 256) : strOfNums l = strOfNums l' ↔ l = l' := by
  constructor
  · intro e
    have e2 := congrArg (fun b => b.data.toList.map fun b => (b.toNat : Int)) e
    simp only [strOfNums_data, List.map_map] at e2
    have key : ∀ {l : List Int}, (∀ x ∈ l, 0 ≤ x ∧ x < 256) → l.map ((fun b : UInt8 => (b.toNat : Int)) ∘ fun n => UInt8.ofNat n.toNat) = l := by
      intro l hl
      conv => rhs; rw [← List.map_id l]
      apply List.map_congr_left
      intro x hx
      have := hl x hx
      simp only [Function.comp_apply, UInt8.toNat_ofNat', id]
      omega
    rwa [key h, key h'] at e2
  · rintro rfl; rfl

/-- Two encodings that are the same with zeros behind them are the same: only the last byte is below 128. -/
def Enc (l : List Int) : Prop := ∃ i x, l = i ++ [x] ∧ x < 128 ∧ ∀ y ∈ i, 128 ≤ y
theorem uv_enc : ∀ (f n : Nat), n < 128 ^ f → Enc (uv n)
  | 0, n, h => ⟨[], n, by rw [uv_small (by simp at h; omega)]; rfl, by simp at h; omega, by simp⟩
  | f + 1, n, h => by
    by_cases hn : n < 128
    · exact ⟨[], n, by rw [uv_small hn]; rfl, by omega, by simp⟩
    · obtain ⟨i, x, h1, h2, h3⟩ := uv_enc f (n / 128) (by rw [Nat.div_lt_iff_lt_mul (by decide)]; rw [Nat.pow_succ] at h; exact h)
      refine ⟨((n % 128 + 128 : Nat) : Int) :: i, x, by rw [uv_big hn, h1]; rfl, h2, ?_⟩
      intro y hy
      rcases List.mem_cons.1 hy with rfl | hy
      · omega
      · exact h3 y hy
theorem enc_pad {i j a b : List Int} {x y : Int} (h : i ++ x :: a = j ++ y :: b) (hx : x < 128) (hy : y < 128) (hi : ∀ z ∈ i, 128 ≤ z) (hj : ∀ z ∈ j, 128 ≤ z) : i = j ∧ x = y := by
  induction i generalizing j with
  | nil =>
    match j with
    | [] => simp at h; exact ⟨rfl, h.1⟩
    | z :: j => simp at h; have := hj z (by simp); omega
  | cons c i ih =>
    match j with
    | [] => simp at h; have := hi c (by simp); omega
    | z :: j =>
      simp at h
      obtain ⟨e1, e2⟩ := ih h.2 (fun w hw => hi w (by simp [hw])) (fun w hw => hj w (by simp [hw]))
      exact ⟨by rw [h.1, e1], e2⟩
theorem pad9_enc {l l' : List Int} (h : Enc l) (h' : Enc l') : pad9 l = pad9 l' ↔ l = l' := by
  constructor
  · intro e
    obtain ⟨i, x, rfl, hx, hi⟩ := h
    obtain ⟨j, y, rfl, hy, hj⟩ := h'
    unfold pad9 at e
    rw [List.append_assoc, List.append_assoc] at e
    obtain ⟨rfl, rfl⟩ := enc_pad e hx hy hi hj
    rfl
  · rintro rfl; rfl

theorem takeB_enc {s : ByteArray} {k : Nat} (hlt : k < s.size) (h : byteAt s k < 128) (hge : ∀ j, j < k → 128 ≤ byteAt s j) : Enc (takeB s (k + 1)) := by
  refine ⟨takeB s k, byteAt s k, takeB_succ hlt, by omega, fun y hy => ?_⟩
  obtain ⟨j, h1, rfl⟩ := takeB_mem (by omega) hy
  have := hge j h1
  omega

/-- How many bytes the decoder consumes from byte i on, f bytes at most; 0: the text is refused. -/
def decF (s : ByteArray) : Nat → Nat → Nat
  | 0, _ => 0
  | f + 1, i => if i < s.size ∧ i < 9 then (if byteAt s i < 128 then (if uv (acc s (i + 1)) = takeB s (i + 1) then i + 1 else 0) else decF s f (i + 1)) else 0
def decUv (s : ByteArray) : Nat := decF s 10 0
theorem decF_end {s : ByteArray} {f i : Nat} (h : ¬ (i < s.size ∧ i < 9)) : decF s (f + 1) i = 0 := by rw [decF, if_neg h]
theorem decF_next {s : ByteArray} {f i : Nat} (h1 : i < s.size) (h2 : i < 9) (h3 : ¬ byteAt s i < 128) : decF s (f + 1) i = decF s f (i + 1) := by rw [decF, if_pos ⟨h1, h2⟩, if_neg h3]
theorem decF_yes {s : ByteArray} {f i : Nat} (h1 : i < s.size) (h2 : i < 9) (h3 : byteAt s i < 128) (h4 : uv (acc s (i + 1)) = takeB s (i + 1)) : decF s (f + 1) i = i + 1 := by rw [decF, if_pos ⟨h1, h2⟩, if_pos h3, if_pos h4]
theorem decF_no {s : ByteArray} {f i : Nat} (h1 : i < s.size) (h2 : i < 9) (h3 : byteAt s i < 128) (h4 : ¬ uv (acc s (i + 1)) = takeB s (i + 1)) : decF s (f + 1) i = 0 := by rw [decF, if_pos ⟨h1, h2⟩, if_pos h3, if_neg h4]
theorem decF_le (s : ByteArray) : ∀ f i, decF s f i ≤ s.size ∧ decF s f i ≤ 9
  | 0, i => by simp [decF]
  | f + 1, i => by
    unfold decF
    split
    · split
      · split
        · omega
        · omega
      · exact decF_le s f (i + 1)
    · omega
theorem decUv_le (s : ByteArray) : decUv s ≤ s.size ∧ decUv s ≤ 9 := decF_le s 10 0
theorem acc_lt63 (s : ByteArray) {k : Nat} (h : k ≤ 9) : acc s k < 2 ^ 63 := by
  have h1 := acc_lt s k
  have h2 : (128 : Nat) ^ k ≤ 128 ^ 9 := Nat.pow_le_pow_right (by decide) h
  rw [show (128 : Nat) ^ 9 = 2 ^ 63 by decide] at h2
  omega
end Go.Proofs.YthenilomgbnpeaaGreatDoor
/- The variable-length integers, in the model and in the program: their contracts. -/
namespace Go.Proofs.YthenilomgbnpeaaGreatDoor
open Go.RowKit



theorem pad9_set {l : List Int} (h : l.length < 9) (u : Int) : (pad9 l).set l.length u = pad9 (l ++ [u]) := by
  unfold pad9
  rw [List.set_append_right _ _ (Nat.le_refl _), Nat.sub_self, show 9 - l.length = (9 - (l ++ [u]).length) + 1 by simp; omega, List.replicate_succ, List.set_cons_zero, List.append_assoc]
  simp

theorem size9 {l l' : List Int} (h : l.length ≤ 9) (h' : l'.length ≤ 9) : ((pad9 l).map (Value.int .u8)).toArray.size = ((pad9 l').map (Value.int .u8)).toArray.size := by
  simp [pad9_length h, pad9_length h']
theorem one9 (l : List Int) : (l.map (Value.int .u8)).toArray.all (·.oneCell') = true := by simp [Value.oneCell']

end Go.Proofs.YthenilomgbnpeaaGreatDoor
/- Chapter 1's generators: an integer, a text, a damaged text. Only that each returns, within its bounds, is said. -/
namespace Go.Proofs.YthenilomgbnpeaaGreatDoor
open Go.RowKit

def I64 (v : Value) : Prop := ∃ x : Int, v = .int .i64 x ∧ -9223372036854775808 ≤ x ∧ x ≤ 9223372036854775807
def Tx (m : Nat) (v : Value) : Prop := ∃ s : ByteArray, v = .string s ∧ s.size ≤ m

theorem newTexts (w : World) (t : TypeId) (l : List Value) (n m : Nat) (hn : l.length = n) (h : ∀ v ∈ l, Tx m v) :
    ∀ i, i < n → ∃ s : ByteArray, (w.alloc (.cells l.toArray t)).cell? ⟨w.heap.size, i, none⟩ = some (.string s) ∧ s.size ≤ m := by
  intro i hi
  obtain ⟨x, hx, hq⟩ := h l[i] (List.getElem_mem (by omega))
  refine ⟨x, ?_, hq⟩
  rw [World.cell?_alloc_at _ _ _ _ rfl, ← hx]
  simp [hn, hi]

theorem BytesAt.grown {w w' : World} {g b : Nat} {l : List Int} (h : BytesAt w b l) (hg : w.grownBy w' (some g)) (hne : b ≠ g) (hb : b < w.heap.size) : BytesAt w' b l := fun j hj => by
  have e := hg.block b hb (fun e => hne (by injection e))
  exact ⟨(World.cell?_of_block (w := w) (a := ⟨b, j, none⟩) e).trans (h j hj).1, (World.frozen?_of_block (w := w) (a := ⟨b, j, none⟩) e).trans (h j hj).2⟩
set_option maxRecDepth 100000 in
theorem damage_any (B g n : Nat) (t : ByteArray) (w : World) (h : Src w B g n) (hn : n ≤ 700000000000) (ht : t.size ≤ 300) :
    Calls Tryz.prog 47 #[.pointer (some ⟨g, 0, none⟩), .string t] w (Chose (Tx 400) B g (n + 3000) w) := by
  have hlt := h.lt
  have P6 : Hid (pickMax 6 = 5) := by show _ = _; decide
  have P3 : Hid (pickMax 3 = 2) := by show _ = _; decide
  have P8 : Hid (pickMax 8 = 7) := by show _ = _; decide
  go_enter Tryz.func47, Tryz.ntmps47
  go_wp2_with fail
  refine (pick_any B g n 6 _ h (by omega) (by omega) (by omega)).mono ?_
  rintro e w1 ⟨v1, rfl, ⟨x, rfl, hx0, hx1⟩, hS1, hg1⟩
  clear h hx1
  have hz1 := hg1.size
  by_cases h0 : x = 0
  · subst h0
    go_wp2_with fail
    refine (word_any B g (n + 2) 3 _ hS1 (by omega) (by omega) (by omega)).mono ?_
    rintro e w2 ⟨v2, rfl, ⟨s, rfl, hs⟩, hS2, hg2⟩
    rw [P3.out] at hs
    go_wp2
    go_ret
    exact ⟨_, rfl, ⟨_, rfl, by rw [ByteArray.size_append]; omega⟩, hS2.more (by omega), grown_trans hg1 hg2⟩
  · by_cases h1 : x = 1
    · subst h1
      have HP : Hid (pickMax ((t.size : Int) + 1) ≤ (t.size : Int)) := by show _ ≤ _; unfold pickMax; split <;> omega
      go_wp2_with fail
      refine (pick_any B g (n + 2) ((t.size : Int) + 1) _ hS1 (by omega) (by omega) (by omega)).mono ?_
      rintro e w2 ⟨v2, rfl, ⟨y, rfl, hy0, hy1⟩, hS2, hg2⟩
      obtain ⟨k, rfl⟩ := Int.eq_ofNat_of_zero_le hy0
      have hk : (k : Int) ≤ (t.size : Int) := by have := HP.out; omega
      clear hy1
      go_wp2
      go_ret
      exact ⟨_, rfl, ⟨_, rfl, by rw [ByteArray.size_extract]; omega⟩, hS2.more (by omega), grown_trans hg1 hg2⟩
    · by_cases h2 : x = 2 ∧ 0 < t.size
      · obtain ⟨rfl, hpos⟩ := h2
        have hpi : (0 : Int) < (t.size : Int) := by omega
        go_wp2_with (refine wpList_str_bytes rfl _ rfl t rfl (Below.refl _ _) (Nat.le_refl _) ?_; intro cap w2 hat hz2 hb2)
        have hS2 := hS1.keepB hb2 (by omega)
        have HP : Hid (pickMax (t.size : Int) ≤ (t.size : Int) - 1) := by show _ ≤ _; unfold pickMax; split <;> omega
        refine (pick_any B g (n + 2) (t.size : Int) _ hS2 (by omega) (by omega) (by omega)).mono ?_
        rintro e w3 ⟨v3, rfl, ⟨y, rfl, hy0, hy1⟩, hS3, hg3⟩
        obtain ⟨k, rfl⟩ := Int.eq_ofNat_of_zero_le hy0
        have hkI : (k : Int) < (t.size : Int) := by have := HP.out; omega
        clear hy1 hS1 hS2
        have hat3 := hat.grown hg3 (by omega) hz2
        clear hat
        go_wp2_with fail
        have hne : w1.heap.size ≠ g := by omega
        have hLl : (t.data.toList.map fun b => (b.toNat : Int)).length = t.size := by simp
        obtain ⟨L, hL⟩ : ∃ L, L = t.data.toList.map fun b => (b.toNat : Int) := ⟨_, rfl⟩
        rw [← hL] at hat3 hLl
        obtain ⟨z, hz⟩ : ∃ z, z = L.getD k 0 := ⟨_, rfl⟩
        have hc3 : w3.drew.cell? ⟨w1.heap.size, k, none⟩ = some (.int .u8 z) := by rw [hz]; exact (hat3 k (by omega)).1
        clear hL
        refine wp_region_held_drew (S := fun _ => True) (by kernel_rfl) trivial (fun hHeld => ?_)
        refine wpAnyH_take (i := 0) (oi := _) (v := .slice (some ⟨w1.heap.size, 0, none⟩) t.size cap) rfl (by kernel_rfl) (by kernel_rfl) (by kernel_rfl) (fun _ _ _ h => h) (Or.inl ⟨by rfl, fun w hSw => by go_simp⟩) hHeld ?_
        refine wpAnyH_take (i := 1) (oi := _) (v := .int .i64 (k : Int)) rfl (by kernel_rfl) (by kernel_rfl) (by kernel_rfl) (fun _ _ _ h => h) (Or.inl ⟨by rfl, fun w hSw => by go_simp⟩) hHeld ?_
        refine wpAnyH_take (i := 2) (oi := _) (v := .slice (some ⟨w1.heap.size, 0, none⟩) t.size cap) rfl (by kernel_rfl) (by kernel_rfl) (by kernel_rfl) (fun _ _ _ h => h) (Or.inl ⟨by rfl, fun w hSw => by go_simp⟩) hHeld ?_
        refine wpAnyH_take (i := 3) (oi := _) (v := .int .i64 (k : Int)) rfl (by kernel_rfl) (by kernel_rfl) (by kernel_rfl) (fun _ _ _ h => h) (Or.inl ⟨by rfl, fun w hSw => by go_simp⟩) hHeld ?_
        refine wpAnyH_take (i := 4) (oi := _) (v := .pointer (some ⟨w1.heap.size, k, none⟩)) rfl (by kernel_rfl) (by kernel_rfl) (by kernel_rfl) (fun _ _ _ h => h) (Or.inl ⟨by rfl, fun w hSw => by go_simp⟩) hHeld ?_
        refine wpAnyH_take (i := 6) (oi := _) (v := .pointer (some ⟨g, 0, none⟩)) rfl (by kernel_rfl) (by kernel_rfl) (by kernel_rfl) (fun _ _ _ h => h) (Or.inl ⟨by rfl, fun w hSw => by go_simp⟩) hHeld ?_
        refine wpAnyH_ready (rs := [5, 7]) (by kernel_rfl) (by simp) ?_
        refine AllReadyH.cons (o := _) rfl (fun K hK => ?_) (AllReadyH.cons (o := _) rfl (fun K hK => ?_) AllReadyH.nil)
        · go_simp
          refine hK.out _ _ trivial (fun hHeld => ?_)
          clear hK K
          refine wpAnyH_ready (rs := [7]) (by kernel_rfl) (by simp) ?_
          refine AllReadyH.cons (o := _) rfl (fun K hK => ?_) AllReadyH.nil
          go_simp
          go_at_call 18
          refine (pick_any B g (n + 4) 8 _ (show Src w3.drew B g (n + 4) from hS3) (by omega) (by omega) (by omega)).mono ?_
          rintro e w4 ⟨v4, rfl, ⟨q, rfl, hq0, hq1⟩, hS4, hg4⟩
          rw [P8.out] at hq1
          obtain ⟨j, rfl⟩ := Int.eq_ofNat_of_zero_le hq0
          have hj : (j : Int) ≤ 7 := hq1
          have hat4 := hat3.drew.grown hg4 hne (Nat.lt_of_lt_of_le hz2 hg3.size)
          have hgr4 := grown_trans (grown_drew hg3) hg4
          clear hq0
          refine hK.out _ _ trivial (fun hHeld => ?_)
          clear hK K
          refine wpAnyH_ready (rs := [8]) (by kernel_rfl) (by simp) ?_
          refine AllReadyH.cons (o := _) rfl (fun K hK => ?_) AllReadyH.nil
          go_simp
          refine hK.out _ _ trivial (fun hHeld => ?_)
          clear hK K
          refine wpAnyH_ready (rs := [9]) (by kernel_rfl) (by simp) ?_
          refine AllReadyH.cons (o := _) rfl (fun K hK => ?_) AllReadyH.nil
          go_simp
          refine hK.out _ _ trivial (fun hHeld => ?_)
          clear hK K
          refine wpAnyH_ready (rs := [10]) (by kernel_rfl) (by simp) ?_
          refine AllReadyH.cons (o := _) rfl (fun K hK => ?_) AllReadyH.nil
          go_simp
          refine hK.out _ _ trivial (fun hHeld => ?_)
          clear hK K
          refine wpAnyH_ready (rs := [11]) (by kernel_rfl) (by simp) ?_
          refine AllReadyH.cons (o := _) rfl (fun K hK => ?_) AllReadyH.nil
          go_simp
          refine hK.out _ _ trivial (fun hHeld => ?_)
          clear hK K
          refine wpAnyH_ready (rs := [12]) (by kernel_rfl) (by simp) ?_
          refine AllReadyH.cons (o := _) rfl (fun K hK => ?_) AllReadyH.nil
          have hc4 := (hat4 k (by omega)).1
          have hf4 := (hat4 k (by omega)).2
          go_simp
          refine hK.out _ _ trivial (fun hHeld => ?_)
          clear hK K
          refine wpAnyH_done (by kernel_rfl) ?_ _
          have hcv : ∀ E : Int, (Go.convert 22 9 (.slice (some ⟨w1.heap.size, 0, none⟩) t.size cap)).run Tryz.prog (w4.setCell ⟨w1.heap.size, k, none⟩ (.int .u8 E)) = .ok (.string (strOfNums (L.set k E))) (w4.setCell ⟨w1.heap.size, k, none⟩ (.int .u8 E)) := fun E => by
            have := (hat4.set_ (k := k) (by omega) E).str (cap := cap)
            rw [List.length_set, hLl] at this
            exact this
          go_wp2
          go_ret
          have G1 := grown_below hg1 (hb2.mono hz1)
          have G2 := grown_trans G1 hgr4
          exact ⟨_, rfl, ⟨_, rfl, by rw [strOfNums_size, List.length_set, hLl]; omega⟩, (hS4.keepB ((Below.refl w1.heap.size w4).setCell (p := ⟨w1.heap.size, k, none⟩) (Nat.le_refl _) _) (by omega)).more (by omega), grown_below G2 (((Below.refl w1.heap.size w4).setCell (p := ⟨w1.heap.size, k, none⟩) (Nat.le_refl _) _).mono hz1)⟩
        · go_simp
          go_at_call 18
          refine (pick_any B g (n + 4) 8 _ (show Src w3.drew B g (n + 4) from hS3) (by omega) (by omega) (by omega)).mono ?_
          rintro e w4 ⟨v4, rfl, ⟨q, rfl, hq0, hq1⟩, hS4, hg4⟩
          rw [P8.out] at hq1
          obtain ⟨j, rfl⟩ := Int.eq_ofNat_of_zero_le hq0
          have hj : (j : Int) ≤ 7 := hq1
          have hat4 := hat3.drew.grown hg4 hne (Nat.lt_of_lt_of_le hz2 hg3.size)
          have hgr4 := grown_trans (grown_drew hg3) hg4
          clear hq0
          have hc4 := (hat4 k (by omega)).1
          have hf4 := (hat4 k (by omega)).2
          refine hK.out _ _ trivial (fun hHeld => ?_)
          clear hK K
          refine wpAnyH_take (i := 8) (oi := _) (v := .int .u64 (IntKind.u64.wrap (j : Int))) rfl (by kernel_rfl) (by kernel_rfl) (by kernel_rfl) (fun _ _ _ h => h) (Or.inl ⟨by rfl, fun w hSw => by go_simp⟩) hHeld ?_
          refine wpAnyH_take (i := 9) (oi := _) (v := .int .u8 (IntKind.u8.wrap (2 ^ min (IntKind.u64.wrap (j : Int)).toNat 8))) rfl (by kernel_rfl) (by kernel_rfl) (by kernel_rfl) (fun _ _ _ h => h) (Or.inl ⟨by rfl, fun w hSw => by go_simp⟩) hHeld ?_
          refine wpAnyH_ready (rs := [5]) (by kernel_rfl) (by simp) ?_
          refine AllReadyH.cons (o := _) rfl (fun K hK => ?_) AllReadyH.nil
          go_simp
          refine hK.out _ _ trivial (fun hHeld => ?_)
          clear hK K
          refine wpAnyH_ready (rs := [10]) (by kernel_rfl) (by simp) ?_
          refine AllReadyH.cons (o := _) rfl (fun K hK => ?_) AllReadyH.nil
          go_simp
          refine hK.out _ _ trivial (fun hHeld => ?_)
          clear hK K
          refine wpAnyH_ready (rs := [11]) (by kernel_rfl) (by simp) ?_
          refine AllReadyH.cons (o := _) rfl (fun K hK => ?_) AllReadyH.nil
          go_simp
          refine hK.out _ _ trivial (fun hHeld => ?_)
          clear hK K
          refine wpAnyH_ready (rs := [12]) (by kernel_rfl) (by simp) ?_
          refine AllReadyH.cons (o := _) rfl (fun K hK => ?_) AllReadyH.nil
          go_simp
          refine hK.out _ _ trivial (fun hHeld => ?_)
          clear hK K
          refine wpAnyH_done (by kernel_rfl) ?_ _
          have hcv : ∀ E : Int, (Go.convert 22 9 (.slice (some ⟨w1.heap.size, 0, none⟩) t.size cap)).run Tryz.prog (w4.setCell ⟨w1.heap.size, k, none⟩ (.int .u8 E)) = .ok (.string (strOfNums (L.set k E))) (w4.setCell ⟨w1.heap.size, k, none⟩ (.int .u8 E)) := fun E => by
            have := (hat4.set_ (k := k) (by omega) E).str (cap := cap)
            rw [List.length_set, hLl] at this
            exact this
          go_wp2
          go_ret
          have G1 := grown_below hg1 (hb2.mono hz1)
          have G2 := grown_trans G1 hgr4
          exact ⟨_, rfl, ⟨_, rfl, by rw [strOfNums_size, List.length_set, hLl]; omega⟩, (hS4.keepB ((Below.refl w1.heap.size w4).setCell (p := ⟨w1.heap.size, k, none⟩) (Nat.le_refl _) _) (by omega)).more (by omega), grown_below G2 (((Below.refl w1.heap.size w4).setCell (p := ⟨w1.heap.size, k, none⟩) (Nat.le_refl _) _).mono hz1)⟩
      · by_cases e2 : x = 2
        · subst e2
          have hz0 : ¬ (0 : Int) < (t.size : Int) := by omega
          go_wp2
          go_ret
          exact ⟨_, rfl, ⟨t, rfl, by omega⟩, hS1.more (by omega), hg1⟩
        · have d0 : (x == 0) = false := by simpa using h0
          have d1 : (x == 1) = false := by simpa using h1
          have d2 : (x == 2) = false := by simpa using e2
          go_wp2
          go_ret
          exact ⟨_, rfl, ⟨t, rfl, by omega⟩, hS1.more (by omega), hg1⟩

end Go.Proofs.YthenilomgbnpeaaGreatDoor
