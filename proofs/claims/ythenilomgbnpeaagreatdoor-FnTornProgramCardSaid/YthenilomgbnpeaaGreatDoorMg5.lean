/- The proof's own lemmas, part 6: Scr EncN CodN Fixed FixN WordN. -/
import Derived.Test.YthenilomgbnpeaaGreatDoorProg
import Derived.Test.YthenilomgbnpeaaGreatDoorMg4
import Derived.StillTailTactics
import Derived.Test.YthenilomgbnpeaaGreatDoorMg1
import Derived.WalkKit
import Derived.Test.YthenilomgbnpeaaGreatDoorMg2
import Derived.ProofKit
import Derived.Lib.Hide
/- Scrambling, in the model and in the program: the contracts. -/
namespace Go.Proofs.YthenilomgbnpeaaGreatDoor
open Go.RowKit

theorem xorL_set (s key : ByteArray) (n k : Nat) (hk : k < n) : ∀ (r : List Int), r.length = n → ((xorL s key k ++ r.drop k).set k ((byteAt s k ^^^ byteAt key k : Nat) : Int)) = xorL s key (k + 1) ++ r.drop (k + 1) := by
  intro r hr
  have e : r.drop k = r[k] :: r.drop (k + 1) := List.drop_eq_getElem_cons (by omega)
  rw [List.set_append_right _ _ (by rw [xorL_length]; omega), xorL_length, Nat.sub_self, e, List.set_cons_zero, xorL, List.append_assoc]
  rfl
/-- The bytes of a text as integers. -/
def nums (s : ByteArray) : List Int := s.data.toList.map fun b => (b.toNat : Int)
theorem nums_length (s : ByteArray) : (nums s).length = s.size := by simp [nums]
theorem nums_get (s : ByteArray) (k : Nat) (h : k < s.size) : (nums s).getD k 0 = (byteAt s k : Int) := by
  have h' : k < s.data.toList.length := by simpa using h
  unfold nums byteAt
  rw [List.getD_eq_getElem?_getD, List.getElem?_map, List.getD_eq_getElem?_getD, List.getElem?_eq_getElem h']; rfl

set_option maxRecDepth 100000 in
theorem implScr_yes (p : Int) (s : ByteArray) (w : World) (h0 : 0 ≤ p) (h1 : p ≤ 65534) (hs : s.size ≤ 256) :
    Calls Tryz.prog 27 #[.int .i64 p, .string s] w fun e w' => e = .returned (.tuple #[.string (strOfNums (xorL s (strOfNums (streamL (p.toNat + 1) s.size)) s.size)), .int .i64 0]) ∧ Below w.heap.size w w' := by
  obtain ⟨n, rfl⟩ := Int.eq_ofNat_of_zero_le h0
  rw [Int.toNat_natCast]
  have hn1 : 1 ≤ n + 1 := by omega
  have hn2 : n + 1 < 65536 := by omega
  have hkey : (strOfNums (streamL (n + 1) s.size)).size = s.size := by rw [strOfNums_size, streamL_length]
  obtain ⟨key, hk⟩ : ∃ key, key = strOfNums (streamL (n + 1) s.size) := ⟨_, rfl⟩
  rw [← hk] at hkey ⊢
  have HK := Lib.hid hk
  have HKey := Lib.hid hkey
  clear hk hkey
  go_enter Tryz.func27, Tryz.ntmps27
  go_wp2_with (first
    | (go_at_call 53; refine (implSeed_yes _ _ h0 h1).mono ?_; rintro e w' ⟨rfl, rfl⟩)
    | (go_at_call 52; refine (implKey_yes (n + 1) s.size _ hn1 hn2 hs).mono ?_; rintro e w1 ⟨rfl, hb1⟩; rw [← HK.out])
    | (refine wpList_str_bytes rfl _ rfl s rfl hb1 hb1.size ?_; intro cap w2 hat hz2 hb2))
  have hz1 := hb1.size
  go_loopw [25] (fun i wr => ∃ k : Nat, k ≤ s.size ∧ i = .int .i64 k ∧ BytesAt wr w1.heap.size (xorL s key k ++ (nums s).drop k) ∧ Below w.heap.size w wr) (fun i _ => s.size - (intOf i).toNat)
  case atStart => exact ⟨0, Nat.zero_le _, rfl, hat, hb2⟩
  case round =>
    clear hat hb2
    obtain ⟨k, hk, rfl, hat, hb⟩ := hrel
    have hnl := nums_length s
    by_cases hlt : k < s.size
    · have hlt2 : k < key.size := by rw [HKey.out]; exact hlt
      have hi2 : (k : Int) < (key.size : Int) := by omega
      have hll : (xorL s key k ++ (nums s).drop k).length = s.size := by simp [xorL_length, hnl]; omega
      have hcell := (hat k (by omega)).1
      have hfree := (hat k (by omega)).2
      have hg : (xorL s key k ++ (nums s).drop k).getD k 0 = (byteAt s k : Int) := by
        rw [List.getD_eq_getElem?_getD, List.getElem?_append_right (by rw [xorL_length]; omega), xorL_length, Nat.sub_self, List.getElem?_drop, Nat.add_zero, ← List.getD_eq_getElem?_getD, nums_get s k hlt]
      rw [hg] at hcell
      have HX : Hid (bits .xor .u8 (byteAt s k : Int) (key[k].toNat : Int) = ((byteAt s k ^^^ byteAt key k : Nat) : Int)) := by
        have h1 := byteAt_le s k
        have h2 := byteAt_le key k
        rw [byteAt_eq hlt2]; exact u8_xor_nat _ _ (by omega) (by omega)
      have hnext := hat.set_ (k := k) (by omega) (bits .xor .u8 (byteAt s k : Int) (key[k].toNat : Int))
      have hb' := hb.setCell (p := ⟨w1.heap.size, k, none⟩) hz1 (.int .u8 (bits .xor .u8 (byteAt s k : Int) (key[k].toNat : Int)))
      have HS := Lib.hid (xorL_set s key s.size k hlt (nums s) hnl)
      clear hat hb hg hll hnl
      go_wp2
      go_region
      all_goals
        go_wp2
        go_roundw
        case rel => exact ⟨k + 1, by omega, by go_num, by rw [← HS.out, ← HX.out]; exact hnext.drew, hb'.drew⟩
        case measure => simp [intOf]; omega
    · have hcv := hat.str (cap := cap)
      have e : xorL s key k ++ (nums s).drop k = xorL s key s.size := by rw [show s.size = k by omega, List.drop_eq_nil_of_le (by omega), List.append_nil]
      rw [e, xorL_length] at hcv
      clear hat e hnl
      go_wp2
      go_ret2
      exact ⟨rfl, hb⟩
theorem implScr_no (p : Int) (s : ByteArray) (w : World) (h : (p < 0 ∨ 65534 < p) ∨ 256 < s.size) (hs : s.size ≤ 9223372036854775807) :
    Calls Tryz.prog 27 #[.int .i64 p, .string s] w fun e w' => e = .returned (.tuple #[.string ⟨#[]⟩, .int .i64 2]) ∧ Below w.heap.size w w' := by
  by_cases hp : p < 0 ∨ 65534 < p
  · clear h
    go_enter Tryz.func27, Tryz.ntmps27
    go_wp2_with (first
      | (go_at_call 53; refine (implSeed_no _ _ hp).mono ?_; rintro e w' ⟨rfl, rfl⟩)
      | (go_at_call 52; refine (implKey_no 0 s.size _ (by omega)).mono ?_; rintro e w1 ⟨rfl, hb1⟩))
    go_ret2
    exact ⟨rfl, hb1⟩
  · have h0 : 0 ≤ p := by omega
    have h1 : p ≤ 65534 := by omega
    have h2 : 256 < s.size := by omega
    clear h hp
    go_enter Tryz.func27, Tryz.ntmps27
    go_wp2_with (first
      | (go_at_call 53; refine (implSeed_yes _ _ h0 h1).mono ?_; rintro e w' ⟨rfl, rfl⟩)
      | (go_at_call 52; refine (implKey_no (p + 1) s.size _ (by omega)).mono ?_; rintro e w1 ⟨rfl, hb1⟩))
    go_ret2
    exact ⟨rfl, hb1⟩
theorem specScr_yes (p : Int) (s : ByteArray) (w : World) (h0 : 0 ≤ p) (h1 : p ≤ 65534) (hs : s.size ≤ 256) :
    Calls Tryz.prog 66 #[.int .i64 p, .string s] w fun e w' => e = .returned (.tuple #[.string (strOfNums (xorL s (strOfNums (streamL (p.toNat + 1) s.size)) s.size)), .int .i64 0]) ∧ Below w.heap.size w w' := by
  obtain ⟨n, rfl⟩ := Int.eq_ofNat_of_zero_le h0
  rw [Int.toNat_natCast]
  have hn2 : n + 1 < 65536 := by omega
  have hkey : s.size = (strOfNums (streamL (n + 1) s.size)).size := by rw [strOfNums_size, streamL_length]
  have HKey := Lib.hid hkey
  have hd : decide (256 < (s.size : Int)) = false := by simp; omega
  clear hkey
  go_enter Tryz.func66, Tryz.ntmps66
  go_wp2_with (first
    | (go_at_call 32; refine (l00In_yes _ _ _ _ h0 h1).mono ?_; rintro e w' ⟨rfl, rfl⟩)
    | (go_at_call 82; refine (specStream_any (n + 1) s.size _ hn2 (by omega)).mono ?_; rintro e w1 ⟨rfl, hb1⟩)
    | (go_at_call 81; refine (specXor_any s _ _ HKey.out (by omega)).mono ?_; rintro e w2 ⟨rfl, hb2⟩))
  go_ret2
  exact ⟨rfl, hb1.trans (hb2.mono hb1.size)⟩
theorem specScr_no (p : Int) (s : ByteArray) (w : World) (h : (p < 0 ∨ 65534 < p) ∨ 256 < s.size) (hs : s.size ≤ 9223372036854775807) :
    Calls Tryz.prog 66 #[.int .i64 p, .string s] w fun e w' => e = .returned (.tuple #[.string ⟨#[]⟩, .int .i64 2]) ∧ Below w.heap.size w w' := by
  by_cases hp : p < 0 ∨ 65534 < p
  · clear h
    go_enter Tryz.func66, Tryz.ntmps66
    go_wp2_with (go_at_call 32; refine (l00In_no _ _ _ _ hp).mono ?_; rintro e w' ⟨rfl, rfl⟩)
    go_ret2
    exact ⟨rfl, Below.refl _ _⟩
  · have h0 : 0 ≤ p := by omega
    have h1 : p ≤ 65534 := by omega
    have h2 : 256 < s.size := by omega
    have hd : decide (256 < (s.size : Int)) = true := by simp; omega
    clear h hp
    go_enter Tryz.func66, Tryz.ntmps66
    go_wp2_with (go_at_call 32; refine (l00In_yes _ _ _ _ h0 h1).mono ?_; rintro e w' ⟨rfl, rfl⟩)
    go_ret2
    exact ⟨rfl, Below.refl _ _⟩
end Go.Proofs.YthenilomgbnpeaaGreatDoor
/- Plain facts on the fixed-size encoding. -/
namespace Go.Proofs.YthenilomgbnpeaaGreatDoor
open Go.RowKit

/-- The bytes of the first k. -/
def encF (n : Int) : Nat → List Int
  | 0 => []
  | k + 1 => encF n k ++ [IntKind.u8.wrap (n / 2 ^ (8 * k))]
theorem encF_length (n : Int) : ∀ k, (encF n k).length = k
  | 0 => rfl
  | k + 1 => by simp [encF, encF_length n k]

end Go.Proofs.YthenilomgbnpeaaGreatDoor
/- Plain facts on the codec: what the decoders answer at what the encoders made, bytes behind it or not. -/
namespace Go.Proofs.YthenilomgbnpeaaGreatDoor
open Go.RowKit

theorem byteAt_app (l : List Int) (r : ByteArray) (k : Nat) (hk : k < l.length) (hb : ∀ x ∈ l, 0 ≤ x ∧ x < 256) : (byteAt (strOfNums l ++ r) k : Int) = l.getD k 0 := by
  have h1 := hb _ (List.getElem_mem hk)
  unfold byteAt
  rw [ByteArray.data_append, Array.toList_append, strOfNums_data, List.getD_eq_getElem?_getD, List.getElem?_append_left (by simpa using hk), List.getElem?_map, List.getD_eq_getElem?_getD, List.getElem?_eq_getElem hk]
  simp only [Option.map_some, Option.getD_some]
  rw [UInt8.toNat_ofNat']
  omega

def Reads (t : ByteArray) (i x : Nat) : Prop := ∀ j, j < (uv x).length → (byteAt t (i + j) : Int) = (uv x).getD j 0
theorem reads_small {t : ByteArray} {i x : Nat} (h : Reads t i x) (hx : x < 128) : byteAt t i = x := by
  have := h 0 (by rw [uv_small hx]; simp)
  rw [uv_small hx] at this
  simp at this
  omega
theorem reads_big {t : ByteArray} {i x : Nat} (h : Reads t i x) (hx : ¬ x < 128) : byteAt t i = x % 128 + 128 ∧ Reads t (i + 1) (x / 128) := by
  constructor
  · have := h 0 (by rw [uv_big hx]; simp)
    rw [uv_big hx] at this
    simp at this
    omega
  · intro j hj
    have := h (j + 1) (by rw [uv_big hx]; simpa using hj)
    rw [uv_big hx] at this
    rw [show i + 1 + j = i + (j + 1) by omega, this]
    simp
theorem acc_reads (t : ByteArray) : ∀ (f x i : Nat), x < 128 ^ f → Reads t i x → acc t (i + (uv x).length) = acc t i + x * 128 ^ i
  | 0, x, i, hf, h => by
    have hx : x < 128 := by simp at hf; omega
    have hb := reads_small h hx
    rw [uv_small hx]
    show acc t (i + 1) = _
    rw [acc, hb, Nat.mod_eq_of_lt hx]
  | f + 1, x, i, hf, h => by
    by_cases hx : x < 128
    · have hb := reads_small h hx
      rw [uv_small hx]
      show acc t (i + 1) = _
      rw [acc, hb, Nat.mod_eq_of_lt hx]
    · obtain ⟨hb, hr⟩ := reads_big h hx
      have ih := acc_reads t f (x / 128) (i + 1) (by rw [Nat.div_lt_iff_lt_mul (by decide)]; rw [Nat.pow_succ] at hf; exact hf) hr
      rw [uv_big hx, List.length_cons, show i + ((uv (x / 128)).length + 1) = i + 1 + (uv (x / 128)).length by omega, ih, acc, hb]
      have e1 : (x % 128 + 128) % 128 = x % 128 := by omega
      have e2 : x / 128 * 128 ^ (i + 1) = (128 * (x / 128)) * 128 ^ i := by rw [Nat.pow_succ, Nat.mul_comm (128 ^ i), ← Nat.mul_assoc, Nat.mul_comm (x / 128)]
      rw [e1, e2, Nat.add_assoc, ← Nat.add_mul, show x % 128 + 128 * (x / 128) = x by omega]
theorem decF_reads (t : ByteArray) : ∀ (f x i : Nat), (uv x).length ≤ f → i + (uv x).length ≤ t.size → i + (uv x).length ≤ 9 → Reads t i x → uv (acc t (i + (uv x).length)) = takeB t (i + (uv x).length) → decF t f i = i + (uv x).length
  | 0, x, i, hf, _, _, _, _ => by have := uv_pos x; omega
  | f + 1, x, i, hf, hs, h9, h, hc => by
    by_cases hx : x < 128
    · have hb := reads_small h hx
      rw [uv_small hx] at hs h9 hc ⊢
      exact decF_yes (by simp at hs; omega) (by simp at h9; omega) (by omega) hc
    · obtain ⟨hb, hr⟩ := reads_big h hx
      have hp := uv_pos (x / 128)
      rw [uv_big hx, List.length_cons] at hf hs h9 hc ⊢
      rw [decF_next (by omega) (by omega) (by omega)]
      have e : i + ((uv (x / 128)).length + 1) = i + 1 + (uv (x / 128)).length := by omega
      rw [e] at hs h9 hc ⊢
      exact decF_reads t f (x / 128) (i + 1) (by omega) hs h9 hr hc
theorem uv_bytes9 {n : Nat} (h : n < 2 ^ 63) : ∀ x ∈ uv n, 0 ≤ x ∧ x < 256 :=
  uv_bytes 9 n (by rw [show (128 : Nat) ^ 9 = 2 ^ 63 by decide]; exact h)
theorem size_app (a b : ByteArray) : (a ++ b).size = a.size + b.size := ByteArray.size_append
theorem takeB_app (l : List Int) (r : ByteArray) (hb : ∀ x ∈ l, 0 ≤ x ∧ x < 256) : takeB (strOfNums l ++ r) l.length = l := by
  apply List.ext_getElem
  · rw [takeB_length (by rw [size_app, strOfNums_size]; omega)]
  · intro k h1 h2
    have hb2 := hb _ (List.getElem_mem h2)
    unfold takeB
    simp only [ByteArray.data_append, Array.toList_append, strOfNums_data]
    rw [List.getElem_map, List.getElem_take, List.getElem_append_left (by simpa using h2), List.getElem_map, UInt8.toNat_ofNat']
    omega
/-- The decoder answers the number, whatever follows. -/
theorem dec_enc (n : Nat) (r : ByteArray) (h : n < 2 ^ 63) : decUv (strOfNums (uv n) ++ r) = (uv n).length ∧ acc (strOfNums (uv n) ++ r) (uv n).length = n := by
  have hl := uv_len h
  have hr : Reads (strOfNums (uv n) ++ r) 0 n := fun j hj => by rw [Nat.zero_add]; exact byteAt_app _ _ _ hj (uv_bytes9 h)
  have ha := acc_reads (strOfNums (uv n) ++ r) 9 n 0 (by rw [show (128 : Nat) ^ 9 = 2 ^ 63 by decide]; exact h) hr
  rw [Nat.zero_add, Nat.pow_zero, Nat.mul_one] at ha
  have h0 : acc (strOfNums (uv n) ++ r) 0 = 0 := rfl
  rw [h0, Nat.zero_add] at ha
  refine ⟨?_, ha⟩
  have := decF_reads (strOfNums (uv n) ++ r) 10 n 0 (by omega) (by rw [size_app, strOfNums_size]; omega) (by omega) hr (by rw [Nat.zero_add, ha, takeB_app _ _ (uv_bytes9 h)])
  rw [Nat.zero_add] at this
  exact this
/-- What the decoder accepts is the encoding. -/
theorem dec_ok (s : ByteArray) : ∀ f i, 0 < decF s f i → uv (acc s (decF s f i)) = takeB s (decF s f i)
  | 0, i, h => by simp [decF] at h
  | f + 1, i, h => by
    unfold decF at h ⊢
    by_cases h1 : i < s.size ∧ i < 9
    · rw [if_pos h1] at h ⊢
      by_cases h2 : byteAt s i < 128
      · rw [if_pos h2] at h ⊢
        by_cases h3 : uv (acc s (i + 1)) = takeB s (i + 1)
        · rw [if_pos h3]; exact h3
        · rw [if_neg h3] at h; omega
      · rw [if_neg h2] at h ⊢
        exact dec_ok s f (i + 1) h
    · rw [if_neg h1] at h; omega
end Go.Proofs.YthenilomgbnpeaaGreatDoor
/- DecodeFixed, in the model and in the program: their contracts. -/
namespace Go.Proofs.YthenilomgbnpeaaGreatDoor
open Go.RowKit

/-- The integer of the first k bytes. -/
def fixF (s : ByteArray) : Nat → Int
  | 0 => 0
  | k + 1 => bits .or .i64 (fixF s k) (wrap64 ((byteAt s k : Int) * 2 ^ (8 * k)))

theorem implDecFixed_short (s : ByteArray) (w : World) (hs : s.size ≤ 8) :
    Calls Tryz.prog 85 #[.string s] w fun e w' => e = .returned (.int .i64 (fixF s s.size)) ∧ w = w' := by
  go_enter Tryz.func85, Tryz.ntmps85
  go_wp2
  go_loop [3, 10] (fun n i => ∃ k : Nat, k ≤ s.size ∧ i = .int .i64 k ∧ n = .int .i64 (fixF s k)) (fun _ i => s.size - (intOf i).toNat)
  case atStart => exact ⟨0, Nat.zero_le _, rfl, rfl⟩
  case round =>
    obtain ⟨k, hk, rfl, rfl⟩ := hrel
    by_cases hlt : k < s.size
    · have hb := byteAt_eq hlt
      have hl := byteAt_le s k
      rw [← hb] at hl
      have HB := Lib.hid hb; clear hb
      go_wp2
      go_round
      case rel => exact ⟨k + 1, by omega, by go_num, by rw [HB.out]; rfl⟩
      case measure => simp [intOf]; omega
    · go_wp2
      go_ret
      exact ⟨ret_int (by rw [show s.size = k by omega]), rfl⟩
theorem implDecFixed_long (s : ByteArray) (w : World) (hs : 8 < s.size) :
    Calls Tryz.prog 85 #[.string s] w fun e w' => e = .returned (.int .i64 0) ∧ w = w' := by
  go_enter Tryz.func85, Tryz.ntmps85
  go_wp2
  go_ret
  exact ⟨rfl, rfl⟩
end Go.Proofs.YthenilomgbnpeaaGreatDoor
/- Plain facts on the fixed-size encoding: eight bytes give the integer back. -/
namespace Go.Proofs.YthenilomgbnpeaaGreatDoor
open Go.RowKit

theorem or_wrap (a b : Nat) (ha : a < 2 ^ 64) (hb : b < 2 ^ 64) : bits .or .i64 (wrap64 (a : Int)) (wrap64 (b : Int)) = wrap64 ((a ||| b : Nat) : Int) := by
  have e : ∀ x : Nat, x < 2 ^ 64 → (BitVec.ofInt 64 (wrap64 (x : Int))).toNat = x := by
    intro x hx
    rw [BitVec.toNat_ofInt]
    unfold wrap64
    omega
  have h1 : bits .or .i64 (wrap64 (a : Int)) (wrap64 (b : Int)) = IntKind.i64.wrap ((BitVec.ofInt 64 (wrap64 (a : Int)) ||| BitVec.ofInt 64 (wrap64 (b : Int))).toNat : Int) := rfl
  rw [h1, BitVec.toNat_or, e a ha, e b hb]
  exact IntWalk.i64_left _
theorem fix_bytes (s : ByteArray) (U : Nat) (hU : U < 2 ^ 64) (hb : ∀ k, k < 8 → byteAt s k = U / 256 ^ k % 256) : ∀ k, k ≤ 8 → fixF s k = wrap64 ((U % 256 ^ k : Nat) : Int)
  | 0, _ => by rw [Nat.pow_zero, Nat.mod_one, fixF]; unfold wrap64; omega
  | k + 1, hk => by
    have ih := fix_bytes s U hU hb k (by omega)
    have e256 : (256 : Nat) ^ k = 2 ^ (8 * k) := by rw [Nat.pow_mul]
    have hp : (256 : Nat) ^ k ≤ 256 ^ 7 := Nat.pow_le_pow_right (by decide) (by omega)
    have h7 : (256 : Nat) ^ 7 = 72057594037927936 := by decide
    have hlt : U % 256 ^ k < 2 ^ (8 * k) := by rw [← e256]; exact Nat.mod_lt _ (Nat.pow_pos (by decide))
    have hby : U / 256 ^ k % 256 * 256 ^ k ≤ 255 * 256 ^ k := Nat.mul_le_mul_right _ (by omega)
    have ec : ((byteAt s k : Nat) : Int) * 2 ^ (8 * k) = ((U / 256 ^ k % 256 * 256 ^ k : Nat) : Int) := by
      rw [hb k (by omega), Int.natCast_mul, e256, Int.natCast_pow]; rfl
    rw [fixF, ih, ec, or_wrap _ _ (by omega) (by omega)]
    congr 2
    have := Nat.two_pow_add_eq_or_of_lt hlt (U / 256 ^ k % 256)
    rw [Nat.mod_pow_succ, Nat.or_comm, Nat.mul_comm (U / 256 ^ k % 256), Nat.add_comm]
    rw [← e256] at this
    exact this.symm
theorem encF_getD (n : Int) : ∀ (m k : Nat), k < m → (encF n m).getD k 0 = IntKind.u8.wrap (n / 2 ^ (8 * k))
  | 0, k, h => by omega
  | m + 1, k, h => by
    rw [encF]
    by_cases hk : k < m
    · have := encF_getD n m k hk
      rw [List.getD_eq_getElem?_getD] at this ⊢
      rw [List.getElem?_append_left (by rw [encF_length]; exact hk)]
      exact this
    · obtain rfl : k = m := by omega
      rw [List.getD_eq_getElem?_getD, List.getElem?_append_right (by rw [encF_length]; omega), encF_length, Nat.sub_self]
      rfl
theorem u8_wrap_mod (x : Int) : IntKind.u8.wrap x = x % 256 := by rw [IntKind.wrap_u8']
theorem enc_byte (n : Int) (h1 : -9223372036854775808 ≤ n) (h2 : n ≤ 9223372036854775807) (k : Nat) (hk : k < 8) : n / 2 ^ (8 * k) % 256 = (((n % 18446744073709551616).toNat / 256 ^ k % 256 : Nat) : Int) := by
  match k, hk with
  | 0, _ => simp only [Nat.mul_zero, Int.pow_zero, Nat.pow_zero]; omega
  | 1, _ => rw [show (2 : Int) ^ (8 * 1) = 256 by decide, show (256 : Nat) ^ 1 = 256 by decide]; omega
  | 2, _ => rw [show (2 : Int) ^ (8 * 2) = 65536 by decide, show (256 : Nat) ^ 2 = 65536 by decide]; omega
  | 3, _ => rw [show (2 : Int) ^ (8 * 3) = 16777216 by decide, show (256 : Nat) ^ 3 = 16777216 by decide]; omega
  | 4, _ => rw [show (2 : Int) ^ (8 * 4) = 4294967296 by decide, show (256 : Nat) ^ 4 = 4294967296 by decide]; omega
  | 5, _ => rw [show (2 : Int) ^ (8 * 5) = 1099511627776 by decide, show (256 : Nat) ^ 5 = 1099511627776 by decide]; omega
  | 6, _ => rw [show (2 : Int) ^ (8 * 6) = 281474976710656 by decide, show (256 : Nat) ^ 6 = 281474976710656 by decide]; omega
  | 7, _ => rw [show (2 : Int) ^ (8 * 7) = 72057594037927936 by decide, show (256 : Nat) ^ 7 = 72057594037927936 by decide]; omega
theorem fix_back (n : Int) (h1 : -9223372036854775808 ≤ n) (h2 : n ≤ 9223372036854775807) : fixF (strOfNums (encF n 8)) 8 = n := by
  obtain ⟨U, hU⟩ : ∃ U, U = (n % 18446744073709551616).toNat := ⟨_, rfl⟩
  have hUl : U < 2 ^ 64 := by omega
  have hb : ∀ k, k < 8 → byteAt (strOfNums (encF n 8)) k = U / 256 ^ k % 256 := by
    intro k hk
    have e := encF_getD n 8 k hk
    have e2 := enc_byte n h1 h2 k hk
    rw [u8_wrap_mod, e2, ← hU] at e
    have hs := byteAt_app (encF n 8) ByteArray.empty k (by rw [encF_length]; exact hk) (by
      intro x hx
      obtain ⟨j, hj, rfl⟩ := List.mem_iff_getElem.1 hx
      have := encF_getD n 8 j (by rw [encF_length] at hj; exact hj)
      rw [List.getD_eq_getElem?_getD, List.getElem?_eq_getElem hj, u8_wrap_mod] at this
      simp only [Option.getD_some] at this
      omega)
    rw [ByteArray.append_empty, e] at hs
    omega
  have := fix_bytes _ U hUl hb 8 (by omega)
  rw [this, Nat.mod_eq_of_lt (by rw [show (256 : Nat) ^ 8 = 2 ^ 64 by decide]; exact hUl)]
  unfold wrap64
  omega

/-- A text with its length before it, whatever follows. -/
theorem str_back (w r : ByteArray) (h : w.size < 2 ^ 63) : (strOfNums (uv w.size) ++ w ++ r).extract (uv w.size).length ((uv w.size).length + w.size) = w := by
  apply ByteArray.ext
  apply Array.toList_inj.1
  rw [ByteArray.data_extract, Array.toList_extract, ByteArray.data_append, ByteArray.data_append, Array.toList_append, Array.toList_append, strOfNums_data]
  have e : (uv w.size).length = ((uv w.size).map fun n => UInt8.ofNat n.toNat).length := by simp
  have hw : w.data.toList.length = w.size := by simp
  rw [List.append_assoc]
  simp only [List.extract_eq_take_drop]
  rw [e, List.drop_left, show ((uv w.size).map fun n => UInt8.ofNat n.toNat).length + w.size - ((uv w.size).map fun n => UInt8.ofNat n.toNat).length = w.data.toList.length by omega, List.take_left]
end Go.Proofs.YthenilomgbnpeaaGreatDoor
/- Plain facts on words of eight bytes: the number of a text, the text of a number, a bit inverted. -/
namespace Go.Proofs.YthenilomgbnpeaaGreatDoor
open Go.RowKit

/-- The number of the bytes f 0, f 1, .. below k. -/
def wN (f : Nat → Nat) : Nat → Nat
  | 0 => 0
  | k + 1 => wN f k + f k * 256 ^ k
theorem wN_lt {f : Nat → Nat} (h : ∀ j, f j < 256) : ∀ k, wN f k < 256 ^ k
  | 0 => by simp [wN]
  | k + 1 => by
    have := wN_lt h k
    have h2 : f k * 256 ^ k ≤ 255 * 256 ^ k := Nat.mul_le_mul_right _ (by have := h k; omega)
    rw [wN, Nat.pow_succ]; omega
theorem wN_at {f : Nat → Nat} (h : ∀ j, f j < 256) : ∀ k j, j < k → wN f k / 256 ^ j % 256 = f j
  | 0, j, hj => by omega
  | k + 1, j, hj => by
    have hp : 0 < 256 ^ j := Nat.pow_pos (by decide)
    by_cases hjk : j < k
    · have e : 256 ^ k = 256 ^ j * (256 * 256 ^ (k - j - 1)) := by
        rw [show (256 : Nat) * 256 ^ (k - j - 1) = 256 ^ (k - j) by rw [Nat.mul_comm, ← Nat.pow_succ]; congr 1; omega, ← Nat.pow_add]; congr 1; omega
      rw [wN, e, show f k * (256 ^ j * (256 * 256 ^ (k - j - 1))) = 256 ^ j * (256 * (f k * 256 ^ (k - j - 1))) by
        rw [Nat.mul_left_comm, Nat.mul_left_comm (f k)], Nat.add_mul_div_left _ _ hp, Nat.add_mul_mod_self_left]
      exact wN_at h k j hjk
    · obtain rfl : j = k := by omega
      rw [wN, Nat.add_mul_div_right _ _ hp, Nat.div_eq_of_lt (wN_lt h j), Nat.zero_add]
      exact Nat.mod_eq_of_lt (h j)
theorem wN_congr {f g : Nat → Nat} : ∀ k, (∀ j, j < k → f j = g j) → wN f k = wN g k
  | 0, _ => rfl
  | k + 1, h => by rw [wN, wN, wN_congr k (fun j hj => h j (by omega)), h k (by omega)]
theorem wN_digits (x : Nat) : ∀ k, wN (fun j => x / 256 ^ j % 256) k = x % 256 ^ k
  | 0 => by rw [Nat.pow_zero, Nat.mod_one]; rfl
  | k + 1 => by rw [wN, wN_digits x k, Nat.mod_pow_succ, Nat.mul_comm]
/-- A number is known by its bytes. -/
theorem bytes_ext {x y : Nat} (hx : x < 2 ^ 64) (hy : y < 2 ^ 64) (h : ∀ j, j < 8 → x / 256 ^ j % 256 = y / 256 ^ j % 256) : x = y := by
  have e := wN_congr (f := fun j => x / 256 ^ j % 256) (g := fun j => y / 256 ^ j % 256) 8 h
  rw [wN_digits, wN_digits, Nat.mod_eq_of_lt (by rw [show (256 : Nat) ^ 8 = 2 ^ 64 by decide]; exact hx), Nat.mod_eq_of_lt (by rw [show (256 : Nat) ^ 8 = 2 ^ 64 by decide]; exact hy)] at e
  exact e

/-- The number of a text's first eight bytes. -/
def wordN (s : ByteArray) : Nat := wN (byteAt s) 8
theorem byteAt_lt (s : ByteArray) (k : Nat) : byteAt s k < 256 := by have := byteAt_le s k; omega
theorem wordN_lt (s : ByteArray) : wordN s < 2 ^ 64 := wN_lt (byteAt_lt s) 8
theorem wordN_at (s : ByteArray) {j : Nat} (h : j < 8) : wordN s / 256 ^ j % 256 = byteAt s j := wN_at (byteAt_lt s) 8 j h
theorem bit_byte (x b : Nat) : x / 2 ^ b % 2 = x / 256 ^ (b / 8) % 256 / 2 ^ (b % 8) % 2 := by
  have e : x / 2 ^ b = x / 256 ^ (b / 8) / 2 ^ (b % 8) := by
    rw [show (256 : Nat) ^ (b / 8) = 2 ^ (8 * (b / 8)) by rw [Nat.pow_mul], Nat.div_div_eq_div_mul, ← Nat.pow_add]
    congr 2; omega
  rw [e]
  generalize x / 256 ^ (b / 8) = y
  have h := Nat.mod_lt b (show 0 < 8 by decide)
  generalize b % 8 = r at *
  match r, h with
  | 0, _ => simp only [Nat.pow_zero]; omega
  | 1, _ => omega
  | 2, _ => omega
  | 3, _ => omega
  | 4, _ => omega
  | 5, _ => omega
  | 6, _ => omega
  | 7, _ => omega
theorem wordN_bit (s : ByteArray) {b : Nat} (h : b < 64) : wordN s / 2 ^ b % 2 = byteAt s (b / 8) / 2 ^ (b % 8) % 2 := by
  rw [bit_byte, wordN_at s (by omega)]
theorem xor_byte (x y j : Nat) : (x ^^^ y) / 256 ^ j % 256 = (x / 256 ^ j % 256) ^^^ (y / 256 ^ j % 256) := by
  rw [show (256 : Nat) ^ j = 2 ^ (8 * j) by rw [Nat.pow_mul], Nat.xor_div_two_pow]
  exact Nat.xor_mod_two_pow (n := 8)
theorem two_byte (b j : Nat) : 2 ^ b / 256 ^ j % 256 = if j = b / 8 then 2 ^ (b % 8) else 0 := by
  rw [show (256 : Nat) ^ j = 2 ^ (8 * j) by rw [Nat.pow_mul]]
  by_cases h1 : b < 8 * j
  · rw [Nat.div_eq_of_lt (Nat.pow_lt_pow_right (by decide) h1), if_neg (by omega)]
  · rw [Nat.pow_div (by omega) (by decide)]
    by_cases h2 : j = b / 8
    · rw [if_pos h2, show b - 8 * j = b % 8 by omega, Nat.mod_eq_of_lt]
      exact Nat.pow_lt_pow_right (n := 8) (by decide) (by omega)
    · rw [if_neg h2, show b - 8 * j = 8 + (b - 8 * j - 8) by omega, Nat.pow_add]
      exact Nat.mul_mod_right ..

theorem str_ext {s t : ByteArray} (hs : s.size = t.size) (h : ∀ j, j < s.size → byteAt s j = byteAt t j) : s = t := by
  apply ByteArray.ext
  apply Array.toList_inj.1
  apply List.ext_getElem
  · simpa using hs
  · intro k h1 h2
    have h1' : k < s.size := by simpa using h1
    have := h k h1'
    unfold byteAt at this
    rw [List.getD_eq_getElem?_getD, List.getElem?_eq_getElem h1, List.getD_eq_getElem?_getD, List.getElem?_eq_getElem h2] at this
    simpa using UInt8.toNat_inj.1 this
theorem nums_at (l : List Int) (k : Nat) (hk : k < l.length) (hb : ∀ x ∈ l, 0 ≤ x ∧ x < 256) : (byteAt (strOfNums l) k : Int) = l.getD k 0 := by
  have := byteAt_app l ByteArray.empty k hk hb
  rwa [ByteArray.append_empty] at this
/-- The eight bytes of a number. -/
def wL (x : Nat) : List Int := (List.range 8).map fun j => ((x / 256 ^ j % 256 : Nat) : Int)
theorem wL_length (x : Nat) : (wL x).length = 8 := by simp [wL]
theorem wL_at (x : Nat) {j : Nat} (h : j < 8) : (wL x).getD j 0 = ((x / 256 ^ j % 256 : Nat) : Int) := by simp [wL, List.getD_eq_getElem?_getD, h]
theorem wL_ok (x : Nat) : ∀ y ∈ wL x, 0 ≤ y ∧ y < 256 := by
  intro y hy
  simp only [wL, List.mem_map] at hy
  obtain ⟨j, _, rfl⟩ := hy
  omega
/-- The text of a number. -/
def wStr (x : Nat) : ByteArray := strOfNums (wL x)
theorem wStr_size (x : Nat) : (wStr x).size = 8 := by unfold wStr; rw [strOfNums_size, wL_length]
theorem wStr_at (x : Nat) {j : Nat} (h : j < 8) : byteAt (wStr x) j = x / 256 ^ j % 256 := by
  have := nums_at (wL x) j (by rw [wL_length]; exact h) (wL_ok x)
  rw [wL_at x h] at this
  exact Int.ofNat_inj.1 this
theorem wStr_word {x : Nat} (h : x < 2 ^ 64) : wordN (wStr x) = x :=
  bytes_ext (wordN_lt _) h fun j hj => by rw [wordN_at _ hj, wStr_at _ hj]
theorem word_wStr {s : ByteArray} (h : s.size = 8) : wStr (wordN s) = s :=
  str_ext (by rw [wStr_size, h]) fun j hj => by rw [wStr_size] at hj; rw [wStr_at _ hj, wordN_at _ hj]
theorem wStr_inj {x y : Nat} (hx : x < 2 ^ 64) (hy : y < 2 ^ 64) (h : wStr x = wStr y) : x = y := by
  rw [← wStr_word hx, ← wStr_word hy, h]
/-- The bytes with a bit inverted are those of the number with it inverted. -/
theorem wL_flip (x b : Nat) : (wL x).set (b / 8) ((x / 256 ^ (b / 8) % 256 ^^^ 2 ^ (b % 8) : Nat) : Int) = wL (x ^^^ 2 ^ b) := by
  apply List.ext_getElem
  · simp [wL_length]
  · intro k h1 h2
    rw [wL_length] at h2
    have e1 := wL_at x h2
    have e2 := wL_at (x ^^^ 2 ^ b) h2
    rw [List.getD_eq_getElem?_getD, List.getElem?_eq_getElem (by rw [wL_length]; exact h2)] at e1 e2
    simp only [Option.getD_some] at e1 e2
    rw [List.getElem_set, e2, xor_byte, two_byte]
    by_cases hk : b / 8 = k
    · rw [if_pos hk, if_pos hk.symm, ← hk]
    · rw [if_neg hk, if_neg (fun e => hk e.symm), e1, Nat.xor_zero]
/-- What EncodeFixed makes of the integer with these bits. -/
theorem encF_word {x : Nat} (h : x < 2 ^ 64) : encF (wrap64 (x : Int)) 8 = wL x := by
  have hn1 : -9223372036854775808 ≤ wrap64 (x : Int) := by unfold wrap64; omega
  have hn2 : wrap64 (x : Int) ≤ 9223372036854775807 := by unfold wrap64; omega
  have hm : (wrap64 (x : Int) % 18446744073709551616).toNat = x := by unfold wrap64; omega
  apply List.ext_getElem
  · rw [encF_length, wL_length]
  · intro k h1 h2
    rw [wL_length] at h2
    have e1 := encF_getD (wrap64 (x : Int)) 8 k h2
    have e2 := wL_at x h2
    rw [List.getD_eq_getElem?_getD, List.getElem?_eq_getElem h1] at e1
    rw [List.getD_eq_getElem?_getD, List.getElem?_eq_getElem (by rw [wL_length]; exact h2)] at e2
    simp only [Option.getD_some] at e1 e2
    rw [e1, e2, u8_wrap_mod, enc_byte _ hn1 hn2 k h2, hm]
/-- What DecodeFixed makes of a word. -/
theorem fix_word (s : ByteArray) : fixF s 8 = wrap64 (wordN s : Int) := by
  have := fix_bytes s (wordN s) (wordN_lt s) (fun k hk => (wordN_at s hk).symm) 8 (by omega)
  rw [this, Nat.mod_eq_of_lt (by rw [show (256 : Nat) ^ 8 = 2 ^ 64 by decide]; exact wordN_lt s)]
end Go.Proofs.YthenilomgbnpeaaGreatDoor
