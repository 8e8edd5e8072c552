/- The proof's own lemmas, part 2 of 8: Scr EncN CodN Fixed FixN WordN EccN WdN DecN PopN Pop EncF CwI EccI CorI. -/
import Derived.Test.YtlmdpdidjldkpaaGreatDoorProg
import Derived.Test.YtlmdpdidjldkpaaGreatDoorMg0
import Derived.StillTailTactics
import Derived.WalkKit
import Derived.ProofKit
import Derived.Lib.Hide
import Derived.Deep.DeepMust
import Derived.RegionTactic
import Derived.Deep.RegionHeld3
import Derived.ChangeAlike
import Derived.Deep.MidRow
import Derived.Below
import Derived.Lib.Strings
import Derived.Lib.Slices
import Derived.Lib.Small
import Derived.Lib.Walk
import Derived.Lib.BitFns
/- Scrambling, in the model and in the program: the contracts. -/
namespace Go.Proofs.YtlmdpdidjldkpaaGreatDoor
open Go.RowKit

theorem xorL_set (s key : ByteArray) (n k : Nat) (hk : k < n) : ∀ (r : List Int), r.length = n → ((xorL s key k ++ r.drop k).set k ((byteAt s k ^^^ byteAt key k : Nat) : Int)) = xorL s key (k + 1) ++ r.drop (k + 1) := by
  intro r hr
  have e : r.drop k = r[k] :: r.drop (k + 1) := List.drop_eq_getElem_cons (by omega)
  rw [List.set_append_right _ _ (by rw [xorL_length]; omega), xorL_length, Nat.sub_self, e, List.set_cons_zero, xorL, List.append_assoc]
  rfl
/-- The bytes of a text as integers. -/
def nums (s : ByteArray) : List Int := s.data.toList.map fun b => (b.toNat : Int)
theorem nums_length (s : ByteArray) : (nums s).length = s.size := by simp [nums]
theorem nums_get (s : ByteArray) (k : Nat) (h : k < s.size) : (nums s).getD k 0 = (byteAt s k : Int) := by
  have h' : k < s.data.toList.length := by simpa using h
  unfold nums byteAt
  rw [List.getD_eq_getElem?_getD, List.getElem?_map, List.getD_eq_getElem?_getD, List.getElem?_eq_getElem h']; rfl

set_option maxRecDepth 100000 in
theorem implScr_yes (p : Int) (s : ByteArray) (w : World) (h0 : 0 ≤ p) (h1 : p ≤ 65534) (hs : s.size ≤ 256) :
    Calls Tryz.prog 27 #[.int .i64 p, .string s] w fun e w' => e = .returned (.tuple #[.string (strOfNums (xorL s (strOfNums (streamL (p.toNat + 1) s.size)) s.size)), .int .i64 0]) ∧ Below w.heap.size w w' := by
  obtain ⟨n, rfl⟩ := Int.eq_ofNat_of_zero_le h0
  rw [Int.toNat_natCast]
  have hn1 : 1 ≤ n + 1 := by omega
  have hn2 : n + 1 < 65536 := by omega
  have hkey : (strOfNums (streamL (n + 1) s.size)).size = s.size := by rw [strOfNums_size, streamL_length]
  obtain ⟨key, hk⟩ : ∃ key, key = strOfNums (streamL (n + 1) s.size) := ⟨_, rfl⟩
  rw [← hk] at hkey ⊢
  have HK := Lib.hid hk
  have HKey := Lib.hid hkey
  clear hk hkey
  go_enter Tryz.func27, Tryz.ntmps27
  go_wp2_with (first
    | (go_at_call 52; refine (implSeed_yes _ _ h0 h1).mono ?_; rintro e w' ⟨rfl, rfl⟩)
    | (go_at_call 51; refine (implKey_yes (n + 1) s.size _ hn1 hn2 hs).mono ?_; rintro e w1 ⟨rfl, hb1⟩; rw [← HK.out])
    | (refine wpList_str_bytes rfl _ rfl s rfl hb1 hb1.size ?_; intro cap w2 hat hz2 hb2))
  have hz1 := hb1.size
  go_loopw [25] (fun i wr => ∃ k : Nat, k ≤ s.size ∧ i = .int .i64 k ∧ BytesAt wr w1.heap.size (xorL s key k ++ (nums s).drop k) ∧ Below w.heap.size w wr) (fun i _ => s.size - (intOf i).toNat)
  case atStart => exact ⟨0, Nat.zero_le _, rfl, hat, hb2⟩
  case round =>
    clear hat hb2
    obtain ⟨k, hk, rfl, hat, hb⟩ := hrel
    have hnl := nums_length s
    by_cases hlt : k < s.size
    · have hlt2 : k < key.size := by rw [HKey.out]; exact hlt
      have hi2 : (k : Int) < (key.size : Int) := by omega
      have hll : (xorL s key k ++ (nums s).drop k).length = s.size := by simp [xorL_length, hnl]; omega
      have hcell := (hat k (by omega)).1
      have hfree := (hat k (by omega)).2
      have hg : (xorL s key k ++ (nums s).drop k).getD k 0 = (byteAt s k : Int) := by
        rw [List.getD_eq_getElem?_getD, List.getElem?_append_right (by rw [xorL_length]; omega), xorL_length, Nat.sub_self, List.getElem?_drop, Nat.add_zero, ← List.getD_eq_getElem?_getD, nums_get s k hlt]
      rw [hg] at hcell
      have HX : Hid (bits .xor .u8 (byteAt s k : Int) (key[k].toNat : Int) = ((byteAt s k ^^^ byteAt key k : Nat) : Int)) := by
        have h1 := byteAt_le s k
        have h2 := byteAt_le key k
        rw [byteAt_eq hlt2]; exact u8_xor_nat _ _ (by omega) (by omega)
      have hnext := hat.set_ (k := k) (by omega) (bits .xor .u8 (byteAt s k : Int) (key[k].toNat : Int))
      have hb' := hb.setCell (p := ⟨w1.heap.size, k, none⟩) hz1 (.int .u8 (bits .xor .u8 (byteAt s k : Int) (key[k].toNat : Int)))
      have HS := Lib.hid (xorL_set s key s.size k hlt (nums s) hnl)
      clear hat hb hg hll hnl
      go_wp2
      go_region
      all_goals
        go_wp2
        go_roundw
        case rel => exact ⟨k + 1, by omega, by go_num, by rw [← HS.out, ← HX.out]; exact hnext.drew, hb'.drew⟩
        case measure => simp [intOf]; omega
    · have hcv := hat.str (cap := cap)
      have e : xorL s key k ++ (nums s).drop k = xorL s key s.size := by rw [show s.size = k by omega, List.drop_eq_nil_of_le (by omega), List.append_nil]
      rw [e, xorL_length] at hcv
      clear hat e hnl
      go_wp2
      go_ret2
      exact ⟨rfl, hb⟩
theorem implScr_no (p : Int) (s : ByteArray) (w : World) (h : (p < 0 ∨ 65534 < p) ∨ 256 < s.size) (hs : s.size ≤ 9223372036854775807) :
    Calls Tryz.prog 27 #[.int .i64 p, .string s] w fun e w' => e = .returned (.tuple #[.string ⟨#[]⟩, .int .i64 2]) ∧ Below w.heap.size w w' := by
  by_cases hp : p < 0 ∨ 65534 < p
  · clear h
    go_enter Tryz.func27, Tryz.ntmps27
    go_wp2_with (first
      | (go_at_call 52; refine (implSeed_no _ _ hp).mono ?_; rintro e w' ⟨rfl, rfl⟩)
      | (go_at_call 51; refine (implKey_no 0 s.size _ (by omega)).mono ?_; rintro e w1 ⟨rfl, hb1⟩))
    go_ret2
    exact ⟨rfl, hb1⟩
  · have h0 : 0 ≤ p := by omega
    have h1 : p ≤ 65534 := by omega
    have h2 : 256 < s.size := by omega
    clear h hp
    go_enter Tryz.func27, Tryz.ntmps27
    go_wp2_with (first
      | (go_at_call 52; refine (implSeed_yes _ _ h0 h1).mono ?_; rintro e w' ⟨rfl, rfl⟩)
      | (go_at_call 51; refine (implKey_no (p + 1) s.size _ (by omega)).mono ?_; rintro e w1 ⟨rfl, hb1⟩))
    go_ret2
    exact ⟨rfl, hb1⟩
theorem specScr_yes (p : Int) (s : ByteArray) (w : World) (h0 : 0 ≤ p) (h1 : p ≤ 65534) (hs : s.size ≤ 256) :
    Calls Tryz.prog 65 #[.int .i64 p, .string s] w fun e w' => e = .returned (.tuple #[.string (strOfNums (xorL s (strOfNums (streamL (p.toNat + 1) s.size)) s.size)), .int .i64 0]) ∧ Below w.heap.size w w' := by
  obtain ⟨n, rfl⟩ := Int.eq_ofNat_of_zero_le h0
  rw [Int.toNat_natCast]
  have hn2 : n + 1 < 65536 := by omega
  have hkey : s.size = (strOfNums (streamL (n + 1) s.size)).size := by rw [strOfNums_size, streamL_length]
  have HKey := Lib.hid hkey
  have hd : decide (256 < (s.size : Int)) = false := by simp; omega
  clear hkey
  go_enter Tryz.func65, Tryz.ntmps65
  go_wp2_with (first
    | (go_at_call 32; refine (l00In_yes _ _ _ _ h0 h1).mono ?_; rintro e w' ⟨rfl, rfl⟩)
    | (go_at_call 86; refine (specStream_any (n + 1) s.size _ hn2 (by omega)).mono ?_; rintro e w1 ⟨rfl, hb1⟩)
    | (go_at_call 85; refine (specXor_any s _ _ HKey.out (by omega)).mono ?_; rintro e w2 ⟨rfl, hb2⟩))
  go_ret2
  exact ⟨rfl, hb1.trans (hb2.mono hb1.size)⟩
theorem specScr_no (p : Int) (s : ByteArray) (w : World) (h : (p < 0 ∨ 65534 < p) ∨ 256 < s.size) (hs : s.size ≤ 9223372036854775807) :
    Calls Tryz.prog 65 #[.int .i64 p, .string s] w fun e w' => e = .returned (.tuple #[.string ⟨#[]⟩, .int .i64 2]) ∧ Below w.heap.size w w' := by
  by_cases hp : p < 0 ∨ 65534 < p
  · clear h
    go_enter Tryz.func65, Tryz.ntmps65
    go_wp2_with (go_at_call 32; refine (l00In_no _ _ _ _ hp).mono ?_; rintro e w' ⟨rfl, rfl⟩)
    go_ret2
    exact ⟨rfl, Below.refl _ _⟩
  · have h0 : 0 ≤ p := by omega
    have h1 : p ≤ 65534 := by omega
    have h2 : 256 < s.size := by omega
    have hd : decide (256 < (s.size : Int)) = true := by simp; omega
    clear h hp
    go_enter Tryz.func65, Tryz.ntmps65
    go_wp2_with (go_at_call 32; refine (l00In_yes _ _ _ _ h0 h1).mono ?_; rintro e w' ⟨rfl, rfl⟩)
    go_ret2
    exact ⟨rfl, Below.refl _ _⟩
end Go.Proofs.YtlmdpdidjldkpaaGreatDoor
/- Plain facts on the fixed-size encoding. -/
namespace Go.Proofs.YtlmdpdidjldkpaaGreatDoor
open Go.RowKit

/-- The bytes of the first k. -/
def encF (n : Int) : Nat → List Int
  | 0 => []
  | k + 1 => encF n k ++ [IntKind.u8.wrap (n / 2 ^ (8 * k))]
theorem encF_length (n : Int) : ∀ k, (encF n k).length = k
  | 0 => rfl
  | k + 1 => by simp [encF, encF_length n k]

end Go.Proofs.YtlmdpdidjldkpaaGreatDoor
/- Plain facts on the codec: what the decoders answer at what the encoders made, bytes behind it or not. -/
namespace Go.Proofs.YtlmdpdidjldkpaaGreatDoor
open Go.RowKit

theorem byteAt_app (l : List Int) (r : ByteArray) (k : Nat) (hk : k < l.length) (hb : ∀ x ∈ l, 0 ≤ x ∧ x < 256) : (byteAt (strOfNums l ++ r) k : Int) = l.getD k 0 := by
  have h1 := hb _ (List.getElem_mem hk)
  unfold byteAt
  rw [ByteArray.data_append, Array.toList_append, strOfNums_data, List.getD_eq_getElem?_getD, List.getElem?_append_left (by simpa using hk), List.getElem?_map, List.getD_eq_getElem?_getD, List.getElem?_eq_getElem hk]
  simp only [Option.map_some, Option.getD_some]
  rw [UInt8.toNat_ofNat']
  omega

def Reads (t : ByteArray) (i x : Nat) : Prop := ∀ j, j < (uv x).length → (byteAt t (i + j) : Int) = (uv x).getD j 0
theorem reads_small {t : ByteArray} {i x : Nat} (h : Reads t i x) (hx : x < 128) : byteAt t i = x := by
  have := h 0 (by rw [uv_small hx]; simp)
  rw [uv_small hx] at this
  simp at this
  omega
theorem reads_big {t : ByteArray} {i x : Nat} (h : Reads t i x) (hx : ¬ x < 128) : byteAt t i = x % 128 + 128 ∧ Reads t (i + 1) (x / 128) := by
  constructor
  · have := h 0 (by rw [uv_big hx]; simp)
    rw [uv_big hx] at this
    simp at this
    omega
  · intro j hj
    have := h (j + 1) (by rw [uv_big hx]; simpa using hj)
    rw [uv_big hx] at this
    rw [show i + 1 + j = i + (j + 1) by omega, this]
    simp
theorem acc_reads (t : ByteArray) : ∀ (f x i : Nat), x < 128 ^ f → Reads t i x → acc t (i + (uv x).length) = acc t i + x * 128 ^ i
  | 0, x, i, hf, h => by
    have hx : x < 128 := by simp at hf; omega
    have hb := reads_small h hx
    rw [uv_small hx]
    show acc t (i + 1) = _
    rw [acc, hb, Nat.mod_eq_of_lt hx]
  | f + 1, x, i, hf, h => by
    by_cases hx : x < 128
    · have hb := reads_small h hx
      rw [uv_small hx]
      show acc t (i + 1) = _
      rw [acc, hb, Nat.mod_eq_of_lt hx]
    · obtain ⟨hb, hr⟩ := reads_big h hx
      have ih := acc_reads t f (x / 128) (i + 1) (by rw [Nat.div_lt_iff_lt_mul (by decide)]; rw [Nat.pow_succ] at hf; exact hf) hr
      rw [uv_big hx, List.length_cons, show i + ((uv (x / 128)).length + 1) = i + 1 + (uv (x / 128)).length by omega, ih, acc, hb]
      have e1 : (x % 128 + 128) % 128 = x % 128 := by omega
      have e2 : x / 128 * 128 ^ (i + 1) = (128 * (x / 128)) * 128 ^ i := by rw [Nat.pow_succ, Nat.mul_comm (128 ^ i), ← Nat.mul_assoc, Nat.mul_comm (x / 128)]
      rw [e1, e2, Nat.add_assoc, ← Nat.add_mul, show x % 128 + 128 * (x / 128) = x by omega]
theorem decF_reads (t : ByteArray) : ∀ (f x i : Nat), (uv x).length ≤ f → i + (uv x).length ≤ t.size → i + (uv x).length ≤ 9 → Reads t i x → uv (acc t (i + (uv x).length)) = takeB t (i + (uv x).length) → decF t f i = i + (uv x).length
  | 0, x, i, hf, _, _, _, _ => by have := uv_pos x; omega
  | f + 1, x, i, hf, hs, h9, h, hc => by
    by_cases hx : x < 128
    · have hb := reads_small h hx
      rw [uv_small hx] at hs h9 hc ⊢
      exact decF_yes (by simp at hs; omega) (by simp at h9; omega) (by omega) hc
    · obtain ⟨hb, hr⟩ := reads_big h hx
      have hp := uv_pos (x / 128)
      rw [uv_big hx, List.length_cons] at hf hs h9 hc ⊢
      rw [decF_next (by omega) (by omega) (by omega)]
      have e : i + ((uv (x / 128)).length + 1) = i + 1 + (uv (x / 128)).length := by omega
      rw [e] at hs h9 hc ⊢
      exact decF_reads t f (x / 128) (i + 1) (by omega) hs h9 hr hc
theorem uv_bytes9 {n : Nat} (h : n < 2 ^ 63) : ∀ x ∈ uv n, 0 ≤ x ∧ x < 256 :=
  uv_bytes 9 n (by rw [show (128 : Nat) ^ 9 = 2 ^ 63 by decide]; exact h)
theorem size_app (a b : ByteArray) : (a ++ b).size = a.size + b.size := ByteArray.size_append
theorem takeB_app (l : List Int) (r : ByteArray) (hb : ∀ x ∈ l, 0 ≤ x ∧ x < 256) : takeB (strOfNums l ++ r) l.length = l := by
  apply List.ext_getElem
  · rw [takeB_length (by rw [size_app, strOfNums_size]; omega)]
  · intro k h1 h2
    have hb2 := hb _ (List.getElem_mem h2)
    unfold takeB
    simp only [ByteArray.data_append, Array.toList_append, strOfNums_data]
    rw [List.getElem_map, List.getElem_take, List.getElem_append_left (by simpa using h2), List.getElem_map, UInt8.toNat_ofNat']
    omega
/-- The decoder answers the number, whatever follows. -/
theorem dec_enc (n : Nat) (r : ByteArray) (h : n < 2 ^ 63) : decUv (strOfNums (uv n) ++ r) = (uv n).length ∧ acc (strOfNums (uv n) ++ r) (uv n).length = n := by
  have hl := uv_len h
  have hr : Reads (strOfNums (uv n) ++ r) 0 n := fun j hj => by rw [Nat.zero_add]; exact byteAt_app _ _ _ hj (uv_bytes9 h)
  have ha := acc_reads (strOfNums (uv n) ++ r) 9 n 0 (by rw [show (128 : Nat) ^ 9 = 2 ^ 63 by decide]; exact h) hr
  rw [Nat.zero_add, Nat.pow_zero, Nat.mul_one] at ha
  have h0 : acc (strOfNums (uv n) ++ r) 0 = 0 := rfl
  rw [h0, Nat.zero_add] at ha
  refine ⟨?_, ha⟩
  have := decF_reads (strOfNums (uv n) ++ r) 10 n 0 (by omega) (by rw [size_app, strOfNums_size]; omega) (by omega) hr (by rw [Nat.zero_add, ha, takeB_app _ _ (uv_bytes9 h)])
  rw [Nat.zero_add] at this
  exact this
/-- What the decoder accepts is the encoding. -/
theorem dec_ok (s : ByteArray) : ∀ f i, 0 < decF s f i → uv (acc s (decF s f i)) = takeB s (decF s f i)
  | 0, i, h => by simp [decF] at h
  | f + 1, i, h => by
    unfold decF at h ⊢
    by_cases h1 : i < s.size ∧ i < 9
    · rw [if_pos h1] at h ⊢
      by_cases h2 : byteAt s i < 128
      · rw [if_pos h2] at h ⊢
        by_cases h3 : uv (acc s (i + 1)) = takeB s (i + 1)
        · rw [if_pos h3]; exact h3
        · rw [if_neg h3] at h; omega
      · rw [if_neg h2] at h ⊢
        exact dec_ok s f (i + 1) h
    · rw [if_neg h1] at h; omega
end Go.Proofs.YtlmdpdidjldkpaaGreatDoor
/- DecodeFixed, in the model and in the program: their contracts. -/
namespace Go.Proofs.YtlmdpdidjldkpaaGreatDoor
open Go.RowKit

/-- The integer of the first k bytes. -/
def fixF (s : ByteArray) : Nat → Int
  | 0 => 0
  | k + 1 => bits .or .i64 (fixF s k) (wrap64 ((byteAt s k : Int) * 2 ^ (8 * k)))

theorem implDecFixed_short (s : ByteArray) (w : World) (hs : s.size ≤ 8) :
    Calls Tryz.prog 89 #[.string s] w fun e w' => e = .returned (.int .i64 (fixF s s.size)) ∧ w = w' := by
  go_enter Tryz.func89, Tryz.ntmps89
  go_wp2
  go_loop [3, 10] (fun n i => ∃ k : Nat, k ≤ s.size ∧ i = .int .i64 k ∧ n = .int .i64 (fixF s k)) (fun _ i => s.size - (intOf i).toNat)
  case atStart => exact ⟨0, Nat.zero_le _, rfl, rfl⟩
  case round =>
    obtain ⟨k, hk, rfl, rfl⟩ := hrel
    by_cases hlt : k < s.size
    · have hb := byteAt_eq hlt
      have hl := byteAt_le s k
      rw [← hb] at hl
      have HB := Lib.hid hb; clear hb
      go_wp2
      go_round
      case rel => exact ⟨k + 1, by omega, by go_num, by rw [HB.out]; rfl⟩
      case measure => simp [intOf]; omega
    · go_wp2
      go_ret
      exact ⟨ret_int (by rw [show s.size = k by omega]), rfl⟩
theorem implDecFixed_long (s : ByteArray) (w : World) (hs : 8 < s.size) :
    Calls Tryz.prog 89 #[.string s] w fun e w' => e = .returned (.int .i64 0) ∧ w = w' := by
  go_enter Tryz.func89, Tryz.ntmps89
  go_wp2
  go_ret
  exact ⟨rfl, rfl⟩
end Go.Proofs.YtlmdpdidjldkpaaGreatDoor
/- Plain facts on the fixed-size encoding: eight bytes give the integer back. -/
namespace Go.Proofs.YtlmdpdidjldkpaaGreatDoor
open Go.RowKit

theorem or_wrap (a b : Nat) (ha : a < 2 ^ 64) (hb : b < 2 ^ 64) : bits .or .i64 (wrap64 (a : Int)) (wrap64 (b : Int)) = wrap64 ((a ||| b : Nat) : Int) := by
  have e : ∀ x : Nat, x < 2 ^ 64 → (BitVec.ofInt 64 (wrap64 (x : Int))).toNat = x := by
    intro x hx
    rw [BitVec.toNat_ofInt]
    unfold wrap64
    omega
  have h1 : bits .or .i64 (wrap64 (a : Int)) (wrap64 (b : Int)) = IntKind.i64.wrap ((BitVec.ofInt 64 (wrap64 (a : Int)) ||| BitVec.ofInt 64 (wrap64 (b : Int))).toNat : Int) := rfl
  rw [h1, BitVec.toNat_or, e a ha, e b hb]
  exact IntWalk.i64_left _
theorem fix_bytes (s : ByteArray) (U : Nat) (hU : U < 2 ^ 64) (hb : ∀ k, k < 8 → byteAt s k = U / 256 ^ k % 256) : ∀ k, k ≤ 8 → fixF s k = wrap64 ((U % 256 ^ k : Nat) : Int)
  | 0, _ => by rw [Nat.pow_zero, Nat.mod_one, fixF]; unfold wrap64; omega
  | k + 1, hk => by
    have ih := fix_bytes s U hU hb k (by omega)
    have e256 : (256 : Nat) ^ k = 2 ^ (8 * k) := by rw [Nat.pow_mul]
    have hp : (256 : Nat) ^ k ≤ 256 ^ 7 := Nat.pow_le_pow_right (by decide) (by omega)
    have h7 : (256 : Nat) ^ 7 = 72057594037927936 := by decide
    have hlt : U % 256 ^ k < 2 ^ (8 * k) := by rw [← e256]; exact Nat.mod_lt _ (Nat.pow_pos (by decide))
    have hby : U / 256 ^ k % 256 * 256 ^ k ≤ 255 * 256 ^ k := Nat.mul_le_mul_right _ (by omega)
    have ec : ((byteAt s k : Nat) : Int) * 2 ^ (8 * k) = ((U / 256 ^ k % 256 * 256 ^ k : Nat) : Int) := by
      rw [hb k (by omega), Int.natCast_mul, e256, Int.natCast_pow]; rfl
    rw [fixF, ih, ec, or_wrap _ _ (by omega) (by omega)]
    congr 2
    have := Nat.two_pow_add_eq_or_of_lt hlt (U / 256 ^ k % 256)
    rw [Nat.mod_pow_succ, Nat.or_comm, Nat.mul_comm (U / 256 ^ k % 256), Nat.add_comm]
    rw [← e256] at this
    exact this.symm
theorem encF_getD (n : Int) : ∀ (m k : Nat), k < m → (encF n m).getD k 0 = IntKind.u8.wrap (n / 2 ^ (8 * k))
  | 0, k, h => by omega
  | m + 1, k, h => by
    rw [encF]
    by_cases hk : k < m
    · have := encF_getD n m k hk
      rw [List.getD_eq_getElem?_getD] at this ⊢
      rw [List.getElem?_append_left (by rw [encF_length]; exact hk)]
      exact this
    · obtain rfl : k = m := by omega
      rw [List.getD_eq_getElem?_getD, List.getElem?_append_right (by rw [encF_length]; omega), encF_length, Nat.sub_self]
      rfl
theorem u8_wrap_mod (x : Int) : IntKind.u8.wrap x = x % 256 := by rw [IntKind.wrap_u8']
theorem enc_byte (n : Int) (h1 : -9223372036854775808 ≤ n) (h2 : n ≤ 9223372036854775807) (k : Nat) (hk : k < 8) : n / 2 ^ (8 * k) % 256 = (((n % 18446744073709551616).toNat / 256 ^ k % 256 : Nat) : Int) := by
  match k, hk with
  | 0, _ => simp only [Nat.mul_zero, Int.pow_zero, Nat.pow_zero]; omega
  | 1, _ => rw [show (2 : Int) ^ (8 * 1) = 256 by decide, show (256 : Nat) ^ 1 = 256 by decide]; omega
  | 2, _ => rw [show (2 : Int) ^ (8 * 2) = 65536 by decide, show (256 : Nat) ^ 2 = 65536 by decide]; omega
  | 3, _ => rw [show (2 : Int) ^ (8 * 3) = 16777216 by decide, show (256 : Nat) ^ 3 = 16777216 by decide]; omega
  | 4, _ => rw [show (2 : Int) ^ (8 * 4) = 4294967296 by decide, show (256 : Nat) ^ 4 = 4294967296 by decide]; omega
  | 5, _ => rw [show (2 : Int) ^ (8 * 5) = 1099511627776 by decide, show (256 : Nat) ^ 5 = 1099511627776 by decide]; omega
  | 6, _ => rw [show (2 : Int) ^ (8 * 6) = 281474976710656 by decide, show (256 : Nat) ^ 6 = 281474976710656 by decide]; omega
  | 7, _ => rw [show (2 : Int) ^ (8 * 7) = 72057594037927936 by decide, show (256 : Nat) ^ 7 = 72057594037927936 by decide]; omega
theorem fix_back (n : Int) (h1 : -9223372036854775808 ≤ n) (h2 : n ≤ 9223372036854775807) : fixF (strOfNums (encF n 8)) 8 = n := by
  obtain ⟨U, hU⟩ : ∃ U, U = (n % 18446744073709551616).toNat := ⟨_, rfl⟩
  have hUl : U < 2 ^ 64 := by omega
  have hb : ∀ k, k < 8 → byteAt (strOfNums (encF n 8)) k = U / 256 ^ k % 256 := by
    intro k hk
    have e := encF_getD n 8 k hk
    have e2 := enc_byte n h1 h2 k hk
    rw [u8_wrap_mod, e2, ← hU] at e
    have hs := byteAt_app (encF n 8) ByteArray.empty k (by rw [encF_length]; exact hk) (by
      intro x hx
      obtain ⟨j, hj, rfl⟩ := List.mem_iff_getElem.1 hx
      have := encF_getD n 8 j (by rw [encF_length] at hj; exact hj)
      rw [List.getD_eq_getElem?_getD, List.getElem?_eq_getElem hj, u8_wrap_mod] at this
      simp only [Option.getD_some] at this
      omega)
    rw [ByteArray.append_empty, e] at hs
    omega
  have := fix_bytes _ U hUl hb 8 (by omega)
  rw [this, Nat.mod_eq_of_lt (by rw [show (256 : Nat) ^ 8 = 2 ^ 64 by decide]; exact hUl)]
  unfold wrap64
  omega

/-- A text with its length before it, whatever follows. -/
theorem str_back (w r : ByteArray) (h : w.size < 2 ^ 63) : (strOfNums (uv w.size) ++ w ++ r).extract (uv w.size).length ((uv w.size).length + w.size) = w := by
  apply ByteArray.ext
  apply Array.toList_inj.1
  rw [ByteArray.data_extract, Array.toList_extract, ByteArray.data_append, ByteArray.data_append, Array.toList_append, Array.toList_append, strOfNums_data]
  have e : (uv w.size).length = ((uv w.size).map fun n => UInt8.ofNat n.toNat).length := by simp
  have hw : w.data.toList.length = w.size := by simp
  rw [List.append_assoc]
  simp only [List.extract_eq_take_drop]
  rw [e, List.drop_left, show ((uv w.size).map fun n => UInt8.ofNat n.toNat).length + w.size - ((uv w.size).map fun n => UInt8.ofNat n.toNat).length = w.data.toList.length by omega, List.take_left]
end Go.Proofs.YtlmdpdidjldkpaaGreatDoor
/- Plain facts on words of eight bytes: the number of a text, the text of a number, a bit inverted. -/
namespace Go.Proofs.YtlmdpdidjldkpaaGreatDoor
open Go.RowKit

/-- The number of the bytes f 0, f 1, .. below k. -/
def wN (f : Nat → Nat) : Nat → Nat
  | 0 => 0
  | k + 1 => wN f k + f k * 256 ^ k
theorem wN_lt {f : Nat → Nat} (h : ∀ j, f j < 256) : ∀ k, wN f k < 256 ^ k
  | 0 => by simp [wN]
  | k + 1 => by
    have := wN_lt h k
    have h2 : f k * 256 ^ k ≤ 255 * 256 ^ k := Nat.mul_le_mul_right _ (by have := h k; omega)
    rw [wN, Nat.pow_succ]; omega
theorem wN_at {f : Nat → Nat} (h : ∀ j, f j < 256) : ∀ k j, j < k → wN f k / 256 ^ j % 256 = f j
  | 0, j, hj => by omega
  | k + 1, j, hj => by
    have hp : 0 < 256 ^ j := Nat.pow_pos (by decide)
    by_cases hjk : j < k
    · have e : 256 ^ k = 256 ^ j * (256 * 256 ^ (k - j - 1)) := by
        rw [show (256 : Nat) * 256 ^ (k - j - 1) = 256 ^ (k - j) by rw [Nat.mul_comm, ← Nat.pow_succ]; congr 1; omega, ← Nat.pow_add]; congr 1; omega
      rw [wN, e, show f k * (256 ^ j * (256 * 256 ^ (k - j - 1))) = 256 ^ j * (256 * (f k * 256 ^ (k - j - 1))) by
        rw [Nat.mul_left_comm, Nat.mul_left_comm (f k)], Nat.add_mul_div_left _ _ hp, Nat.add_mul_mod_self_left]
      exact wN_at h k j hjk
    · obtain rfl : j = k := by omega
      rw [wN, Nat.add_mul_div_right _ _ hp, Nat.div_eq_of_lt (wN_lt h j), Nat.zero_add]
      exact Nat.mod_eq_of_lt (h j)
theorem wN_congr {f g : Nat → Nat} : ∀ k, (∀ j, j < k → f j = g j) → wN f k = wN g k
  | 0, _ => rfl
  | k + 1, h => by rw [wN, wN, wN_congr k (fun j hj => h j (by omega)), h k (by omega)]
theorem wN_digits (x : Nat) : ∀ k, wN (fun j => x / 256 ^ j % 256) k = x % 256 ^ k
  | 0 => by rw [Nat.pow_zero, Nat.mod_one]; rfl
  | k + 1 => by rw [wN, wN_digits x k, Nat.mod_pow_succ, Nat.mul_comm]
/-- A number is known by its bytes. -/
theorem bytes_ext {x y : Nat} (hx : x < 2 ^ 64) (hy : y < 2 ^ 64) (h : ∀ j, j < 8 → x / 256 ^ j % 256 = y / 256 ^ j % 256) : x = y := by
  have e := wN_congr (f := fun j => x / 256 ^ j % 256) (g := fun j => y / 256 ^ j % 256) 8 h
  rw [wN_digits, wN_digits, Nat.mod_eq_of_lt (by rw [show (256 : Nat) ^ 8 = 2 ^ 64 by decide]; exact hx), Nat.mod_eq_of_lt (by rw [show (256 : Nat) ^ 8 = 2 ^ 64 by decide]; exact hy)] at e
  exact e

/-- The number of a text's first eight bytes. -/
def wordN (s : ByteArray) : Nat := wN (byteAt s) 8
theorem byteAt_lt (s : ByteArray) (k : Nat) : byteAt s k < 256 := by have := byteAt_le s k; omega
theorem wordN_lt (s : ByteArray) : wordN s < 2 ^ 64 := wN_lt (byteAt_lt s) 8
theorem wordN_at (s : ByteArray) {j : Nat} (h : j < 8) : wordN s / 256 ^ j % 256 = byteAt s j := wN_at (byteAt_lt s) 8 j h
theorem bit_byte (x b : Nat) : x / 2 ^ b % 2 = x / 256 ^ (b / 8) % 256 / 2 ^ (b % 8) % 2 := by
  have e : x / 2 ^ b = x / 256 ^ (b / 8) / 2 ^ (b % 8) := by
    rw [show (256 : Nat) ^ (b / 8) = 2 ^ (8 * (b / 8)) by rw [Nat.pow_mul], Nat.div_div_eq_div_mul, ← Nat.pow_add]
    congr 2; omega
  rw [e]
  generalize x / 256 ^ (b / 8) = y
  have h := Nat.mod_lt b (show 0 < 8 by decide)
  generalize b % 8 = r at *
  match r, h with
  | 0, _ => simp only [Nat.pow_zero]; omega
  | 1, _ => omega
  | 2, _ => omega
  | 3, _ => omega
  | 4, _ => omega
  | 5, _ => omega
  | 6, _ => omega
  | 7, _ => omega
theorem wordN_bit (s : ByteArray) {b : Nat} (h : b < 64) : wordN s / 2 ^ b % 2 = byteAt s (b / 8) / 2 ^ (b % 8) % 2 := by
  rw [bit_byte, wordN_at s (by omega)]
theorem xor_byte (x y j : Nat) : (x ^^^ y) / 256 ^ j % 256 = (x / 256 ^ j % 256) ^^^ (y / 256 ^ j % 256) := by
  rw [show (256 : Nat) ^ j = 2 ^ (8 * j) by rw [Nat.pow_mul], Nat.xor_div_two_pow]
  exact Nat.xor_mod_two_pow (n := 8)
theorem two_byte (b j : Nat) : 2 ^ b / 256 ^ j % 256 = if j = b / 8 then 2 ^ (b % 8) else 0 := by
  rw [show (256 : Nat) ^ j = 2 ^ (8 * j) by rw [Nat.pow_mul]]
  by_cases h1 : b < 8 * j
  · rw [Nat.div_eq_of_lt (Nat.pow_lt_pow_right (by decide) h1), if_neg (by omega)]
  · rw [Nat.pow_div (by omega) (by decide)]
    by_cases h2 : j = b / 8
    · rw [if_pos h2, show b - 8 * j = b % 8 by omega, Nat.mod_eq_of_lt]
      exact Nat.pow_lt_pow_right (n := 8) (by decide) (by omega)
    · rw [if_neg h2, show b - 8 * j = 8 + (b - 8 * j - 8) by omega, Nat.pow_add]
      exact Nat.mul_mod_right ..

theorem str_ext {s t : ByteArray} (hs : s.size = t.size) (h : ∀ j, j < s.size → byteAt s j = byteAt t j) : s = t := by
  apply ByteArray.ext
  apply Array.toList_inj.1
  apply List.ext_getElem
  · simpa using hs
  · intro k h1 h2
    have h1' : k < s.size := by simpa using h1
    have := h k h1'
    unfold byteAt at this
    rw [List.getD_eq_getElem?_getD, List.getElem?_eq_getElem h1, List.getD_eq_getElem?_getD, List.getElem?_eq_getElem h2] at this
    simpa using UInt8.toNat_inj.1 this
theorem nums_at (l : List Int) (k : Nat) (hk : k < l.length) (hb : ∀ x ∈ l, 0 ≤ x ∧ x < 256) : (byteAt (strOfNums l) k : Int) = l.getD k 0 := by
  have := byteAt_app l ByteArray.empty k hk hb
  rwa [ByteArray.append_empty] at this
/-- The eight bytes of a number. -/
def wL (x : Nat) : List Int := (List.range 8).map fun j => ((x / 256 ^ j % 256 : Nat) : Int)
theorem wL_length (x : Nat) : (wL x).length = 8 := by simp [wL]
theorem wL_at (x : Nat) {j : Nat} (h : j < 8) : (wL x).getD j 0 = ((x / 256 ^ j % 256 : Nat) : Int) := by simp [wL, List.getD_eq_getElem?_getD, h]
theorem wL_ok (x : Nat) : ∀ y ∈ wL x, 0 ≤ y ∧ y < 256 := by
  intro y hy
  simp only [wL, List.mem_map] at hy
  obtain ⟨j, _, rfl⟩ := hy
  omega
/-- The text of a number. -/
def wStr (x : Nat) : ByteArray := strOfNums (wL x)
theorem wStr_size (x : Nat) : (wStr x).size = 8 := by unfold wStr; rw [strOfNums_size, wL_length]
theorem wStr_at (x : Nat) {j : Nat} (h : j < 8) : byteAt (wStr x) j = x / 256 ^ j % 256 := by
  have := nums_at (wL x) j (by rw [wL_length]; exact h) (wL_ok x)
  rw [wL_at x h] at this
  exact Int.ofNat_inj.1 this
theorem wStr_word {x : Nat} (h : x < 2 ^ 64) : wordN (wStr x) = x :=
  bytes_ext (wordN_lt _) h fun j hj => by rw [wordN_at _ hj, wStr_at _ hj]
theorem word_wStr {s : ByteArray} (h : s.size = 8) : wStr (wordN s) = s :=
  str_ext (by rw [wStr_size, h]) fun j hj => by rw [wStr_size] at hj; rw [wStr_at _ hj, wordN_at _ hj]
theorem wStr_inj {x y : Nat} (hx : x < 2 ^ 64) (hy : y < 2 ^ 64) (h : wStr x = wStr y) : x = y := by
  rw [← wStr_word hx, ← wStr_word hy, h]
/-- The bytes with a bit inverted are those of the number with it inverted. -/
theorem wL_flip (x b : Nat) : (wL x).set (b / 8) ((x / 256 ^ (b / 8) % 256 ^^^ 2 ^ (b % 8) : Nat) : Int) = wL (x ^^^ 2 ^ b) := by
  apply List.ext_getElem
  · simp [wL_length]
  · intro k h1 h2
    rw [wL_length] at h2
    have e1 := wL_at x h2
    have e2 := wL_at (x ^^^ 2 ^ b) h2
    rw [List.getD_eq_getElem?_getD, List.getElem?_eq_getElem (by rw [wL_length]; exact h2)] at e1 e2
    simp only [Option.getD_some] at e1 e2
    rw [List.getElem_set, e2, xor_byte, two_byte]
    by_cases hk : b / 8 = k
    · rw [if_pos hk, if_pos hk.symm, ← hk]
    · rw [if_neg hk, if_neg (fun e => hk e.symm), e1, Nat.xor_zero]
/-- What EncodeFixed makes of the integer with these bits. -/
theorem encF_word {x : Nat} (h : x < 2 ^ 64) : encF (wrap64 (x : Int)) 8 = wL x := by
  have hn1 : -9223372036854775808 ≤ wrap64 (x : Int) := by unfold wrap64; omega
  have hn2 : wrap64 (x : Int) ≤ 9223372036854775807 := by unfold wrap64; omega
  have hm : (wrap64 (x : Int) % 18446744073709551616).toNat = x := by unfold wrap64; omega
  apply List.ext_getElem
  · rw [encF_length, wL_length]
  · intro k h1 h2
    rw [wL_length] at h2
    have e1 := encF_getD (wrap64 (x : Int)) 8 k h2
    have e2 := wL_at x h2
    rw [List.getD_eq_getElem?_getD, List.getElem?_eq_getElem h1] at e1
    rw [List.getD_eq_getElem?_getD, List.getElem?_eq_getElem (by rw [wL_length]; exact h2)] at e2
    simp only [Option.getD_some] at e1 e2
    rw [e1, e2, u8_wrap_mod, enc_byte _ hn1 hn2 k h2, hm]
/-- What DecodeFixed makes of a word. -/
theorem fix_word (s : ByteArray) : fixF s 8 = wrap64 (wordN s : Int) := by
  have := fix_bytes s (wordN s) (wordN_lt s) (fun k hk => (wordN_at s hk).symm) 8 (by omega)
  rw [this, Nat.mod_eq_of_lt (by rw [show (256 : Nat) ^ 8 = 2 ^ 64 by decide]; exact wordN_lt s)]
end Go.Proofs.YtlmdpdidjldkpaaGreatDoor
/- Plain facts on codewords of 72 bits: positions, syndrome, parity, single errors. -/
namespace Go.Proofs.YtlmdpdidjldkpaaGreatDoor
open Go.RowKit

theorem xorAdd (r n a : Nat) (h : r < 2 ^ n) : r ^^^ 2 ^ n * a = r + 2 ^ n * a := by
  apply Nat.eq_of_testBit_eq
  intro j
  have h1 := Nat.testBit_two_pow_mul_add a h j
  have h2 := Nat.testBit_two_pow_mul_add a (Nat.two_pow_pos n) j
  rw [Nat.add_zero] at h2
  rw [Nat.add_comm r, h1, Nat.testBit_xor, h2]
  by_cases hj : j < n
  · simp [hj]
  · rw [if_neg hj, if_neg hj, Nat.testBit_lt_two_pow (Nat.lt_of_lt_of_le h (Nat.pow_le_pow_right (by decide) (by omega)))]
    simp
/-- Linear in the exclusive or. -/
def Lin (f : Nat → Nat) : Prop := ∀ x y, f (x ^^^ y) = f x ^^^ f y
theorem Lin.zero {f : Nat → Nat} (h : Lin f) : f 0 = 0 := by
  have := h 0 0
  simpa using this
theorem Lin.eq {f g : Nat → Nat} (hf : Lin f) (hg : Lin g) : ∀ n, (∀ b, b < n → f (2 ^ b) = g (2 ^ b)) → ∀ x, x < 2 ^ n → f x = g x
  | 0, _, x, hx => by
    obtain rfl : x = 0 := by simpa using hx
    rw [hf.zero, hg.zero]
  | n + 1, h, x, hx => by
    by_cases hb : x < 2 ^ n
    · exact Lin.eq hf hg n (fun b hb => h b (by omega)) x hb
    · rw [Nat.pow_succ] at hx
      have e : x = (x - 2 ^ n) ^^^ 2 ^ n := by
        have := xorAdd (x - 2 ^ n) n 1 (by omega)
        rw [Nat.mul_one] at this
        omega
      rw [e, hf, hg, Lin.eq hf hg n (fun b hb => h b (by omega)) _ (by omega), h n (by omega)]
theorem Lin.comp {f g : Nat → Nat} (hf : Lin f) (hg : Lin g) : Lin (fun x => f (g x)) := fun x y => by
  show f (g (x ^^^ y)) = f (g x) ^^^ f (g y)
  rw [hg, hf]
theorem Lin.add {f g : Nat → Nat} (hf : Lin f) (hg : Lin g) : Lin (fun x => f x ^^^ g x) := fun x y => by
  show f (x ^^^ y) ^^^ g (x ^^^ y) = (f x ^^^ g x) ^^^ (f y ^^^ g y)
  rw [hf, hg, Nat.xor_assoc, ← Nat.xor_assoc (f y), Nat.xor_comm (f y) (g x), Nat.xor_assoc, ← Nat.xor_assoc (f x)]
theorem Lin.mod (n : Nat) : Lin (fun x => x % 2 ^ n) := fun _ _ => Nat.xor_mod_two_pow
theorem Lin.div (n : Nat) : Lin (fun x => x / 2 ^ n) := fun _ _ => Nat.xor_div_two_pow
theorem Lin.and (m : Nat) : Lin (fun x => x &&& m) := fun _ _ => Nat.and_xor_distrib_right ..
theorem Lin.mul (n : Nat) : Lin (fun x => x * 2 ^ n) := fun x y => by
  show (x ^^^ y) * 2 ^ n = x * 2 ^ n ^^^ y * 2 ^ n
  rw [← Nat.shiftLeft_eq, ← Nat.shiftLeft_eq, ← Nat.shiftLeft_eq, Nat.shiftLeft_xor_distrib]

/-- The exclusive or of what the bits of X below k stand for. -/
def accN (p : Nat → Nat) (X : Nat) : Nat → Nat
  | 0 => 0
  | k + 1 => if X.testBit k = true then accN p X k ^^^ p k else accN p X k
theorem accN_yes {p : Nat → Nat} {X k : Nat} (h : X / 2 ^ k % 2 = 1) : accN p X (k + 1) = accN p X k ^^^ p k := by
  rw [accN, if_pos (by rw [Nat.testBit_eq_decide_div_mod_eq]; simpa using h)]
theorem accN_no {p : Nat → Nat} {X k : Nat} (h : ¬ X / 2 ^ k % 2 = 1) : accN p X (k + 1) = accN p X k := by
  rw [accN, if_neg (by rw [Nat.testBit_eq_decide_div_mod_eq]; simpa using h)]
theorem accN_lin (p : Nat → Nat) : ∀ k, Lin (fun X => accN p X k)
  | 0 => fun _ _ => by simp [accN]
  | k + 1 => fun x y => by
    have ih : accN p (x ^^^ y) k = accN p x k ^^^ accN p y k := accN_lin p k x y
    show accN p (x ^^^ y) (k + 1) = accN p x (k + 1) ^^^ accN p y (k + 1)
    have hA : ∀ a b c : Nat, (a ^^^ b) ^^^ c = (a ^^^ c) ^^^ b := fun a b c => by rw [Nat.xor_assoc, Nat.xor_comm b c, ← Nat.xor_assoc]
    cases hx : x.testBit k <;> cases hy : y.testBit k
    · simp [accN, Nat.testBit_xor, hx, hy, ih]
    · simp [accN, Nat.testBit_xor, hx, hy, ih, Nat.xor_assoc]
    · simp [accN, Nat.testBit_xor, hx, hy, ih, hA]
    · simp only [accN, Nat.testBit_xor, hx, hy, ih, Bool.xor_self, Bool.false_eq_true, if_false, if_true]
      rw [hA, ← Nat.xor_assoc, Nat.xor_assoc (accN p x k ^^^ accN p y k), Nat.xor_self, Nat.xor_zero]
theorem accN_lt {p : Nat → Nat} {n : Nat} (h : ∀ b, p b < 2 ^ n) (X : Nat) : ∀ k, accN p X k < 2 ^ n
  | 0 => Nat.two_pow_pos n
  | k + 1 => by
    have := accN_lt h X k
    rw [accN]
    split
    · exact Nat.xor_lt_two_pow this (h k)
    · exact this

/-- The positions of the bits 0 to 71; the last has none. -/
def posL : List Nat := [3, 5, 6, 7, 9, 10, 11, 12, 13, 14, 15, 17, 18, 19, 20, 21, 22, 23, 24, 25, 26, 27, 28, 29, 30, 31, 33, 34, 35, 36, 37, 38, 39, 40, 41, 42, 43, 44, 45, 46, 47, 48, 49, 50, 51, 52, 53, 54, 55, 56, 57, 58, 59, 60, 61, 62, 63, 65, 66, 67, 68, 69, 70, 71, 1, 2, 4, 8, 16, 32, 64, 0]
def posN (b : Nat) : Nat := posL.getD b 0
theorem posN_all : ∀ b : Fin 72, posN b.val ≤ 71 := by decide +kernel
theorem posN_le (b : Nat) : posN b ≤ 71 := by
  by_cases h : b < 72
  · exact posN_all ⟨b, h⟩
  · unfold posN
    rw [List.getD_eq_getElem?_getD, List.getElem?_eq_none (by simp [posL]; omega)]
    exact Nat.zero_le _
theorem posN_inj_all : ∀ a b : Fin 72, posN a.val = posN b.val → a = b := by decide +kernel
theorem posN_inj {a b : Nat} (ha : a < 72) (hb : b < 72) (h : posN a = posN b) : a = b := by
  have := posN_inj_all ⟨a, ha⟩ ⟨b, hb⟩ h
  exact congrArg Fin.val this
/-- The bit at a position. -/
def bitAt (s : Nat) : Nat := posL.findIdx (· == s)
theorem bitAt_all : ∀ s : Fin 72, bitAt s.val < 72 ∧ posN (bitAt s.val) = s.val := by decide +kernel
theorem bitAt_lt {s : Nat} (h : s ≤ 71) : bitAt s < 72 := (bitAt_all ⟨s, by omega⟩).1
theorem posN_bitAt {s : Nat} (h : s ≤ 71) : posN (bitAt s) = s := (bitAt_all ⟨s, by omega⟩).2

def synN (X : Nat) : Nat := accN posN X 72
def parN (X : Nat) : Nat := accN (fun _ => 1) X 72
theorem synN_lin : Lin synN := accN_lin posN 72
theorem parN_lin : Lin parN := accN_lin _ 72
theorem synN_lt (X : Nat) : synN X < 128 := accN_lt (n := 7) (fun b => by have := posN_le b; omega) X 72
theorem parN_lt (X : Nat) : parN X < 2 := accN_lt (n := 1) (fun b => by omega) X 72
theorem syn_bit_all : ∀ b : Fin 72, synN (2 ^ b.val) = posN b.val := by decide +kernel
theorem par_bit_all : ∀ b : Fin 72, parN (2 ^ b.val) = 1 := by decide +kernel
theorem syn_flip (X : Nat) {b : Nat} (h : b < 72) : synN (X ^^^ 2 ^ b) = synN X ^^^ posN b := by rw [synN_lin, syn_bit_all ⟨b, h⟩]
theorem par_flip (X : Nat) {b : Nat} (h : b < 72) : parN (X ^^^ 2 ^ b) = parN X ^^^ 1 := by rw [parN_lin, par_bit_all ⟨b, h⟩]
theorem xor_zero_iff (a b : Nat) : a ^^^ b = 0 ↔ a = b := by
  constructor
  · intro h
    have := congrArg (· ^^^ b) h
    simpa [Nat.xor_assoc] using this
  · rintro rfl; exact Nat.xor_self _
/-- Is X a codeword? -/
def good (X : Nat) : Bool := synN X == 0 && parN X == 0
theorem good_iff (X : Nat) : good X = true ↔ synN X = 0 ∧ parN X = 0 := by unfold good; simp
/-- The flip of bit b makes X a codeword just where X has an odd parity and b is at the syndrome's position. -/
theorem good_flip {X b : Nat} (hb : b < 72) (hp : parN X = 1) : good (X ^^^ 2 ^ b) = true ↔ posN b = synN X := by
  rw [good_iff, syn_flip X hb, par_flip X hb, hp, xor_zero_iff]
  simp [eq_comm]
theorem good_one {X : Nat} (h : good X = true) {b : Nat} (hb : b < 72) : synN (X ^^^ 2 ^ b) = posN b ∧ parN (X ^^^ 2 ^ b) = 1 := by
  obtain ⟨h1, h2⟩ := (good_iff X).1 h
  rw [syn_flip X hb, par_flip X hb, h1, h2]
  simp
theorem good_two {X : Nat} (h : good X = true) {a b : Nat} (ha : a < 72) (hb : b < 72) (hab : a ≠ b) : synN (X ^^^ 2 ^ a ^^^ 2 ^ b) ≠ 0 ∧ parN (X ^^^ 2 ^ a ^^^ 2 ^ b) = 0 := by
  obtain ⟨h1, h2⟩ := good_one h ha
  rw [syn_flip _ hb, par_flip _ hb, h1, h2]
  refine ⟨fun e => hab (posN_inj ha hb ((xor_zero_iff _ _).1 e)), by decide⟩

/-- The check byte that makes a word a codeword. -/
def lowN (x : Nat) : Nat := synN x
def chkN (x : Nat) : Nat := lowN x + 128 * parN (x + 2 ^ 64 * lowN x)
theorem syn_high_all : ∀ c : Fin 256, synN (2 ^ 64 * c.val) = c.val % 128 := by decide +kernel
theorem par_high_all : ∀ c : Fin 128, parN (2 ^ 64 * (c.val + 128)) = parN (2 ^ 64 * c.val) ^^^ 1 := by decide +kernel
theorem chkN_lt (x : Nat) : chkN x < 256 := by
  have h1 := synN_lt x
  have h2 := parN_lt (x + 2 ^ 64 * lowN x)
  unfold chkN lowN at *; omega
theorem chk_good {x : Nat} (h : x < 2 ^ 64) : good (x + 2 ^ 64 * chkN x) = true := by
  have hl := synN_lt x
  have hp := parN_lt (x + 2 ^ 64 * lowN x)
  have hc := chkN_lt x
  rw [good_iff]
  have e1 : synN (x + 2 ^ 64 * chkN x) = 0 := by
    rw [← xorAdd _ _ _ h, synN_lin, syn_high_all ⟨chkN x, hc⟩]
    show synN x ^^^ chkN x % 128 = 0
    rw [xor_zero_iff]
    unfold chkN lowN; omega
  refine ⟨e1, ?_⟩
  unfold chkN
  by_cases h0 : parN (x + 2 ^ 64 * lowN x) = 0
  · rw [h0, Nat.mul_zero, Nat.add_zero]; exact h0
  · have h1 : parN (x + 2 ^ 64 * lowN x) = 1 := by omega
    rw [h1, Nat.mul_one, ← xorAdd _ _ _ h, parN_lin, par_high_all ⟨lowN x, hl⟩, ← Nat.xor_assoc, ← parN_lin, xorAdd _ _ _ h, h1]; rfl
theorem chk_or (x : Nat) : lowN x ||| parN (x + 2 ^ 64 * lowN x) * 128 = chkN x := by
  have hl : lowN x < 2 ^ 7 := synN_lt x
  have := Nat.two_pow_add_eq_or_of_lt hl (parN (x + 2 ^ 64 * lowN x))
  unfold chkN
  rw [Nat.or_comm, Nat.mul_comm _ 128, Nat.add_comm (lowN x)]
  exact this.symm

/-- The masks of the positions' bits. -/
def maskL : List Nat := [0xab55555556aaad5b, 0xcd9999999b33366d, 0xf1e1e1e1e3c3c78e, 0x01fe01fe03fc07f0, 0x01fffe0003fff800, 0x01fffffffc000000, 0xfe00000000000000]
def maskN (k : Nat) : Nat := maskL.getD k 0
theorem mask_all : ∀ k : Fin 7, maskN k.val < 2 ^ 64 := by decide +kernel
theorem mask_lt {k : Nat} (h : k < 7) : maskN k < 2 ^ 64 := mask_all ⟨k, h⟩
/-- The parity of 64 bits. -/
def par64 (x : Nat) : Nat := accN (fun _ => 1) x 64
theorem par64_lin : Lin par64 := accN_lin _ 64
theorem par64_lt (x : Nat) : par64 x < 2 := accN_lt (n := 1) (fun b => by omega) x 64
/-- The syndrome after the first k masks. -/
def sumN (x c : Nat) : Nat → Nat
  | 0 => c % 128
  | k + 1 => sumN x c k ^^^ par64 (x &&& maskN k) * 2 ^ k
theorem sumN_lin : ∀ k, Lin (fun X => sumN (X % 2 ^ 64) (X / 2 ^ 64) k)
  | 0 => (Lin.mod 7).comp (Lin.div 64)
  | k + 1 => (sumN_lin k).add ((Lin.mul k).comp (par64_lin.comp ((Lin.and (maskN k)).comp (Lin.mod 64))))
theorem sum_bit_all : ∀ b : Fin 72, sumN (2 ^ b.val % 2 ^ 64) (2 ^ b.val / 2 ^ 64) 7 = synN (2 ^ b.val) := by decide +kernel
theorem split64 {x c : Nat} (h : x < 2 ^ 64) : (x + 2 ^ 64 * c) % 2 ^ 64 = x ∧ (x + 2 ^ 64 * c) / 2 ^ 64 = c := by omega
theorem sum_syn {x c : Nat} (h : x < 2 ^ 64) (hc : c < 256) : sumN x c 7 = synN (x + 2 ^ 64 * c) := by
  have := Lin.eq (sumN_lin 7) synN_lin 72 (fun b hb => sum_bit_all ⟨b, hb⟩) (x + 2 ^ 64 * c) (by omega)
  simp only [(split64 h).1, (split64 h).2] at this
  exact this
theorem sumN_lt (x c : Nat) : ∀ k, k ≤ 7 → sumN x c k < 128
  | 0, _ => Nat.mod_lt _ (by decide)
  | k + 1, hk => by
    have ih := sumN_lt x c k (by omega)
    have hp := par64_lt (x &&& maskN k)
    have h2 : 2 ^ k ≤ 2 ^ 6 := Nat.pow_le_pow_right (by decide) (by omega)
    refine Nat.xor_lt_two_pow (n := 7) ih ?_
    have : par64 (x &&& maskN k) * 2 ^ k ≤ 1 * 2 ^ k := Nat.mul_le_mul_right _ (by omega)
    omega
theorem par_bit64_all : ∀ b : Fin 72, par64 (2 ^ b.val % 2 ^ 64) ^^^ par64 (2 ^ b.val / 2 ^ 64) = parN (2 ^ b.val) := by decide +kernel
theorem par_split {x c : Nat} (h : x < 2 ^ 64) (hc : c < 256) : par64 x ^^^ par64 c = parN (x + 2 ^ 64 * c) := by
  have := Lin.eq ((par64_lin.comp (Lin.mod 64)).add (par64_lin.comp (Lin.div 64))) parN_lin 72 (fun b hb => par_bit64_all ⟨b, hb⟩) (x + 2 ^ 64 * c) (by omega)
  simp only [(split64 h).1, (split64 h).2] at this
  exact this
theorem flip_low {x c b : Nat} (h : x < 2 ^ 64) (hb : b < 64) : (x ^^^ 2 ^ b) + 2 ^ 64 * c = (x + 2 ^ 64 * c) ^^^ 2 ^ b ∧ x ^^^ 2 ^ b < 2 ^ 64 := by
  have h2 : (2 : Nat) ^ b < 2 ^ 64 := Nat.pow_lt_pow_right (by decide) hb
  have hx : x ^^^ 2 ^ b < 2 ^ 64 := Nat.xor_lt_two_pow h h2
  refine ⟨?_, hx⟩
  rw [← xorAdd _ _ _ hx, ← xorAdd _ _ _ h, Nat.xor_assoc, Nat.xor_comm (2 ^ b), ← Nat.xor_assoc]
theorem flip_high {x c b : Nat} (h : x < 2 ^ 64) (hb : 64 ≤ b) (hb2 : b < 72) (hc : c < 256) : x + 2 ^ 64 * (c ^^^ 2 ^ (b - 64)) = (x + 2 ^ 64 * c) ^^^ 2 ^ b ∧ c ^^^ 2 ^ (b - 64) < 256 := by
  have h2 : (2 : Nat) ^ (b - 64) < 2 ^ 8 := Nat.pow_lt_pow_right (by decide) (by omega)
  refine ⟨?_, Nat.xor_lt_two_pow (n := 8) hc h2⟩
  have e : (2 : Nat) ^ b = 2 ^ 64 * 2 ^ (b - 64) := by rw [← Nat.pow_add]; congr 1; omega
  rw [e, ← xorAdd _ _ _ h, ← xorAdd _ _ _ h, Nat.xor_assoc]
  congr 1
  rw [Nat.mul_comm, Nat.mul_comm _ c, Nat.mul_comm (2 ^ 64)]
  exact Lin.mul 64 c (2 ^ (b - 64))

/-- Decoding: a codeword; one with a single error; neither. -/
def One (X : Nat) : Prop := parN X = 1 ∧ synN X ≤ 71
def fixN (X : Nat) : Nat := X ^^^ 2 ^ bitAt (synN X)
theorem not_good {X : Nat} (h : parN X = 1) : good X = false := by unfold good; rw [h]; simp
theorem one_first {X k : Nat} (h : One X) (hk : k < bitAt (synN X)) : synN (X ^^^ 2 ^ k) ≠ 0 ∧ parN (X ^^^ 2 ^ k) = 0 := by
  have hb := bitAt_lt h.2
  rw [syn_flip X (by omega), par_flip X (by omega), h.1]
  refine ⟨fun e => ?_, by decide⟩
  have := (xor_zero_iff _ _).1 e
  have := posN_inj hb (show k < 72 by omega) (by rw [posN_bitAt h.2]; exact this)
  omega
theorem one_at {X : Nat} (h : One X) : synN (fixN X) = 0 ∧ parN (fixN X) = 0 := by
  have hb := bitAt_lt h.2
  unfold fixN
  rw [syn_flip X hb, par_flip X hb, h.1, posN_bitAt h.2, Nat.xor_self]
  exact ⟨rfl, by decide⟩
theorem none_any {X k : Nat} (h : parN X = 1) (h2 : ¬ synN X ≤ 71) (hk : k < 72) : synN (X ^^^ 2 ^ k) ≠ 0 ∧ parN (X ^^^ 2 ^ k) = 0 := by
  rw [syn_flip X hk, par_flip X hk, h]
  refine ⟨fun e => ?_, by decide⟩
  have := (xor_zero_iff _ _).1 e
  have := posN_le k
  omega

/-- How many of 3 to a are no power of two. -/
def npN (a : Nat) : Nat := (posL.take 64).countP (· ≤ a)
theorem np_all : ∀ a : Fin 72, (2 ≤ a.val → a.val < 71 → (((a.val + 1) &&& a.val = 0 → npN (a.val + 1) = npN a.val) ∧ ((a.val + 1) &&& a.val ≠ 0 → npN (a.val + 1) = npN a.val + 1 ∧ posN (npN a.val) = a.val + 1))) ∧ (npN a.val ≤ 63 → a.val < 71) := by decide +kernel
theorem np_two : npN 2 = 0 := by decide
theorem np_flat {a : Nat} (h : 2 ≤ a) (h2 : a < 71) (h3 : (a + 1) &&& a = 0) : npN (a + 1) = npN a := ((np_all ⟨a, by omega⟩).1 h h2).1 h3
theorem np_step {a : Nat} (h : 2 ≤ a) (h2 : a < 71) (h3 : (a + 1) &&& a ≠ 0) : npN (a + 1) = npN a + 1 ∧ posN (npN a) = a + 1 := ((np_all ⟨a, by omega⟩).1 h h2).2 h3
theorem np_end {a : Nat} (h : a ≤ 71) (h2 : npN a ≤ 63) : a < 71 := (np_all ⟨a, by omega⟩).2 h2
theorem pos_high_all : ∀ b : Fin 71, 64 ≤ b.val → posN b.val = 2 ^ (b.val - 64) := by decide +kernel
theorem pos_high {b : Nat} (h : 64 ≤ b) (h2 : b < 71) : posN b = 2 ^ (b - 64) := pos_high_all ⟨b, h2⟩ h

/-- The word's bits and the check byte's of a codeword. -/
def lo (X : Nat) : Nat := X % 2 ^ 64
def hi (X : Nat) : Nat := X / 2 ^ 64
theorem lo_lt (X : Nat) : lo X < 2 ^ 64 := Nat.mod_lt _ (by decide)
theorem hi_lt {X : Nat} (h : X < 2 ^ 72) : hi X < 256 := by unfold hi; omega
theorem lo_hi (X : Nat) : lo X + 2 ^ 64 * hi X = X := by unfold lo hi; omega
theorem lo_of {x : Nat} (c : Nat) (h : x < 2 ^ 64) : lo (x + 2 ^ 64 * c) = x := by unfold lo; omega
theorem hi_of {x : Nat} (c : Nat) (h : x < 2 ^ 64) : hi (x + 2 ^ 64 * c) = c := by unfold hi; omega
theorem bit_lo (X : Nat) {b : Nat} (h : b < 64) : X / 2 ^ b % 2 = lo X / 2 ^ b % 2 := by
  have h1 := Nat.testBit_two_pow_mul_add (hi X) (lo_lt X) b
  rw [Nat.add_comm, lo_hi, if_pos h, Nat.testBit_eq_decide_div_mod_eq, Nat.testBit_eq_decide_div_mod_eq] at h1
  have h2 := decide_eq_decide.1 h1
  omega
theorem bit_hi (X : Nat) {b : Nat} (h : 64 ≤ b) : X / 2 ^ b % 2 = hi X / 2 ^ (b - 64) % 2 := by
  unfold hi
  rw [Nat.div_div_eq_div_mul, ← Nat.pow_add, show 64 + (b - 64) = b by omega]
theorem flip_lt {X b : Nat} (h : X < 2 ^ 72) (hb : b < 72) : X ^^^ 2 ^ b < 2 ^ 72 := Nat.xor_lt_two_pow h (Nat.pow_lt_pow_right (by decide) hb)
theorem flip_lo (X : Nat) {b : Nat} (hb : b < 64) : lo (X ^^^ 2 ^ b) = lo X ^^^ 2 ^ b ∧ hi (X ^^^ 2 ^ b) = hi X := by
  obtain ⟨h1, h2⟩ := flip_low (c := hi X) (lo_lt X) hb
  rw [lo_hi] at h1
  rw [← h1, lo_of _ h2, hi_of _ h2]
  exact ⟨rfl, rfl⟩
theorem flip_hi {X b : Nat} (h : X < 2 ^ 72) (hb : 64 ≤ b) (hb2 : b < 72) : lo (X ^^^ 2 ^ b) = lo X ∧ hi (X ^^^ 2 ^ b) = hi X ^^^ 2 ^ (b - 64) := by
  obtain ⟨h1, _⟩ := flip_high (x := lo X) (lo_lt X) hb hb2 (hi_lt h)
  rw [lo_hi] at h1
  rw [← h1, lo_of _ (lo_lt X), hi_of _ (lo_lt X)]
  exact ⟨rfl, rfl⟩
end Go.Proofs.YtlmdpdidjldkpaaGreatDoor
/- Plain facts on data of several words. -/
namespace Go.Proofs.YtlmdpdidjldkpaaGreatDoor
open Go.RowKit

/-- Word k of a text. -/
def wd (s : ByteArray) (k : Nat) : ByteArray := s.extract (8 * k) (8 * k + 8)
def wdN (s : ByteArray) (k : Nat) : Nat := wordN (wd s k)
theorem wd_size {s : ByteArray} {k : Nat} (h : 8 * k + 8 ≤ s.size) : (wd s k).size = 8 := by
  unfold wd; rw [ByteArray.size_extract]; omega
theorem wd_wStr {s : ByteArray} {k : Nat} (h : 8 * k + 8 ≤ s.size) : wd s k = wStr (wdN s k) := (word_wStr (wd_size h)).symm
theorem wdN_lt (s : ByteArray) (k : Nat) : wdN s k < 2 ^ 64 := wordN_lt _
theorem byteAt_extract (s : ByteArray) (a b j : Nat) (h : a + j < b) : byteAt (s.extract a b) j = byteAt s (a + j) := by
  unfold byteAt
  rw [ByteArray.data_extract, Array.toList_extract, List.extract_eq_take_drop, List.getD_eq_getElem?_getD, List.getD_eq_getElem?_getD, List.getElem?_take, if_pos (by omega), List.getElem?_drop]
theorem wd_at (s : ByteArray) (k : Nat) {j : Nat} (hj : j < 8) : byteAt (wd s k) j = byteAt s (8 * k + j) := byteAt_extract s _ _ j (by omega)
/-- The check bytes of the first k words. -/
def chkL (s : ByteArray) : Nat → List Int
  | 0 => []
  | k + 1 => chkL s k ++ [((chkN (wdN s k) : Nat) : Int)]
theorem chkL_length (s : ByteArray) : ∀ k, (chkL s k).length = k
  | 0 => rfl
  | k + 1 => by simp [chkL, chkL_length s k]
theorem chkL_at (s : ByteArray) : ∀ n k, k < n → (chkL s n).getD k 0 = ((chkN (wdN s k) : Nat) : Int)
  | 0, k, h => by omega
  | n + 1, k, h => by
    have hl := chkL_length s n
    rw [chkL, List.getD_eq_getElem?_getD]
    by_cases hk : k < n
    · have := chkL_at s n k hk
      rw [List.getD_eq_getElem?_getD] at this
      rw [List.getElem?_append_left (by omega)]; exact this
    · obtain rfl : k = n := by omega
      rw [List.getElem?_append_right (by omega), hl, Nat.sub_self]; rfl
theorem chkL_ok (s : ByteArray) : ∀ n, ∀ x ∈ chkL s n, 0 ≤ x ∧ x < 256
  | 0, x, h => by cases h
  | n + 1, x, h => by
    rw [chkL, List.mem_append] at h
    rcases h with h | h
    · exact chkL_ok s n x h
    · simp at h; subst h
      have := chkN_lt (wdN s n); omega
/-- The number of word k and its check byte. -/
def cwX (s t : ByteArray) (k : Nat) : Nat := wdN s k + 2 ^ 64 * byteAt t k
theorem cwX_lt (s t : ByteArray) (k : Nat) : cwX s t k < 2 ^ 72 := by
  have h1 := wdN_lt s k
  have h2 := byteAt_lt t k
  unfold cwX; omega
theorem cwX_lo (s t : ByteArray) (k : Nat) : lo (cwX s t k) = wdN s k := lo_of _ (wdN_lt s k)
theorem cwX_hi (s t : ByteArray) (k : Nat) : hi (cwX s t k) = byteAt t k := hi_of _ (wdN_lt s k)
/-- Can it be decoded? Its word, how many bits are corrected. -/
def okX (X : Nat) : Prop := good X = true ∨ One X
def valX (X : Nat) : Nat := if good X then lo X else lo (fixN X)
def cntX (X : Nat) : Nat := if good X then 0 else 1
def outL (s t : ByteArray) : Nat → List Int
  | 0 => []
  | k + 1 => outL s t k ++ wL (valX (cwX s t k))
def totL (s t : ByteArray) : Nat → Nat
  | 0 => 0
  | k + 1 => totL s t k + cntX (cwX s t k)
theorem outL_length (s t : ByteArray) : ∀ k, (outL s t k).length = 8 * k
  | 0 => rfl
  | k + 1 => by rw [outL, List.length_append, outL_length s t k, wL_length]; omega
theorem totL_le (s t : ByteArray) : ∀ k, totL s t k ≤ k
  | 0 => Nat.le_refl _
  | k + 1 => by
    have := totL_le s t k
    have : cntX (cwX s t k) ≤ 1 := by unfold cntX; split <;> omega
    rw [totL]; omega
/-- The first word that can't be decoded, if there is one. -/
theorem first_bad (P : Nat → Prop) : ∀ n, ∃ m, m ≤ n ∧ (∀ k, k < m → P k) ∧ (m = n ∨ ¬ P m)
  | 0 => ⟨0, Nat.le_refl _, fun k h => by omega, .inl rfl⟩
  | n + 1 => by
    obtain ⟨m, h1, h2, h3⟩ := first_bad P n
    rcases h3 with h3 | h3
    · by_cases hp : P n
      · exact ⟨n + 1, Nat.le_refl _, fun k hk => if h : k = n then h ▸ hp else h2 k (by omega), .inl rfl⟩
      · exact ⟨n, by omega, fun k hk => h2 k (by omega), .inr hp⟩
    · exact ⟨m, by omega, h2, .inr h3⟩
end Go.Proofs.YtlmdpdidjldkpaaGreatDoor
/- What decoding a codeword answers. -/
namespace Go.Proofs.YtlmdpdidjldkpaaGreatDoor
open Go.RowKit

/-- What decoding answers: the word, how many bits were corrected, the code. -/
def Dec (X : Nat) (R : ByteArray) (n c : Int) : Prop :=
  (good X = true ∧ R = wStr (lo X) ∧ n = 0 ∧ c = 0) ∨ (good X = false ∧ One X ∧ R = wStr (lo (fixN X)) ∧ n = 1 ∧ c = 0) ∨ (good X = false ∧ ¬ One X ∧ R = ⟨#[]⟩ ∧ n = 0 ∧ c = 6)
theorem dec_total (X : Nat) : ∃ R n c, Dec X R n c := by
  by_cases h : good X = true
  · exact ⟨_, _, _, .inl ⟨h, rfl, rfl, rfl⟩⟩
  · have h' : good X = false := by simpa using h
    by_cases h2 : One X
    · exact ⟨_, _, _, .inr (.inl ⟨h', h2, rfl, rfl, rfl⟩)⟩
    · exact ⟨_, _, _, .inr (.inr ⟨h', h2, rfl, rfl, rfl⟩)⟩
/-- A word and a check byte, as one number. -/
theorem as_cw {s : ByteArray} {c : Int} (hs : s.size = 8) (h0 : 0 ≤ c) (h1 : c ≤ 255) : ∃ X, X < 2 ^ 72 ∧ s = wStr (lo X) ∧ c = (hi X : Nat) := by
  obtain ⟨k, rfl⟩ := Int.eq_ofNat_of_zero_le h0
  have hx := wordN_lt s
  refine ⟨wordN s + 2 ^ 64 * k, by omega, ?_, ?_⟩
  · rw [lo_of _ hx, word_wStr hs]
  · rw [hi_of _ hx]
end Go.Proofs.YtlmdpdidjldkpaaGreatDoor
/- Plain facts on counting the bits of 64 that are 1, in the library's way; its parity. -/
namespace Go.Proofs.YtlmdpdidjldkpaaGreatDoor
open Go.RowKit

/-- A function of each byte, on the first n bytes. -/
def bytewise (f : Nat → Nat) : Nat → Nat → Nat
  | 0, _ => 0
  | n + 1, x => f (x % 256) + 256 * bytewise f n (x / 256)
def rep (m : Nat) : Nat → Nat
  | 0 => 0
  | n + 1 => m + 256 * rep m n
theorem and_split (X m M : Nat) (hm : m < 256) : X &&& (m + 256 * M) = (X % 256 &&& m) + 256 * (X / 256 &&& M) := by
  have h1 : (X &&& (m + 256 * M)) % 256 = (X % 256) &&& ((m + 256 * M) % 256) := Nat.and_mod_two_pow (n := 8)
  have h2 : (X &&& (m + 256 * M)) / 256 = (X / 256) &&& ((m + 256 * M) / 256) := Nat.and_div_two_pow (n := 8)
  rw [show (m + 256 * M) % 256 = m by omega] at h1
  rw [show (m + 256 * M) / 256 = M by omega] at h2
  rw [← h1, ← h2]; omega
def pop1 (b : Nat) : Nat := (b / 2 &&& 85) + (b &&& 85)
def pop2 (b : Nat) : Nat := (b / 4 &&& 51) + (b &&& 51)
theorem pop1_all : ∀ (b : Fin 256) (e : Fin 2), ((b.val / 2 + 128 * e.val) &&& 85) + (b.val &&& 85) = pop1 b.val := by decide +kernel
theorem pop2_all : ∀ (b : Fin 256) (e : Fin 4), ((b.val / 4 + 64 * e.val) &&& 51) + (b.val &&& 51) = pop2 b.val := by decide +kernel
theorem popStep1 : ∀ n x, (x / 2 &&& rep 85 n) + (x &&& rep 85 n) = bytewise pop1 n x
  | 0, x => by simp [rep, bytewise]
  | n + 1, x => by
    have ih := popStep1 n (x / 256)
    have hb := pop1_all ⟨x % 256, by omega⟩ ⟨x / 256 % 2, by omega⟩
    simp only at hb
    rw [rep, and_split _ _ _ (by decide), and_split _ _ _ (by decide), bytewise, ← ih, ← hb, show x / 2 % 256 = x % 256 / 2 + 128 * (x / 256 % 2) by omega, show x / 2 / 256 = x / 256 / 2 by omega]
    omega
theorem popStep2 : ∀ n x, (x / 4 &&& rep 51 n) + (x &&& rep 51 n) = bytewise pop2 n x
  | 0, x => by simp [rep, bytewise]
  | n + 1, x => by
    have ih := popStep2 n (x / 256)
    have hb := pop2_all ⟨x % 256, by omega⟩ ⟨x / 256 % 4, by omega⟩
    simp only at hb
    rw [rep, and_split _ _ _ (by decide), and_split _ _ _ (by decide), bytewise, ← ih, ← hb, show x / 4 % 256 = x % 256 / 4 + 64 * (x / 256 % 4) by omega, show x / 4 / 256 = x / 256 / 4 by omega]
    omega
theorem bytewise_comp (f g : Nat → Nat) (h : ∀ b, b < 256 → f b < 256) : ∀ n x, bytewise g n (bytewise f n x) = bytewise (fun b => g (f b)) n x
  | 0, _ => rfl
  | n + 1, x => by
    have hb := h (x % 256) (by omega)
    rw [bytewise, bytewise, bytewise, show (f (x % 256) + 256 * bytewise f n (x / 256)) % 256 = f (x % 256) by omega, show (f (x % 256) + 256 * bytewise f n (x / 256)) / 256 = bytewise f n (x / 256) by omega, bytewise_comp f g h n]
theorem bytewise_congr {f g : Nat → Nat} (h : ∀ b, b < 256 → f b = g b) : ∀ n x, bytewise f n x = bytewise g n x
  | 0, _ => rfl
  | n + 1, x => by rw [bytewise, bytewise, h _ (by omega), bytewise_congr h n]
theorem bytewise_lt {f : Nat → Nat} (h : ∀ b, b < 256 → f b < 256) : ∀ n x, bytewise f n x < 256 ^ n
  | 0, _ => by simp [bytewise]
  | n + 1, x => by
    have := bytewise_lt h n (x / 256)
    have := h (x % 256) (by omega)
    rw [bytewise, Nat.pow_succ]; omega
def pop12 (b : Nat) : Nat := pop2 (pop1 b)
theorem pop1_lt_all : ∀ b : Fin 256, pop1 b.val < 256 := by decide +kernel
theorem pop12_all : ∀ b : Fin 256, pop12 b.val ≤ 68 ∧ pop12 b.val % 16 ≤ 4 := by decide +kernel
theorem pop12_ok {b : Nat} (h : b < 256) : pop12 b ≤ 68 ∧ pop12 b % 16 ≤ 4 := pop12_all ⟨b, h⟩
theorem low_nib (n x : Nat) : bytewise pop12 n x % 16 ≤ 4 := by
  cases n with
  | zero => simp [bytewise]
  | succ n =>
    have := pop12_ok (b := x % 256) (by omega)
    rw [bytewise]; omega
theorem and15 (x : Nat) : x &&& 15 = x % 16 := Nat.and_two_pow_sub_one_eq_mod x 4
theorem popStep3 : ∀ n x, (bytewise pop12 n x / 16 + bytewise pop12 n x) &&& rep 15 n = bytewise (fun b => (pop12 b / 16 + pop12 b) % 16) n x
  | 0, x => by simp [rep, bytewise]
  | n + 1, x => by
    have ih := popStep3 n (x / 256)
    have hb := pop12_ok (b := x % 256) (by omega)
    have hl := low_nib n (x / 256)
    rw [rep, and_split _ _ _ (by decide), bytewise, bytewise, ← ih, and15]
    generalize pop12 (x % 256) = b at *
    generalize bytewise pop12 n (x / 256) = y at *
    rw [show ((b + 256 * y) / 16 + (b + 256 * y)) / 256 = y / 16 + y by omega]
    omega

/-- The bits of x that are 1, of its lowest f ones. -/
def popF : Nat → Nat → Nat
  | 0, _ => 0
  | f + 1, x => x % 2 + popF f (x / 2)
theorem popF_le : ∀ f x, popF f x ≤ f
  | 0, _ => Nat.le_refl _
  | f + 1, x => by have := popF_le f (x / 2); rw [popF]; omega
theorem pop3_all : ∀ b : Fin 256, (pop12 b.val / 16 + pop12 b.val) % 16 = popF 8 b.val := by decide +kernel
theorem popF_add : ∀ a b x, popF (a + b) x = popF a x + popF b (x / 2 ^ a)
  | 0, b, x => by simp [popF]
  | a + 1, b, x => by
    have e : x / 2 / 2 ^ a = x / 2 ^ (a + 1) := by rw [Nat.div_div_eq_div_mul, Nat.pow_succ']
    rw [show a + 1 + b = (a + b) + 1 by omega, popF, popF, popF_add a b, e]
    omega
theorem popF_mod : ∀ a x, popF a (x % 2 ^ a) = popF a x
  | 0, _ => rfl
  | a + 1, x => by
    rw [popF, popF, ← popF_mod a (x / 2), show x % 2 ^ (a + 1) / 2 = x / 2 % 2 ^ a by
      rw [Nat.pow_succ', Nat.mod_mul_right_div_self], show x % 2 ^ (a + 1) % 2 = x % 2 by
      rw [Nat.pow_succ', Nat.mod_mul_right_mod]]
theorem acc_pop (x : Nat) : ∀ k, accN (fun _ => 1) x k = popF k x % 2
  | 0 => rfl
  | k + 1 => by
    have ih := acc_pop x k
    have hp := popF_add k 1 x
    have e1 : popF 1 (x / 2 ^ k) = x / 2 ^ k % 2 := by simp [popF]
    rw [e1] at hp
    by_cases h : x / 2 ^ k % 2 = 1
    · rw [accN_yes h, ih, hp, h]
      have := Nat.mod_two_eq_zero_or_one (popF k x)
      rcases this with e | e <;> rw [e] <;> simp <;> omega
    · rw [accN_no h, ih, hp]; omega
theorem par64_pop (x : Nat) : popF 64 x % 2 = par64 x := (acc_pop x 64).symm

/-- The bits that are 1, byte by byte. -/
def popBytes : Nat → Nat → Nat
  | 0, _ => 0
  | n + 1, x => popF 8 (x % 256) + popBytes n (x / 256)
theorem pop_bytes : ∀ n x, popF (8 * n) x = popBytes n x
  | 0, _ => rfl
  | n + 1, x => by rw [show 8 * (n + 1) = 8 + 8 * n by omega, popF_add, ← popF_mod 8 x, pop_bytes n, popBytes]
def popSum (y : Nat) : Nat :=
  let a := y + y / 256
  let b := a + a / 65536
  (b + b / 4294967296) % 128
theorem fold32 (q0 q1 q2 q3 q4 q5 q6 q7 : Nat) (h0 : q0 ≤ 32) (h1 : q1 ≤ 32) (h2 : q2 ≤ 32) (h3 : q3 ≤ 32) (h4 : q4 ≤ 32) :
    ((q0 + 256 * (q1 + 256 * (q2 + 256 * (q3 + 256 * (q4 + 256 * (q5 + 256 * (q6 + 256 * q7))))))) + (q0 + 256 * (q1 + 256 * (q2 + 256 * (q3 + 256 * (q4 + 256 * (q5 + 256 * (q6 + 256 * q7))))))) / 4294967296) % 128 = q0 + q4 := by
  have e : (q0 + 256 * (q1 + 256 * (q2 + 256 * (q3 + 256 * (q4 + 256 * (q5 + 256 * (q6 + 256 * q7))))))) / 4294967296 = q4 + 256 * (q5 + 256 * (q6 + 256 * q7)) := by omega
  rw [e]; omega
theorem shift8 (p0 p1 p2 p3 p4 p5 p6 p7 : Nat) (h0 : p0 ≤ 8) :
    (p0 + 256 * (p1 + 256 * (p2 + 256 * (p3 + 256 * (p4 + 256 * (p5 + 256 * (p6 + 256 * p7))))))) + (p0 + 256 * (p1 + 256 * (p2 + 256 * (p3 + 256 * (p4 + 256 * (p5 + 256 * (p6 + 256 * p7))))))) / 256
      = (p0 + p1) + 256 * ((p1 + p2) + 256 * ((p2 + p3) + 256 * ((p3 + p4) + 256 * ((p4 + p5) + 256 * ((p5 + p6) + 256 * ((p6 + p7) + 256 * p7)))))) := by
  have e : (p0 + 256 * (p1 + 256 * (p2 + 256 * (p3 + 256 * (p4 + 256 * (p5 + 256 * (p6 + 256 * p7))))))) / 256 = p1 + 256 * (p2 + 256 * (p3 + 256 * (p4 + 256 * (p5 + 256 * (p6 + 256 * p7))))) := by omega
  rw [e]; omega
theorem shift16 (p0 p1 p2 p3 p4 p5 p6 p7 : Nat) (h0 : p0 ≤ 16) (h1 : p1 ≤ 16) :
    (p0 + 256 * (p1 + 256 * (p2 + 256 * (p3 + 256 * (p4 + 256 * (p5 + 256 * (p6 + 256 * p7))))))) + (p0 + 256 * (p1 + 256 * (p2 + 256 * (p3 + 256 * (p4 + 256 * (p5 + 256 * (p6 + 256 * p7))))))) / 65536
      = (p0 + p2) + 256 * ((p1 + p3) + 256 * ((p2 + p4) + 256 * ((p3 + p5) + 256 * ((p4 + p6) + 256 * ((p5 + p7) + 256 * (p6 + 256 * p7)))))) := by
  have e : (p0 + 256 * (p1 + 256 * (p2 + 256 * (p3 + 256 * (p4 + 256 * (p5 + 256 * (p6 + 256 * p7))))))) / 65536 = p2 + 256 * (p3 + 256 * (p4 + 256 * (p5 + 256 * (p6 + 256 * p7)))) := by omega
  rw [e]; omega
theorem popSum_eq (p0 p1 p2 p3 p4 p5 p6 p7 : Nat) (h0 : p0 ≤ 8) (h1 : p1 ≤ 8) (h2 : p2 ≤ 8) (h3 : p3 ≤ 8) (h4 : p4 ≤ 8) (h5 : p5 ≤ 8) (h6 : p6 ≤ 8) (h7 : p7 ≤ 8) :
    popSum (p0 + 256 * (p1 + 256 * (p2 + 256 * (p3 + 256 * (p4 + 256 * (p5 + 256 * (p6 + 256 * p7))))))) = p0 + p1 + p2 + p3 + p4 + p5 + p6 + p7 := by
  unfold popSum
  simp only [shift8 p0 p1 p2 p3 p4 p5 p6 p7 h0]
  rw [shift16 _ _ _ _ _ _ _ _ (by omega) (by omega), fold32 _ _ _ _ _ _ _ _ (by omega) (by omega) (by omega) (by omega) (by omega)]
  omega
theorem bytewise_le {f : Nat → Nat} {m : Nat} (h : ∀ b, b < 256 → f b ≤ m) : ∀ n x, bytewise f n x ≤ rep m n
  | 0, _ => Nat.le_refl _
  | n + 1, x => by
    have := bytewise_le h n (x / 256)
    have := h (x % 256) (by omega)
    rw [bytewise, rep]; omega
/-- The library's count. -/
theorem pop_word (x : Nat) :
    let a := (x / 2 &&& 6148914691236517205) + (x &&& 6148914691236517205)
    let b := (a / 4 &&& 3689348814741910323) + (a &&& 3689348814741910323)
    a < 2 ^ 64 ∧ b < 2 ^ 64 ∧ b / 16 + b < 2 ^ 64 ∧ (b / 16 + b) &&& 1085102592571150095 ≤ 578721382704613384 ∧ popSum ((b / 16 + b) &&& 1085102592571150095) = popF 64 x := by
  have m1 : rep 85 8 = 6148914691236517205 := by decide
  have m2 : rep 51 8 = 3689348814741910323 := by decide
  have m3 : rep 15 8 = 1085102592571150095 := by decide
  have s1 := popStep1 8 x
  rw [m1] at s1
  have s2 := popStep2 8 (bytewise pop1 8 x)
  rw [m2, bytewise_comp pop1 pop2 (fun b hb => pop1_lt_all ⟨b, hb⟩)] at s2
  have s3 := popStep3 8 x
  rw [m3, bytewise_congr (f := fun b => (pop12 b / 16 + pop12 b) % 16) (g := popF 8) (fun b hb => pop3_all ⟨b, hb⟩)] at s3
  have l1 := bytewise_lt (f := pop1) (fun b hb => pop1_lt_all ⟨b, hb⟩) 8 x
  have l2 := bytewise_lt (f := pop12) (fun b hb => by have := (pop12_ok hb).1; omega) 8 x
  rw [show (256 : Nat) ^ 8 = 2 ^ 64 by decide] at l1 l2
  simp only [s1]
  have s2' : (bytewise pop1 8 x / 4 &&& 3689348814741910323) + (bytewise pop1 8 x &&& 3689348814741910323) = bytewise pop12 8 x := s2
  simp only [s2', s3]
  have e : bytewise (popF 8) 8 x = popF 8 (x % 256) + 256 * (popF 8 (x / 256 % 256) + 256 * (popF 8 (x / 65536 % 256) + 256 * (popF 8 (x / 16777216 % 256) + 256 * (popF 8 (x / 4294967296 % 256) + 256 * (popF 8 (x / 1099511627776 % 256) + 256 * (popF 8 (x / 281474976710656 % 256) + 256 * popF 8 (x / 72057594037927936 % 256))))))) := by
    simp only [bytewise, Nat.div_div_eq_div_mul, Nat.mul_zero, Nat.add_zero]
  refine ⟨l1, l2, ?_, ?_, ?_⟩
  · have b8 := bytewise_le (f := pop12) (fun b hb => (pop12_ok hb).1) 8 x
    rw [show rep 68 8 = 4919131752989213764 by decide] at b8
    omega
  · have b8 := bytewise_le (f := popF 8) (fun b _ => popF_le 8 b) 8 x
    rw [show rep 8 8 = 578721382704613384 by decide] at b8
    exact b8
  · rw [e, popSum_eq _ _ _ _ _ _ _ _ (popF_le 8 _) (popF_le 8 _) (popF_le 8 _) (popF_le 8 _) (popF_le 8 _) (popF_le 8 _) (popF_le 8 _) (popF_le 8 _), show (64 : Nat) = 8 * 8 by decide, pop_bytes]
    simp only [popBytes, Nat.div_div_eq_div_mul, Nat.reduceMul]
    omega
end Go.Proofs.YtlmdpdidjldkpaaGreatDoor
/- The library's count of the bits of 64 that are 1: its parity. -/
namespace Go.Proofs.YtlmdpdidjldkpaaGreatDoor
open Go.RowKit

theorem wrap_u64_nat (a : Nat) (h : a < 2 ^ 64) : IntKind.u64.wrap (a : Int) = a := by rw [IntKind.wrap_u64]; omega
theorem ofInt_u64 (a : Nat) (h : a < 2 ^ 64) : (BitVec.ofInt 64 (a : Int)).toNat = a := by
  rw [BitVec.ofInt_natCast, BitVec.toNat_ofNat]; exact Nat.mod_eq_of_lt h
theorem u64_and_nat' (a b : Nat) (ha : a < 2 ^ 64) (hb : b < 2 ^ 64) : bits .and .u64 (a : Int) (b : Int) = ((a &&& b : Nat) : Int) := by
  have hx : a &&& b < 2 ^ 64 := Nat.and_lt_two_pow _ hb
  show IntKind.u64.wrap ((BitVec.ofInt 64 (a : Int) &&& BitVec.ofInt 64 (b : Int)).toNat : Int) = _
  rw [BitVec.toNat_and, ofInt_u64 a ha, ofInt_u64 b hb, wrap_u64_nat _ hx]
theorem u64_xor_nat' (a b : Nat) (ha : a < 2 ^ 64) (hb : b < 2 ^ 64) : bits .xor .u64 (a : Int) (b : Int) = ((a ^^^ b : Nat) : Int) := by
  have hx : a ^^^ b < 2 ^ 64 := Nat.xor_lt_two_pow ha hb
  show IntKind.u64.wrap ((BitVec.ofInt 64 (a : Int) ^^^ BitVec.ofInt 64 (b : Int)).toNat : Int) = _
  rw [BitVec.toNat_xor, ofInt_u64 a ha, ofInt_u64 b hb, wrap_u64_nat _ hx]
def popI (x : Int) : Int :=
  let a := IntKind.u64.wrap (bits .and .u64 (x / 2) 6148914691236517205 + bits .and .u64 x 6148914691236517205)
  let b := IntKind.u64.wrap (bits .and .u64 (a / 4) 3689348814741910323 + bits .and .u64 a 3689348814741910323)
  let c := bits .and .u64 (IntKind.u64.wrap (b / 16 + b)) 1085102592571150095
  let d := IntKind.u64.wrap (c + c / 256)
  let e := IntKind.u64.wrap (d + d / 65536)
  let f := IntKind.u64.wrap (e + e / 4294967296)
  bits .and .i64 (wrap64 f) 127
theorem and127 (a : Nat) (h : a < 2 ^ 63) : bits .and .i64 (a : Int) 127 = ((a % 128 : Nat) : Int) := by
  have := i64_and_nat a 127 h (by omega)
  rw [show (127 : Nat) = 2 ^ 7 - 1 from rfl, Nat.and_two_pow_sub_one_eq_mod] at this
  exact this
theorem and_u64_lit (a m : Nat) (ha : a < 2 ^ 64) (hm : m < 2 ^ 64) (M : Int) (hM : M = (m : Int)) : bits .and .u64 (a : Int) M = ((a &&& m : Nat) : Int) := by
  rw [hM]; exact u64_and_nat' a m ha hm
theorem popI_eq (x : Nat) (h : x < 2 ^ 64) : popI (x : Int) = ((popF 64 x : Nat) : Int) := by
  obtain ⟨h1, h2, h3, h4, h5⟩ := pop_word x
  have a1 := and_u64_lit (x / 2) 6148914691236517205 (by omega) (by omega) 6148914691236517205 rfl
  have a2 := and_u64_lit x 6148914691236517205 h (by omega) 6148914691236517205 rfl
  rw [Int.natCast_ediv] at a1
  unfold popI
  simp only [show ((x : Int) / 2) = (x : Int) / ((2 : Nat) : Int) from rfl, a1, a2]
  generalize hA : (x / 2 &&& 6148914691236517205) + (x &&& 6148914691236517205) = A at *
  rw [← Int.natCast_add, hA, wrap_u64_nat A h1]
  have b1 := and_u64_lit (A / 4) 3689348814741910323 (by omega) (by omega) 3689348814741910323 rfl
  have b2 := and_u64_lit A 3689348814741910323 h1 (by omega) 3689348814741910323 rfl
  rw [Int.natCast_ediv] at b1
  simp only [show ((A : Int) / 4) = (A : Int) / ((4 : Nat) : Int) from rfl, b1, b2]
  generalize hB : (A / 4 &&& 3689348814741910323) + (A &&& 3689348814741910323) = B at *
  rw [← Int.natCast_add, hB, wrap_u64_nat B h2]
  have c1 := and_u64_lit (B / 16 + B) 1085102592571150095 h3 (by omega) 1085102592571150095 rfl
  have e1 : ((B : Int) / 16 + (B : Int)) = ((B / 16 + B : Nat) : Int) := by omega
  simp only [e1, wrap_u64_nat _ h3, c1]
  generalize hC : (B / 16 + B) &&& 1085102592571150095 = C at *
  have e2 : ((C : Int) + (C : Int) / 256) = ((C + C / 256 : Nat) : Int) := by omega
  simp only [e2, wrap_u64_nat (C + C / 256) (by omega)]
  generalize hD : C + C / 256 = D at *
  have e3 : ((D : Int) + (D : Int) / 65536) = ((D + D / 65536 : Nat) : Int) := by omega
  simp only [e3, wrap_u64_nat (D + D / 65536) (by omega)]
  generalize hE : D + D / 65536 = E at *
  have e4 : ((E : Int) + (E : Int) / 4294967296) = ((E + E / 4294967296 : Nat) : Int) := by omega
  simp only [e4, wrap_u64_nat (E + E / 4294967296) (by omega)]
  rw [IntWalk.wrap64_in _ (by omega), and127 _ (by omega), ← h5]
  subst hE; subst hD; rfl
set_option maxRecDepth 100000 in
theorem onesCount64_any (x : Nat) (w : World) (h : x < 2 ^ 64) :
    Calls Tryz.prog 107 #[.int .u64 x] w fun e w' => e = .returned (.int .i64 (popF 64 x : Nat)) ∧ w = w' := by
  have HE := Lib.hid (popI_eq x h)
  have hx1 : (x : Int) ≤ 18446744073709551615 := by omega
  go_enter Tryz.func107, Tryz.ntmps107
  go_wp2
  go_ret
  exact ⟨ret_int HE.out, rfl⟩
end Go.Proofs.YtlmdpdidjldkpaaGreatDoor
/- EncodeFixed, in the model and in the program: their contracts. -/
namespace Go.Proofs.YtlmdpdidjldkpaaGreatDoor
open Go.RowKit


theorem set_at_end (l : List Int) (n k : Nat) (b : Int) (h : l.length = k) (hk : k < n) : (l ++ List.replicate (n - k) 0).set k b = (l ++ [b]) ++ List.replicate (n - (k + 1)) 0 := by
  rw [List.set_append_right _ _ (by omega), h, Nat.sub_self, show n - k = (n - (k + 1)) + 1 by omega, List.replicate_succ, List.set_cons_zero, List.append_assoc]; rfl
theorem div_next (n : Int) (k : Nat) : n / 2 ^ (8 * k) / 256 = n / 2 ^ (8 * (k + 1)) := by
  have h : (0 : Int) ≤ 2 ^ (8 * k) := Int.pow_nonneg (by decide)
  rw [Int.ediv_ediv_of_nonneg h, show 8 * (k + 1) = 8 * k + 8 by omega, Int.pow_add]; rfl

theorem implEncFixed_yes (n : Int) (m : Nat) (w : World) (hm : m ≤ 8) :
    Calls Tryz.prog 99 #[.int .i64 n, .int .i64 m] w fun e w' => e = .returned (.string (strOfNums (encF n m))) ∧ Below w.heap.size w w' := by
  have hm0 : (m : Int) ≤ 8 := by omega
  have hd : decide (8 < (m : Int)) = false := by simp; omega
  go_enter Tryz.func99, Tryz.ntmps99
  go_wp2_with (refine wpList_make_bytes rfl _ _ rfl _ _ _ _ m rfl rfl rfl rfl (by omega) (Below.refl _ _) (Nat.le_refl _) ?_; intro w1 hown hb)
  go_loopw [0, 17] (fun v i wr => ∃ k : Nat, k ≤ m ∧ i = .int .i64 k ∧ v = .int .i64 (n / 2 ^ (8 * k)) ∧ BytesOwn wr w.heap.size (.slice (some ⟨w.heap.size, 0, none⟩) m m) (encF n k ++ List.replicate (m - k) 0) ∧ Below w.heap.size w wr) (fun _ i _ => m - (intOf i).toNat)
  case atStart => exact ⟨0, Nat.zero_le _, rfl, by simp, by simpa [encF] using hown, hb⟩
  case round =>
    obtain ⟨k, hk, rfl, rfl, hown, hb⟩ := hrel
    have hlen : (encF n k ++ List.replicate (m - k) 0).length = m := by simp [encF_length]; omega
    by_cases hlt : k < m
    · have hc := hown.cell (j := k) hlen hlt
      have hf := hown.free hlen k
      have hnext := hown.stored hlen k (IntKind.u8.wrap (n / 2 ^ (8 * k)))
      rw [set_at_end _ _ _ _ (encF_length n k) hlt] at hnext
      have hbn := hb.setCell (p := ⟨w.heap.size, k, none⟩) (Nat.le_refl _) (.int .u8 (IntKind.u8.wrap (n / 2 ^ (8 * k))))
      have hdn := Lib.hid (div_next n k)
      clear hown hb hlen
      go_wp2
      go_roundw
      case rel => exact ⟨k + 1, by omega, by go_num, by rw [hdn.out], hnext, hbn⟩
      case measure => simp [intOf]; omega
    · have hcv := bytes_str hown
      go_wp2
      go_ret
      exact ⟨ret_str (by rw [show m = k by omega]; simp), hb⟩
theorem implEncFixed_no (n m : Int) (w : World) (hm : m < 0 ∨ 8 < m) :
    Calls Tryz.prog 99 #[.int .i64 n, .int .i64 m] w fun e w' => e = .returned (.string (strOfNums [])) ∧ Below w.heap.size w w' := by
  by_cases h1 : m < 0
  all_goals
    go_enter Tryz.func99, Tryz.ntmps99
    go_wp2
    go_ret
    exact ⟨rfl, Below.refl _ _⟩
end Go.Proofs.YtlmdpdidjldkpaaGreatDoor
/- Error correction in the program: making a codeword, its text, a bit inverted, the correction. -/
namespace Go.Proofs.YtlmdpdidjldkpaaGreatDoor
open Go.RowKit

theorem decFix_word (x : Nat) (w : World) (hx : x < 2 ^ 64) :
    Calls Tryz.prog 89 #[.string (wStr x)] w fun e w' => e = .returned (.int .i64 (wrap64 (x : Int))) ∧ w = w' := by
  refine (implDecFixed_short (wStr x) w (by rw [wStr_size]; omega)).mono ?_
  rintro e w' ⟨rfl, rfl⟩
  exact ⟨ret_int (by rw [wStr_size, fix_word, wStr_word hx]), rfl⟩
theorem encFix_word (x : Nat) (w : World) (hx : x < 2 ^ 64) :
    Calls Tryz.prog 99 #[.int .i64 (wrap64 (x : Int)), .int .i64 8] w fun e w' => e = .returned (.string (wStr x)) ∧ Below w.heap.size w w' := by
  refine (implEncFixed_yes (wrap64 (x : Int)) 8 w (by omega)).mono ?_
  rintro e w' ⟨rfl, hb⟩
  exact ⟨ret_str (by rw [encF_word hx]; rfl), hb⟩
theorem u64_back (x : Nat) (hx : x < 2 ^ 64) : IntKind.u64.wrap (wrap64 (x : Int)) = (x : Int) := by
  rw [IntKind.wrap_u64]; unfold wrap64; omega
theorem infoCw' : (Tryz.prog.info? 100).map (·.size) = some 2 := by kernel_rfl
def cw (X : Nat) : Array Value := #[.int .u64 (lo X : Nat), .int .u8 (hi X : Nat)]
def OfPost (cs : Array Value) (b : Bool) (w : World) (e : Ending) (w' : World) : Prop := e = .returned (.tuple #[.agg cs, .bool b]) ∧ Below w.heap.size w w'
set_option maxRecDepth 100000 in
theorem codewordOf_yes (X : Nat) (w : World) (hX : X < 2 ^ 72) :
    Calls Tryz.prog 70 #[.string (wStr (lo X)), .int .i64 (hi X : Nat)] w (OfPost (cw X) true w) := by
  have hc := hi_lt hX
  have hsz : (((wStr (lo X)).size : Int) != 8) = false := by rw [wStr_size]; rfl
  have HD := Lib.hid (fun (W : World) => decFix_word (lo X) W (lo_lt X))
  have HU := Lib.hid (u64_back (lo X) (lo_lt X))
  have hlo := lo_lt X
  unfold cw
  generalize wStr (lo X) = s at *
  generalize lo X = x at *
  generalize hi X = c at *
  have hc1 : (c : Int) ≤ 255 := by omega
  go_enter Tryz.func70, Tryz.ntmps70
  go_wp2_with (go_at_call 89; go_must (refine (HD.out _).mono ?_); rintro e w' ⟨rfl, rfl⟩)
  exact bodyPost_ret (results_row_tmp Tryz.results70 _ _ _ _ _ _ _ rfl (heap_alloc_new w _) Tryz.underlying100 rfl infoCw') rfl ⟨by rw [HU.out]; rfl, (Below.refl _ _).alloc (Nat.le_refl _) _⟩
theorem codewordOf_no (s : ByteArray) (c : Int) (w : World) (h : s.size ≠ 8 ∨ c < 0 ∨ 255 < c) :
    Calls Tryz.prog 70 #[.string s, .int .i64 c] w (OfPost #[.int .u64 0, .int .u8 0] false w) := by
  by_cases hs : s.size = 8
  · have h1 : ((s.size : Int) != 8) = false := by rw [hs]; rfl
    have hc : c < 0 ∨ 255 < c := by omega
    clear hs h
    by_cases h0 : c < 0
    all_goals
      go_enter Tryz.func70, Tryz.ntmps70
      go_wp2
      exact bodyPost_ret (results_row_tmp Tryz.results70 _ _ _ _ _ _ _ rfl (heap_alloc_new w _) Tryz.underlying100 rfl infoCw') rfl ⟨rfl, (Below.refl _ _).alloc (Nat.le_refl _) _⟩
  · have h1 : ((s.size : Int) != 8) = true := by simp; omega
    clear hs h
    go_enter Tryz.func70, Tryz.ntmps70
    go_wp2
    exact bodyPost_ret (results_row_tmp Tryz.results70 _ _ _ _ _ _ _ rfl (heap_alloc_new w _) Tryz.underlying100 rfl infoCw') rfl ⟨rfl, (Below.refl _ _).alloc (Nat.le_refl _) _⟩
theorem text_any (X : Nat) (w : World) :
    Calls Tryz.prog 82 #[.agg (cw X)] w fun e w' => e = .returned (.string (wStr (lo X))) ∧ Below w.heap.size w w' := by
  have hlo := lo_lt X
  have HE := Lib.hid (fun (W : World) => encFix_word (lo X) W hlo)
  unfold cw
  generalize wStr (lo X) = s at *
  generalize lo X = x at *
  generalize hi X = c at *
  go_enter Tryz.func82, Tryz.ntmps82
  go_wp2_with (go_at_call 99; go_must (refine (HE.out _).mono ?_); rintro e w1 ⟨rfl, hb1⟩)
  go_ret
  exact ⟨rfl, ((Below.refl w.heap.size w).alloc (Nat.le_refl _) _).trans (hb1.mono (by simp))⟩
theorem infoF64' : (Tryz.prog.info? 96).map (·.size) = some 1 := by kernel_rfl
theorem infoF8' : (Tryz.prog.info? 98).map (·.size) = some 1 := by kernel_rfl
theorem heap_new2 (w : World) (a o : Obj) : ((w.alloc a).alloc o).heap[w.heap.size + 1]? = some o := by
  have := heap_alloc_new (w.alloc a) o
  simp only [World.size_alloc] at this
  exact this
set_option maxRecDepth 100000 in
theorem flip64_any (x b : Nat) (w : World) (hx : x < 2 ^ 64) (hb : b < 64) :
    Calls Tryz.prog 110 #[.agg #[.int .u64 x], .int .i64 b] w fun e w' => e = .returned (.agg #[.int .u64 (x ^^^ 2 ^ b : Nat)]) ∧ Below w.heap.size w w' := by
  have hbi : (b : Int) < 64 := by omega
  have HX : Hid (bits .xor .u64 (x : Int) (IntKind.u64.wrap (2 ^ b)) = ((x ^^^ 2 ^ b : Nat) : Int)) := by
    show _ = _
    have hp : (2 : Nat) ^ b < 2 ^ 64 := Nat.pow_lt_pow_right (by decide) hb
    have e : ((2 : Int) ^ b) = (((2 : Nat) ^ b : Nat) : Int) := by rw [Int.natCast_pow]; rfl
    rw [e]
    generalize (2 : Nat) ^ b = p at *
    have hw : IntKind.u64.wrap (p : Int) = (p : Int) := by rw [IntKind.wrap_u64]; omega
    have h1 : (BitVec.ofInt 64 (x : Int)).toNat = x := by rw [BitVec.ofInt_natCast, BitVec.toNat_ofNat]; exact Nat.mod_eq_of_lt hx
    have h2 : (BitVec.ofInt 64 (p : Int)).toNat = p := by rw [BitVec.ofInt_natCast, BitVec.toNat_ofNat]; exact Nat.mod_eq_of_lt hp
    have hl : x ^^^ p < 2 ^ 64 := Nat.xor_lt_two_pow hx hp
    rw [hw]
    show IntKind.u64.wrap ((BitVec.ofInt 64 (x : Int) ^^^ BitVec.ofInt 64 (p : Int)).toNat : Int) = _
    rw [BitVec.toNat_xor, h1, h2, IntKind.wrap_u64]; omega
  go_enter Tryz.func110, Tryz.ntmps110
  go_wp2
  go_region
  go_wp2
  exact bodyPost_ret (results_cell_row Tryz.results110 _ _ _ _ _ _ _ rfl (show _ = _ from heap_new2 w _ _) Tryz.underlying96 rfl infoF64') rfl ⟨by rw [HX.out], (((Below.refl _ _).alloc (Nat.le_refl _) _).alloc (by simp) _).drew⟩
set_option maxRecDepth 100000 in
theorem flip8_any (x b : Nat) (w : World) (hx : x < 256) (hb : b < 8) :
    Calls Tryz.prog 111 #[.agg #[.int .u8 x], .int .i64 b] w fun e w' => e = .returned (.agg #[.int .u8 (x ^^^ 2 ^ b : Nat)]) ∧ Below w.heap.size w w' := by
  have hbi : (b : Int) < 8 := by omega
  have HX : Hid (bits .xor .u8 (x : Int) (2 ^ b % 256) = ((x ^^^ 2 ^ b : Nat) : Int)) := by
    show _ = _
    have hp : (2 : Nat) ^ b < 2 ^ 8 := Nat.pow_lt_pow_right (by decide) hb
    have e : ((2 : Int) ^ b) = (((2 : Nat) ^ b : Nat) : Int) := by rw [Int.natCast_pow]; rfl
    rw [e]
    generalize (2 : Nat) ^ b = p at *
    rw [show (p : Int) % 256 = (p : Int) by omega, u8_xor_nat _ _ (by omega) (by omega)]
  go_enter Tryz.func111, Tryz.ntmps111
  go_wp2
  go_region
  go_wp2
  exact bodyPost_ret (results_cell_row Tryz.results111 _ _ _ _ _ _ _ rfl (show _ = _ from heap_new2 w _ _) Tryz.underlying98 rfl infoF8') rfl ⟨by rw [HX.out], (((Below.refl _ _).alloc (Nat.le_refl _) _).alloc (by simp) _).drew⟩
/-- Block g is a row of the cells cs, none frozen. -/
def Row (w : World) (g : Nat) (t : TypeId) (cs : Array Value) : Prop := w.heap[g]? = some (.cells cs t (0, 0))
section
variable {w w' : World} {g B : Nat} {t : TypeId} {cs : Array Value}
theorem Row.lt (h : Row w g t cs) : g < w.heap.size := by
  rcases Nat.lt_or_ge g w.heap.size with hlt | hge
  · exact hlt
  · unfold Row at h; rw [Array.getElem?_eq_none hge] at h; cases h
theorem Row.cell (h : Row w g t cs) (j : Nat) : w.cell? ⟨g, j, none⟩ = cs[j]? := cell_of_row w g j _ t (0, 0) h
theorem Row.free (h : Row w g t cs) (j : Nat) : w.frozen? ⟨g, j, none⟩ = false := frozen_of_row w g j _ t h
theorem Row.below (h : Row w g t cs) (hb : Below B w w') (hg : g < B) : Row w' g t cs := (hb.block g hg).trans h
theorem Row.set_ (h : Row w g t cs) (j : Nat) (u : Value) : Row (w.setCell ⟨g, j, none⟩ u) g t (cs.setIfInBounds j u) := by
  unfold Row at h ⊢; exact heap_setCell_same w g j _ t _ h
theorem Row.far (h : Row w g t cs) {p : Addr} (hp : g ≠ p.block) (u : Value) : Row (w.setCell p u) g t cs := (Below.heap_setCell w p u g hp).trans h
theorem Row.alloc (h : Row w g t cs) (o : Obj) : Row (w.alloc o) g t cs := (Below.heap_alloc w o g h.lt).trans h
end
theorem Row.range {w : World} {g : Nat} {t : TypeId} {cs : Array Value} (h : Row w g t cs) : w.rangeAt g 0 cs.toList := by
  intro j v hv
  rw [Nat.zero_add, h.cell j]
  simpa using hv
theorem range_new (w : World) (cs : Array Value) (t : TypeId) : (w.alloc (.cells cs t)).rangeAt w.heap.size 0 cs.toList := by
  intro j v hv
  rw [World.cell?_alloc_new]
  simpa using hv
theorem range_below {w w' : World} {g o B : Nat} {l : List Value} (h : w.rangeAt g o l) (hb : Below B w w') (hg : g < B) : w'.rangeAt g o l := by
  intro j u hu
  exact (hb.cell (p := ⟨g, o + j, none⟩) hg).trans (h j u hu)
set_option maxRecDepth 100000 in
theorem flip_low_any (x c b : Nat) (w : World) (hx : x < 2 ^ 64) (hb : b < 64) :
    Calls Tryz.prog 98 #[.agg #[.int .u64 x, .int .u8 c], .int .i64 b] w fun e w' => e = .returned (.agg #[.int .u64 (x ^^^ 2 ^ b : Nat), .int .u8 c]) ∧ Below w.heap.size w w' := by
  have hbi : (b : Int) < 64 := by omega
  have HF := Lib.hid (fun (W : World) => flip64_any x b W hx hb)
  generalize x ^^^ 2 ^ b = y at *
  go_enter Tryz.func98, Tryz.ntmps98
  go_wp2_with (
    go_at_call 110
    refine (HF.out _).mono ?_
    rintro e w1 ⟨rfl, hb1⟩
    have hz1 := hb1.size
    simp at hz1
    have r0 : Row w1 w.heap.size 100 #[.int .u64 x, .int .u8 c] := Row.below (Row.alloc (heap_alloc_new w _) _) hb1 (by simp; omega)
    have r1 : Row w1 (w.heap.size + 1) 100 #[.int .u64 0, .int .u8 0] := Row.below (heap_new2 w _ _) hb1 (by simp)
    have c0 := r0.cell 0
    have c1 := r0.cell 1
    have f0 := r0.free 0
    have g0 := r1.free 0
    have g1 := r1.free 1
    have d0 := r1.cell 0
    have d1 := r1.cell 1
    simp only [List.getElem?_toArray, List.getElem?_cons_zero, List.getElem?_cons_succ] at c0 c1 d0 d1
    have R0 := Lib.hid r0
    have R1 := Lib.hid r1
    clear r0 r1)
  have hB : Below w.heap.size w w1 := (((Below.refl w.heap.size w).alloc (Nat.le_refl _) _).alloc (by simp) _).trans (hb1.mono (by simp; omega))
  exact bodyPost_ret (results_cell_row Tryz.results98 _ _ _ _ _ _ _ rfl (((R1.out.far (p := ⟨w.heap.size, 0, none⟩) (by simp) _).set_ 0 _).set_ 1 _) Tryz.underlying100 rfl infoCw') rfl
    ⟨rfl, ((hB.setCell (by simp) _).setCell (by simp) _).setCell (by simp) _⟩
set_option maxRecDepth 100000 in
theorem flip_high_any (x c b : Nat) (w : World) (hc : c < 256) (hb : 64 ≤ b) (hb2 : b < 72) :
    Calls Tryz.prog 98 #[.agg #[.int .u64 x, .int .u8 c], .int .i64 b] w fun e w' => e = .returned (.agg #[.int .u64 x, .int .u8 (c ^^^ 2 ^ (b - 64) : Nat)]) ∧ Below w.heap.size w w' := by
  have hbi : (64 : Int) ≤ (b : Int) := by omega
  have hbj : (b : Int) < 72 := by omega
  have HF := Lib.hid (fun (W : World) => flip8_any c (b - 64) W hc (by omega))
  have e : (((b - 64 : Nat) : Nat) : Int) = (b : Int) - 64 := by omega
  rw [e] at HF
  clear e
  generalize c ^^^ 2 ^ (b - 64) = y at *
  go_enter Tryz.func98, Tryz.ntmps98
  go_wp2_with (
    go_at_call 111
    refine (HF.out _).mono ?_
    rintro e w1 ⟨rfl, hb1⟩
    have hz1 := hb1.size
    simp at hz1
    have r0 : Row w1 w.heap.size 100 #[.int .u64 x, .int .u8 c] := Row.below (Row.alloc (heap_alloc_new w _) _) hb1 (by simp; omega)
    have r1 : Row w1 (w.heap.size + 1) 100 #[.int .u64 0, .int .u8 0] := Row.below (heap_new2 w _ _) hb1 (by simp)
    have c0 := r0.cell 0
    have c1 := r0.cell 1
    have f0 := r0.free 1
    have g0 := r1.free 0
    have g1 := r1.free 1
    have d0 := r1.cell 0
    have d1 := r1.cell 1
    simp only [List.getElem?_toArray, List.getElem?_cons_zero, List.getElem?_cons_succ] at c0 c1 d0 d1
    have R0 := Lib.hid r0
    have R1 := Lib.hid r1
    clear r0 r1)
  have hB : Below w.heap.size w w1 := (((Below.refl w.heap.size w).alloc (Nat.le_refl _) _).alloc (by simp) _).trans (hb1.mono (by simp; omega))
  exact bodyPost_ret (results_cell_row Tryz.results98 _ _ _ _ _ _ _ rfl (((R1.out.far (p := ⟨w.heap.size, 1, none⟩) (by simp) _).set_ 0 _).set_ 1 _) Tryz.underlying100 rfl infoCw') rfl
    ⟨rfl, ((hB.setCell (by simp) _).setCell (by simp) _).setCell (by simp) _⟩
theorem flip_cw (X b : Nat) (w : World) (hX : X < 2 ^ 72) (hb : b < 72) :
    Calls Tryz.prog 98 #[.agg (cw X), .int .i64 b] w fun e w' => e = .returned (.agg (cw (X ^^^ 2 ^ b))) ∧ Below w.heap.size w w' := by
  by_cases h : b < 64
  · have := flip_low_any (lo X) (hi X) b w (lo_lt X) h
    rw [← (flip_lo X h).1] at this
    have e : hi X = hi (X ^^^ 2 ^ b) := (flip_lo X h).2.symm
    unfold cw
    rw [← e]
    exact this
  · have := flip_high_any (lo X) (hi X) b w (hi_lt hX) (by omega) hb
    obtain ⟨h1, h2⟩ := flip_hi hX (by omega) hb
    rw [← h2] at this
    unfold cw
    rw [h1]
    exact this
end Go.Proofs.YtlmdpdidjldkpaaGreatDoor
/- Error correction in the program: parities and syndromes of a codeword. The table of masks is a hypothesis on its cells. -/
namespace Go.Proofs.YtlmdpdidjldkpaaGreatDoor
open Go.RowKit

/-- The table of masks. -/
def MaskTab (w : World) : Prop := w.rangeAt 0 0 (maskL.map fun (m : Nat) => Value.int .u64 m) ∧ 0 < w.heap.size
theorem MaskTab.below {w w' : World} {B : Nat} (h : MaskTab w) (hb : Below B w w') (hB : w.heap.size ≤ B) : MaskTab w' := by
  refine ⟨fun j v hv => ?_, ?_⟩
  · exact (hb.cell (p := ⟨0, 0 + j, none⟩) (Nat.lt_of_lt_of_le h.2 hB)).trans (h.1 j v hv)
  · have := hb.size; have := h.2; omega

def maskI : List Int := [12345867778520690011, 14815041334224828013, 17429460393205680014, 143554428622604272, 144112989119707136, 144115188008747008, 18302628885633695744]
theorem maskI_eq : maskL.map (fun (m : Nat) => (m : Int)) = maskI := by decide
theorem MaskTab.of {w : World} (h : Tab w 0 .u64 maskI) : MaskTab w := by
  refine ⟨fun j v hv => ?_, h.2⟩
  have e : (maskL.map fun (m : Nat) => Value.int .u64 m) = maskI.map (Value.int .u64) := by rw [← maskI_eq, List.map_map]; rfl
  rw [e, List.getElem?_map] at hv
  have hj : j < maskI.length := by
    rcases Nat.lt_or_ge j maskI.length with hlt | hge
    · exact hlt
    · rw [List.getElem?_eq_none hge] at hv; cases hv
  rw [Nat.zero_add, h.1 j hj, ← hv, List.getD_eq_getElem?_getD, List.getElem?_eq_getElem hj]; rfl

theorem par64_any (x : Nat) (w : World) (hx : x < 2 ^ 64) :
    Calls Tryz.prog 90 #[.agg #[.int .u64 x]] w fun e w' => e = .returned (.int .i64 (par64 x : Nat)) ∧ Below w.heap.size w w' := by
  have hp := popF_le 64 x
  have HP := Lib.hid (par64_pop x)
  have HO := Lib.hid (fun (W : World) => onesCount64_any x W hx)
  generalize popF 64 x = p at *
  generalize par64 x = q at *
  go_enter Tryz.func90, Tryz.ntmps90
  go_wp2_with (go_at_call 107; refine (HO.out _).mono ?_; rintro e w' ⟨rfl, rfl⟩)
  go_ret
  exact ⟨ret_int (by rw [← HP.out]; rfl), (Below.refl _ _).alloc (Nat.le_refl _) _⟩
theorem par8_any (x : Nat) (w : World) (hx : x < 256) :
    Calls Tryz.prog 91 #[.agg #[.int .u8 x]] w fun e w' => e = .returned (.int .i64 (par64 x : Nat)) ∧ Below w.heap.size w w' := by
  have hp := popF_le 64 x
  have HP := Lib.hid (par64_pop x)
  have HO := Lib.hid (fun (W : World) => onesCount64_any x W (by omega))
  have hxi : (x : Int) ≤ 255 := by omega
  generalize popF 64 x = p at *
  generalize par64 x = q at *
  go_enter Tryz.func91, Tryz.ntmps91
  go_wp2_with (go_at_call 107; refine (HO.out _).mono ?_; rintro e w' ⟨rfl, rfl⟩)
  go_ret
  exact ⟨ret_int (by rw [← HP.out]; rfl), (Below.refl _ _).alloc (Nat.le_refl _) _⟩

theorem under7 : Tryz.prog.underlying 119 = some (.array 7 67) := by kernel_rfl
theorem info7 : (Tryz.prog.info? 119).map (·.size) = some 7 := by kernel_rfl
theorem size64 (w : World) : (sizeOf 67).run Tryz.prog w = .ok 1 w := by kernel_rfl
theorem idx7 (l : List Value) (hl : l.length = 7) (k : Nat) (hk : k < 7) (v : Value) (hv : l[k]? = some v) (w : World) :
    (Instr.index 119 (.agg l.toArray) (.int .i64 (k : Int))).run Tryz.prog w = .ok v w := by
  have h1 : (0 : Int) ≤ (k : Int) ∧ (k : Int) < ((7 : Nat) : Int) := by omega
  simp only [Instr.index, asIntOf, Sem.run_bind, Sem.run_pure, Result.andThen_ok, run_underlying under7, if_pos h1, size64, Int.toNat_natCast, Nat.mul_one]
  simp [part, isAgg, run_underlying Tryz.underlying67, hl, hk]
  simpa [hl, hk] using hv
theorem mask_at (k : Nat) (hk : k < 7) : (maskL.map fun (m : Nat) => Value.int .u64 m)[k]? = some (.int .u64 (maskN k : Nat)) := by
  rw [List.getElem?_map]
  unfold maskN
  rw [List.getD_eq_getElem?_getD]
  have : k < maskL.length := hk
  rw [List.getElem?_eq_getElem this]; rfl
theorem and127_lo (c : Nat) (h : c < 256) : bits .and .i64 (c : Int) 127 = ((c % 128 : Nat) : Int) := and127 c (by omega)
set_option maxRecDepth 100000 in
theorem implSyndrome_any (x c : Nat) (w : World) (hx : x < 2 ^ 64) (hc : c < 256) (hT : MaskTab w) :
    Calls Tryz.prog 71 #[.agg #[.int .u64 x, .int .u8 c]] w fun e w' => e = .returned (.int .i64 (synN (x + 2 ^ 64 * c) : Nat)) ∧ Below w.heap.size w w' := by
  rw [← sum_syn hx hc]
  have HT := Lib.hid hT
  have hci : (c : Int) ≤ 255 := by omega
  have HA := Lib.hid (and127_lo c hc)
  have HI := Lib.hid (fun (k : Nat) (hk : k < 7) (W : World) => idx7 _ (by rfl) k hk _ (mask_at k hk) W)
  obtain ⟨ml, hml⟩ : ∃ ml, ml = maskL.map fun (m : Nat) => Value.int .u64 m := ⟨_, rfl⟩
  have hrange : (w.alloc (.cells #[.int .u64 x, .int .u8 c] 100)).rangeAt 0 0 ml := by rw [hml]; exact World.rangeAt_alloc hT.1 _
  have hin : (Tryz.prog.info? 119).map (·.size) = some ml.length := by rw [info7, hml]; rfl
  rw [← hml] at HI
  clear hT hml
  go_enter Tryz.func71, Tryz.ntmps71
  go_wp2_with (refine wpList_load_mid rfl 119 _ rfl 0 0 rfl ml _ hrange under7 rfl hin ?_)
  go_loopw [3, 13] (fun v i wr => ∃ k : Nat, k ≤ 7 ∧ i = .int .i64 k ∧ v = .int .i64 (sumN x c k : Nat) ∧ wr.cell? ⟨w.heap.size, 0, none⟩ = some (.int .u64 x) ∧ w.heap.size < wr.heap.size ∧ Below w.heap.size w wr) (fun _ i _ => 7 - (intOf i).toNat)
  case atStart => exact ⟨0, by omega, rfl, by rw [HA.out]; rfl, by rw [World.cell?_alloc_new]; rfl, by simp, (Below.refl _ _).alloc (Nat.le_refl _) _⟩
  case round =>
    obtain ⟨k, hk, rfl, rfl, hcell, hzb, hb⟩ := hrel
    by_cases hk7 : k < 7
    · have hi := HI.out k hk7
      have hm := mask_lt hk7
      have hs := sumN_lt x c k hk
      have hs2 := sumN_lt x c (k + 1) hk7
      have HX : Hid (bits .xor .i64 (sumN x c k : Nat) (wrap64 ((par64 (x &&& maskN k) : Nat) * 2 ^ k)) = ((sumN x c (k + 1) : Nat) : Int)) := by
        show _ = _
        have hp := par64_lt (x &&& maskN k)
        have h2 : 2 ^ k ≤ 2 ^ 6 := Nat.pow_le_pow_right (by decide) (by omega)
        have hq : par64 (x &&& maskN k) * 2 ^ k ≤ 1 * 2 ^ k := Nat.mul_le_mul_right _ (by omega)
        have e : ((par64 (x &&& maskN k) : Nat) : Int) * 2 ^ k = ((par64 (x &&& maskN k) * 2 ^ k : Nat) : Int) := by rw [Int.natCast_mul, Int.natCast_pow]; rfl
        rw [e, sumN]
        generalize par64 (x &&& maskN k) * 2 ^ k = q at *
        rw [IntWalk.wrap64_in _ (by omega), i64_xor_nat _ _ (by omega) (by omega)]
      have HN := Lib.hid (u64_and_nat' x (maskN k) hx hm)
      have HP := Lib.hid (fun (W : World) => par64_any (x &&& maskN k) W (Nat.and_lt_two_pow _ hm))
      generalize maskN k = m at *
      generalize par64 (x &&& m) = q at *
      have hkk : (k : Int) < 7 := by omega
      go_wp2_with (go_at_call 90; go_must (rw [HN.out]; refine (HP.out _).mono ?_); rintro e w1 ⟨rfl, hb1⟩)
      have hbw : Below wr.heap.size wr w1 := ((Below.refl wr.heap.size wr).alloc (Nat.le_refl _) _).trans (hb1.mono (by simp))
      go_roundw
      case rel => exact ⟨k + 1, by omega, by go_num, by rw [HX.out], (hbw.cell (p := ⟨w.heap.size, 0, none⟩) hzb).trans hcell, Nat.lt_of_lt_of_le hzb hbw.size, hb.trans (hbw.mono (by omega))⟩
      case measure => simp [intOf]; omega
    · obtain rfl : k = 7 := by omega
      go_wp2
      go_ret
      exact ⟨rfl, hb⟩

theorem syn_cw (X : Nat) (w : World) (hX : X < 2 ^ 72) (hT : MaskTab w) :
    Calls Tryz.prog 71 #[.agg (cw X)] w fun e w' => e = .returned (.int .i64 (synN X : Nat)) ∧ Below w.heap.size w w' := by
  have := implSyndrome_any (lo X) (hi X) w (lo_lt X) (hi_lt hX) hT
  rw [lo_hi] at this
  exact this

theorem infoF64 : (Tryz.prog.info? 96).map (·.size) = some 1 := by kernel_rfl
theorem infoF8 : (Tryz.prog.info? 98).map (·.size) = some 1 := by kernel_rfl
theorem infoCw : (Tryz.prog.info? 100).map (·.size) = some 2 := by kernel_rfl
theorem range_part {w : World} {g : Nat} {a b : Value} (h : w.rangeAt g 0 [a, b]) : w.rangeAt g 0 [a] ∧ w.rangeAt g 1 [b] := by
  refine ⟨fun j v hv => ?_, fun j v hv => ?_⟩
  · match j, hv with
    | 0, hv => exact h 0 v hv
  · match j, hv with
    | 0, hv => exact h 1 v hv
set_option maxRecDepth 100000 in
theorem par_cw (X : Nat) (w : World) (hX : X < 2 ^ 72) :
    Calls Tryz.prog 72 #[.agg (cw X)] w fun e w' => e = .returned (.int .i64 (parN X : Nat)) ∧ Below w.heap.size w w' := by
  have hx := lo_lt X
  have hc := hi_lt hX
  have HE : Hid (bits .xor .i64 (par64 (lo X) : Nat) (par64 (hi X) : Nat) = ((parN X : Nat) : Int)) := by
    show _ = _
    have h1 := par64_lt (lo X)
    have h2 := par64_lt (hi X)
    have := par_split hx hc
    rw [lo_hi] at this
    rw [i64_xor_nat _ _ (by omega) (by omega), this]
  have HA := Lib.hid (fun (W : World) => par64_any (lo X) W hx)
  have HB := Lib.hid (fun (W : World) => par8_any (hi X) W hc)
  unfold cw
  generalize par64 (lo X) = p at *
  generalize par64 (hi X) = q at *
  generalize parN X = r at *
  generalize lo X = x at *
  generalize hi X = c at *
  have hr := range_new w #[.int .u64 x, .int .u8 c] 100
  have hu1 := Tryz.underlying96
  have hu2 := Tryz.underlying98
  have hi1 := infoF64
  have hi2 := infoF8
  go_enter Tryz.func72, Tryz.ntmps72
  go_wp2
  refine wp_region_held_drew (S := fun w' => w'.rangeAt w.heap.size 0 [.int .u64 x, .int .u8 c]) (by kernel_rfl) hr (fun hHeld => ?_)
  refine wpAnyH_take (i := 0) (oi := _) (v := .pointer (some ⟨w.heap.size, 0, none⟩)) rfl (by kernel_rfl) (by kernel_rfl) (by kernel_rfl) (fun _ _ _ h => h) (Or.inl ⟨by rfl, fun w hSw => by go_simp⟩) hHeld ?_
  refine wpAnyH_take (i := 1) (oi := _) (v := .agg #[.int .u64 x]) rfl (by kernel_rfl) (by kernel_rfl) (by kernel_rfl) (fun _ _ _ h => h) (yieldsIf_load_mid (by rfl) _ _ rfl _ _ rfl [.int .u64 x] _ (fun _ h => (range_part h).1) hu1 rfl hi1) hHeld ?_
  refine wpAnyH_take (i := 3) (oi := _) (v := .pointer (some ⟨w.heap.size, 1, none⟩)) rfl (by kernel_rfl) (by kernel_rfl) (by kernel_rfl) (fun _ _ _ h => h) (Or.inl ⟨by rfl, fun w hSw => by go_simp⟩) hHeld ?_
  refine wpAnyH_take (i := 4) (oi := _) (v := .agg #[.int .u8 c]) rfl (by kernel_rfl) (by kernel_rfl) (by kernel_rfl) (fun _ _ _ h => h) (yieldsIf_load_mid (by rfl) _ _ rfl _ _ rfl [.int .u8 c] _ (fun _ h => (range_part h).2) hu2 rfl hi2) hHeld ?_
  refine wpAnyH_ready (rs := [2]) (by kernel_rfl) (by simp) ?_
  refine AllReadyH.cons (o := _) rfl (fun K hK => ?_) AllReadyH.nil
  · go_simp
    go_at_call 90
    refine (HA.out _).mono ?_
    rintro e w1 ⟨rfl, hb1⟩
    have hr1 := range_below hHeld hb1 (by simp)
    refine hK.out _ _ hr1 (fun hHeld => ?_)
    clear hK K
    refine wpAnyH_ready (rs := [5]) (by kernel_rfl) (by simp) ?_
    refine AllReadyH.cons (o := _) rfl (fun K hK => ?_) AllReadyH.nil
    go_simp
    go_at_call 91
    refine (HB.out _).mono ?_
    rintro e w2 ⟨rfl, hb2⟩
    have hz1 := hb1.size
    simp at hz1
    refine hK.out _ _ (range_below hr1 hb2 (by omega)) (fun hHeld => ?_)
    clear hK K
    refine wpAnyH_take (i := 6) (oi := _) (v := .int .i64 (r : Int)) rfl (by kernel_rfl) (by kernel_rfl) (by kernel_rfl) (fun _ _ _ h => h) (Or.inl ⟨by rfl, fun w hSw => by go_simp; rw [HE.out]⟩) hHeld ?_
    refine wpAnyH_take (i := 7) (oi := _) (v := .int .i64 (r : Int)) rfl (by kernel_rfl) (by kernel_rfl) (by kernel_rfl) (fun _ _ _ h => h) (Or.inl ⟨by rfl, fun w hSw => by go_simp⟩) hHeld ?_
    refine wpAnyH_done (by kernel_rfl) ?_ _
    go_wp2
    go_ret
    exact ⟨rfl, (((Below.refl w.heap.size w).alloc (Nat.le_refl _) _).drew.trans (hb1.mono (by simp))).trans (hb2.mono (by omega))⟩
end Go.Proofs.YtlmdpdidjldkpaaGreatDoor
/- Error correction in the program: the correction of a single error. -/
namespace Go.Proofs.YtlmdpdidjldkpaaGreatDoor
open Go.RowKit

set_option maxHeartbeats 4000000 in
set_option maxRecDepth 1000000 in
theorem len64_small (x : Int) (w : World) (h0 : 0 ≤ x) (h : x ≤ 255) :
    Calls Tryz.prog 97 #[.int .u64 x] w fun e w' => e = .returned (.int .i64 (Lib.bitLen x.toNat)) ∧ w = w' := by
  go_enter Tryz.func97, Tryz.ntmps97
  go_wp2
  go_ret
  refine ⟨congrArg Ending.returned (congrArg (Value.int IntKind.i64) ?_), rfl⟩
  rw [Lib.len8_of x (by omega) (by omega)]
  have l := Lib.bitLen_le8' x (by omega) (by omega)
  rw [IntWalk.wrap64_in ((Lib.bitLen x.toNat : Nat) : Int) (by omega), IntWalk.wrap64_in _ (by omega)]
theorem len64_nat (x : Nat) (w : World) (h : x ≤ 255) :
    Calls Tryz.prog 97 #[.int .u64 x] w fun e w' => e = .returned (.int .i64 (Lib.bitLen x : Nat)) ∧ w = w' := by
  have := len64_small (x : Int) w (by omega) (by omega)
  rw [Int.toNat_natCast] at this
  exact this
theorem pow_all : ∀ p : Fin 72, (p.val &&& (p.val - 1) = 0 → 64 ≤ bitAt p.val) ∧ (p.val &&& (p.val - 1) ≠ 0 → bitAt p.val < 64 ∧ bitAt p.val + Lib.bitLen p.val + 1 = p.val ∧ 1 ≤ p.val) := by decide +kernel
def CorPost (R : Nat) (w : World) (e : Ending) (w' : World) : Prop := ∃ Y, e = .returned (.agg (cw Y)) ∧ lo Y = R ∧ Below w.heap.size w w'
set_option maxRecDepth 100000 in
theorem correct_any (X : Nat) (w : World) (hX : X < 2 ^ 72) (h : One X) :
    Calls Tryz.prog 81 #[.agg (cw X), .int .i64 (synN X : Nat)] w (CorPost (lo (fixN X)) w) := by
  have hp := h.2
  have hbl := bitAt_lt hp
  obtain ⟨p1, p2⟩ := pow_all ⟨synN X, by omega⟩
  simp only at p1 p2
  have hF := fun (W : World) => flip_cw X (bitAt (synN X)) W hX hbl
  have hfx : fixN X = X ^^^ 2 ^ bitAt (synN X) := rfl
  rw [← hfx] at hF
  have HF := Lib.hid hF
  have HH := Lib.hid (fun h64 => (flip_hi hX h64 hbl).1)
  rw [← hfx] at HH
  clear hF hfx h
  obtain ⟨p, hpp⟩ : ∃ p, p = synN X := ⟨_, rfl⟩
  obtain ⟨Y, hY⟩ : ∃ Y, Y = fixN X := ⟨_, rfl⟩
  rw [← hpp] at hp hbl p1 p2 HF HH ⊢
  rw [← hY] at HF HH ⊢
  clear hpp hY
  by_cases hz : p &&& (p - 1) = 0
  · have hb : (bits .and .i64 (p : Int) ((p : Int) - 1) == 0) = true := by
      rcases Nat.eq_zero_or_pos p with rfl | hpos
      · decide
      · have := i64_and_nat p (p - 1) (by omega) (by omega)
        rw [hz, show ((p - 1 : Nat) : Int) = (p : Int) - 1 by omega] at this
        rw [this]; rfl
    have H64 := HH.out (p1 hz)
    clear p1 p2 hz hbl HF HH
    unfold cw
    go_enter Tryz.func81, Tryz.ntmps81
    go_wp2
    exact bodyPost_ret (results_cell_row Tryz.results81 _ _ _ _ _ _ _ rfl (heap_new2 w _ _) Tryz.underlying100 rfl infoCw') rfl
      ⟨X, rfl, H64.symm, ((Below.refl _ _).alloc (Nat.le_refl _) _).alloc (by simp) _⟩
  · obtain ⟨q1, q2, q3⟩ := p2 hz
    have hb : (bits .and .i64 (p : Int) ((p : Int) - 1) == 0) = false := by
      have := i64_and_nat p (p - 1) (by omega) (by omega)
      rw [show ((p - 1 : Nat) : Int) = (p : Int) - 1 by omega] at this
      rw [this]; simp; omega
    have hbi : (p : Int) - (Lib.bitLen p : Nat) - 1 = (bitAt p : Nat) := by omega
    rw [← hbi] at HF
    have HL := Lib.hid (fun (W : World) => len64_nat p W (by omega))
    have hlp : Lib.bitLen p ≤ 71 := by omega
    generalize Lib.bitLen p = L at *
    clear p1 p2 hz hbl HH q1 q2 hbi
    unfold cw at HF ⊢
    go_enter Tryz.func81, Tryz.ntmps81
    go_wp2_with (first
      | (go_at_call 97; refine (HL.out _).mono ?_; rintro e w' ⟨rfl, rfl⟩)
      | (
        go_at_call 98
        refine (HF.out _).mono ?_
        rintro e w1 ⟨rfl, hb1⟩
        have r1 : Row w1 (w.heap.size + 1) 100 #[.int .u64 0, .int .u8 0] := Row.below (heap_new2 w _ _) hb1 (by simp)
        have g0 := r1.free 0
        have g1 := r1.free 1
        have d0 := r1.cell 0
        have d1 := r1.cell 1
        simp only [List.getElem?_toArray, List.getElem?_cons_zero, List.getElem?_cons_succ] at d0 d1
        have R1 := Lib.hid r1
        clear r1))
    have hB : Below w.heap.size w w1 := (((Below.refl w.heap.size w).alloc (Nat.le_refl _) _).alloc (by simp) _).trans (hb1.mono (by simp; omega))
    exact bodyPost_ret (results_cell_row Tryz.results81 _ _ _ _ _ _ _ rfl ((R1.out.set_ 0 _).set_ 1 _) Tryz.underlying100 rfl infoCw') rfl
      ⟨Y, rfl, rfl, (hB.setCell (by simp) _).setCell (by simp) _⟩
end Go.Proofs.YtlmdpdidjldkpaaGreatDoor
