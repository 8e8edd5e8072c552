/- Scrambling, in the model and in the program: the contracts. -/
import Derived.Test.YthenilomgbnpeaaDoorProg
import Derived.Test.YthenilomgbnpeaaDoorKey
import Derived.Test.YthenilomgbnpeaaDoorXor
import Derived.StillTailTactics
namespace Go.Proofs.YthenilomgbnpeaaDoor
open Go.RowKit

theorem xorL_set (s key : ByteArray) (n k : Nat) (hk : k < n) : ∀ (r : List Int), r.length = n → ((xorL s key k ++ r.drop k).set k ((byteAt s k ^^^ byteAt key k : Nat) : Int)) = xorL s key (k + 1) ++ r.drop (k + 1) := by
  intro r hr
  have e : r.drop k = r[k] :: r.drop (k + 1) := List.drop_eq_getElem_cons (by omega)
  rw [List.set_append_right _ _ (by rw [xorL_length]; omega), xorL_length, Nat.sub_self, e, List.set_cons_zero, xorL, List.append_assoc]
  rfl
/-- The bytes of a text as integers. -/
def nums (s : ByteArray) : List Int := s.data.toList.map fun b => (b.toNat : Int)
theorem nums_length (s : ByteArray) : (nums s).length = s.size := by simp [nums]
theorem nums_get (s : ByteArray) (k : Nat) (h : k < s.size) : (nums s).getD k 0 = (byteAt s k : Int) := by
  have h' : k < s.data.toList.length := by simpa using h
  unfold nums byteAt
  rw [List.getD_eq_getElem?_getD, List.getElem?_map, List.getD_eq_getElem?_getD, List.getElem?_eq_getElem h']; rfl

set_option maxRecDepth 100000 in
theorem implScr_yes (p : Int) (s : ByteArray) (w : World) (h0 : 0 ≤ p) (h1 : p ≤ 65534) (hs : s.size ≤ 256) :
    Calls Tryd.prog 16 #[.int .i64 p, .string s] w fun e w' => e = .returned (.tuple #[.string (strOfNums (xorL s (strOfNums (streamL (p.toNat + 1) s.size)) s.size)), .int .i64 0]) ∧ Below w.heap.size w w' := by
  obtain ⟨n, rfl⟩ := Int.eq_ofNat_of_zero_le h0
  rw [Int.toNat_natCast]
  have hn1 : 1 ≤ n + 1 := by omega
  have hn2 : n + 1 < 65536 := by omega
  have hkey : (strOfNums (streamL (n + 1) s.size)).size = s.size := by rw [strOfNums_size, streamL_length]
  obtain ⟨key, hk⟩ : ∃ key, key = strOfNums (streamL (n + 1) s.size) := ⟨_, rfl⟩
  rw [← hk] at hkey ⊢
  have HK := Lib.hid hk
  have HKey := Lib.hid hkey
  clear hk hkey
  go_enter Tryd.func16, Tryd.ntmps16
  go_wp2_with (first
    | (go_at_call 23; refine (implSeed_yes _ _ h0 h1).mono ?_; rintro e w' ⟨rfl, rfl⟩)
    | (go_at_call 22; refine (implKey_yes (n + 1) s.size _ hn1 hn2 hs).mono ?_; rintro e w1 ⟨rfl, hb1⟩; rw [← HK.out])
    | (refine wpList_str_bytes rfl _ rfl s rfl hb1 hb1.size ?_; intro cap w2 hat hz2 hb2))
  have hz1 := hb1.size
  go_loopw [25] (fun i wr => ∃ k : Nat, k ≤ s.size ∧ i = .int .i64 k ∧ BytesAt wr w1.heap.size (xorL s key k ++ (nums s).drop k) ∧ Below w.heap.size w wr) (fun i _ => s.size - (intOf i).toNat)
  case atStart => exact ⟨0, Nat.zero_le _, rfl, hat, hb2⟩
  case round =>
    clear hat hb2
    obtain ⟨k, hk, rfl, hat, hb⟩ := hrel
    have hnl := nums_length s
    by_cases hlt : k < s.size
    · have hlt2 : k < key.size := by rw [HKey.out]; exact hlt
      have hi2 : (k : Int) < (key.size : Int) := by omega
      have hll : (xorL s key k ++ (nums s).drop k).length = s.size := by simp [xorL_length, hnl]; omega
      have hcell := (hat k (by omega)).1
      have hfree := (hat k (by omega)).2
      have hg : (xorL s key k ++ (nums s).drop k).getD k 0 = (byteAt s k : Int) := by
        rw [List.getD_eq_getElem?_getD, List.getElem?_append_right (by rw [xorL_length]; omega), xorL_length, Nat.sub_self, List.getElem?_drop, Nat.add_zero, ← List.getD_eq_getElem?_getD, nums_get s k hlt]
      rw [hg] at hcell
      have HX : Hid (bits .xor .u8 (byteAt s k : Int) (key[k].toNat : Int) = ((byteAt s k ^^^ byteAt key k : Nat) : Int)) := by
        have h1 := byteAt_le s k
        have h2 := byteAt_le key k
        rw [byteAt_eq hlt2]; exact u8_xor_nat _ _ (by omega) (by omega)
      have hnext := hat.set_ (k := k) (by omega) (bits .xor .u8 (byteAt s k : Int) (key[k].toNat : Int))
      have hb' := hb.setCell (p := ⟨w1.heap.size, k, none⟩) hz1 (.int .u8 (bits .xor .u8 (byteAt s k : Int) (key[k].toNat : Int)))
      have HS := Lib.hid (xorL_set s key s.size k hlt (nums s) hnl)
      clear hat hb hg hll hnl
      go_wp2
      go_region
      all_goals
        go_wp2
        go_roundw
        case rel => exact ⟨k + 1, by omega, by go_num, by rw [← HS.out, ← HX.out]; exact hnext.drew, hb'.drew⟩
        case measure => simp [intOf]; omega
    · have hcv := hat.str (cap := cap)
      have e : xorL s key k ++ (nums s).drop k = xorL s key s.size := by rw [show s.size = k by omega, List.drop_eq_nil_of_le (by omega), List.append_nil]
      rw [e, xorL_length] at hcv
      clear hat e hnl
      go_wp2
      go_ret2
      exact ⟨rfl, hb⟩
theorem implScr_no (p : Int) (s : ByteArray) (w : World) (h : (p < 0 ∨ 65534 < p) ∨ 256 < s.size) (hs : s.size ≤ 9223372036854775807) :
    Calls Tryd.prog 16 #[.int .i64 p, .string s] w fun e w' => e = .returned (.tuple #[.string ⟨#[]⟩, .int .i64 2]) ∧ Below w.heap.size w w' := by
  by_cases hp : p < 0 ∨ 65534 < p
  · clear h
    go_enter Tryd.func16, Tryd.ntmps16
    go_wp2_with (first
      | (go_at_call 23; refine (implSeed_no _ _ hp).mono ?_; rintro e w' ⟨rfl, rfl⟩)
      | (go_at_call 22; refine (implKey_no 0 s.size _ (by omega)).mono ?_; rintro e w1 ⟨rfl, hb1⟩))
    go_ret2
    exact ⟨rfl, hb1⟩
  · have h0 : 0 ≤ p := by omega
    have h1 : p ≤ 65534 := by omega
    have h2 : 256 < s.size := by omega
    clear h hp
    go_enter Tryd.func16, Tryd.ntmps16
    go_wp2_with (first
      | (go_at_call 23; refine (implSeed_yes _ _ h0 h1).mono ?_; rintro e w' ⟨rfl, rfl⟩)
      | (go_at_call 22; refine (implKey_no (p + 1) s.size _ (by omega)).mono ?_; rintro e w1 ⟨rfl, hb1⟩))
    go_ret2
    exact ⟨rfl, hb1⟩
end Go.Proofs.YthenilomgbnpeaaDoor
