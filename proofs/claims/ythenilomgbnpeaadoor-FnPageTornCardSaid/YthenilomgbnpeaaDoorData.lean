/- The laws' helper b10Data: a text of n bytes. -/
import Derived.Test.YthenilomgbnpeaaDoorProg
import Derived.Test.YthenilomgbnpeaaDoorArg
import Derived.Test.YthenilomgbnpeaaDoorBytes
namespace Go.Proofs.YthenilomgbnpeaaDoor
open Go.RowKit

theorem CodeIs.wide {w : World} {B B' : Nat} {v : Value} (h : CodeIs w B v) (hB : B ≤ B') : CodeIs w B' v := by
  obtain ⟨A, len, cap, rfl, hl, hh⟩ := h
  refine ⟨A, len, cap, rfl, hl, fun hp => ?_⟩
  obtain ⟨b, off, hA, hb, hc⟩ := hh hp
  exact ⟨b, off, hA, by omega, hc⟩
theorem b10At_sum (B : Nat) (v : Value) (i k : Nat) (n : Int) (w : World) (h : CodeIs w B v) (hi : i + k ≤ 100000000) (hn : 2 ≤ n) (hn2 : n ≤ 1000000000000) :
    Calls Tryd.prog 7 #[v, .int .i64 ((i : Int) + (k : Int)), .int .i64 n] w (AtPost n w) := by
  have := b10At_any B v (i + k) n w h hi hn hn2
  rw [Int.natCast_add] at this
  exact this
def DataPost (n : Nat) (w : World) (e : Ending) (w' : World) : Prop := ∃ s : ByteArray, e = .returned (.string s) ∧ s.size = n ∧ Below w.heap.size w w'
set_option maxRecDepth 100000 in
theorem b10Data_any (B : Nat) (v : Value) (i n : Nat) (w : World) (h : CodeIs w B v) (hB : B ≤ w.heap.size) (hi : i ≤ 1000000) (hn : n ≤ 100000) :
    Calls Tryd.prog 6 #[v, .int .i64 i, .int .i64 n] w (DataPost n w) := by
  have HC := Lib.hid h
  have hii : (i : Int) ≤ 1000000 := by omega
  obtain ⟨A, len, cap, rfl, _⟩ := h
  obtain ⟨v, hv⟩ : ∃ v, v = Value.slice A len cap := ⟨_, rfl⟩
  rw [← hv] at HC ⊢
  clear hv
  go_enter Tryd.func6, Tryd.ntmps6
  go_wp2
  go_loopw [7, 8] (fun u j wr => ∃ (k : Nat) (l : List Int), k ≤ n ∧ j = .int .i64 k ∧ l.length = k ∧ BytesOwn wr w.heap.size u l ∧ Below w.heap.size w wr) (fun _ j _ => n - (intOf j).toNat)
  case atStart => exact ⟨0, [], by omega, rfl, rfl, BytesOwn.made _ (Nat.le_refl _), (Below.refl _ _).alloc (Nat.le_refl _) _⟩
  case round =>
    obtain ⟨k, l, hk, rfl, hl, hown, hb⟩ := hrel
    have hz := hb.size
    by_cases hlt : k < n
    · have hc := HC.out.keep (w' := wr) (fun b hbl => hb.block b (by omega))
      have hkn : (k : Int) < (n : Int) := by omega
      have hkm : (k : Int) ≤ 100000 := by omega
      go_wp2_with (first
        | (go_at_call 7; refine (b10At_sum B _ i k 256 _ hc (by omega) (by omega) (by omega)).mono ?_; rintro e w' ⟨x, rfl, hx0, hx1, rfl⟩)
        | (at_builtin; refine wpList_append_byte rfl _ _ rfl _ l rfl hown hb hz _ _ rfl (by omega) ?_; intro v' w1 hown' hb'; clear hown hb))
      go_roundw
      case rel => exact ⟨k + 1, _, by omega, by go_num, by simp [hl], hown', hb'⟩
      case measure => simp [intOf]; omega
    · obtain rfl : k = n := by omega
      have hcv := bytes_str hown
      have hs := strOfNums_size l
      have HS := Lib.hid hs
      have HL := Lib.hid hl
      clear hs hl
      go_wp2
      go_ret
      exact ⟨_, rfl, by rw [HS.out, HL.out], hb⟩
end Go.Proofs.YthenilomgbnpeaaDoor
