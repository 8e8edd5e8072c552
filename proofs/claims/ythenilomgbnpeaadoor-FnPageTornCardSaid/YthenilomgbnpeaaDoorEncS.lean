/- The check bytes of several words, in the model and in the program: the contracts. -/
import Derived.Test.YthenilomgbnpeaaDoorProg
import Derived.Test.YthenilomgbnpeaaDoorWdN
import Derived.Test.YthenilomgbnpeaaDoorBytes
import Derived.Test.YthenilomgbnpeaaDoorDecI
namespace Go.Proofs.YthenilomgbnpeaaDoor
open Go.RowKit

theorem BytesOwn.later {w w' : World} {B B' : Nat} {v : Value} {l : List Int} (h : BytesOwn w B v l) (hb : Below B' w w') (hv : ∀ g, v.ownBlock = some g → g < B') : BytesOwn w' B v l := by
  refine ⟨h.1, ?_⟩
  rcases h.2 with h2 | ⟨g, cap, cur, h1, h2, h3, h4⟩
  · exact .inl h2
  · exact .inr ⟨g, cap, cur, h1, h2, (hb.block g (hv g (by rw [h1]; rfl))).trans h3, h4⟩
theorem slice_wd (s : ByteArray) (k : Nat) (h : 8 * k + 8 ≤ s.size) (w : World) :
    (Instr.slice 9 (.string s) (some (.int .i64 ((k : Int) * 8))) (some (.int .i64 (((k : Int) + 1) * 8))) none).run Tryd.prog w = .ok (.string (wd s k)) w := by
  rw [run_slice_string w 9 s .i64 .i64 _ _ Tryd.underlying9 (by omega) (by omega) (by omega)]
  rw [show (((k : Int) + 1) * 8).toNat = 8 * k + 8 by omega, show ((k : Int) * 8).toNat = 8 * k by omega]; rfl
theorem slice_at (s : ByteArray) (i : Nat) (h : i + 8 ≤ s.size) (w : World) :
    (Instr.slice 9 (.string s) (some (.int .i64 (i : Int))) (some (.int .i64 ((i : Int) + 8))) none).run Tryd.prog w = .ok (.string (s.extract i (i + 8))) w := by
  rw [run_slice_string w 9 s .i64 .i64 _ _ Tryd.underlying9 (by omega) (by omega) (by omega)]
  rw [show ((i : Int) + 8).toNat = i + 8 by omega]; rfl
theorem wordOf_any (s : ByteArray) (k : Nat) (w : World) (h : 8 * k + 8 ≤ s.size) (hs : s.size ≤ 1048576) :
    Calls Tryd.prog 26 #[.string s, .int .i64 k] w fun e w' => e = .returned (.string (wd s k)) ∧ w = w' := by
  have hsl := slice_wd s k h
  have hk : (k : Int) ≤ 1048576 := by omega
  go_enter Tryd.func26, Tryd.ntmps26
  go_wp2
  go_ret
  exact ⟨rfl, rfl⟩
/-- Is a text made of at most 32 words? -/
def Whole (s : ByteArray) : Prop := s.size % 8 = 0 ∧ s.size ≤ 256
theorem wholeWords_yes (s : ByteArray) (w : World) (h : Whole s) :
    Calls Tryd.prog 24 #[.string s] w fun e w' => e = .returned (.bool true) ∧ w = w' := by
  obtain ⟨h1, h2⟩ := h
  have hb : (((s.size : Int) % 8) == 0) = true := by simp; omega
  have h3 : (s.size : Int) ≤ 256 := by omega
  clear h1
  go_enter Tryd.func24, Tryd.ntmps24
  go_wp2
  go_ret
  exact ⟨rfl, rfl⟩
def EncPost (r : ByteArray) (c : Int) (w : World) (e : Ending) (w' : World) : Prop := e = .returned (.tuple #[.string r, .int .i64 c]) ∧ Below w.heap.size w w'
theorem set_at_end' (l : List Int) (n k : Nat) (b : Int) (h : l.length = k) (hk : k < n) : (l ++ List.replicate (n - k) 0).set k b = (l ++ [b]) ++ List.replicate (n - (k + 1)) 0 := by
  rw [List.set_append_right _ _ (by omega), h, Nat.sub_self, show n - k = (n - (k + 1)) + 1 by omega, List.replicate_succ, List.set_cons_zero, List.append_assoc]; rfl
theorem implEnc_yes (s : ByteArray) (n : Nat) (w : World) (hn : s.size = 8 * n) (hn2 : n ≤ 32) (hT : MaskTab w) :
    Calls Tryd.prog 17 #[.string s] w (EncPost (strOfNums (chkL s n)) 0 w) := by
  have HT := Lib.hid hT
  have HV := Lib.hid (fun (W : World) => wholeWords_yes s W ⟨by omega, by omega⟩)
  have HW := Lib.hid (fun (k : Nat) (W : World) (h : 8 * k + 8 ≤ s.size) => wordOf_any s k W h (by omega))
  have hsz : (s.size : Int) ≤ 256 := by omega
  have hdv : (s.size : Int) / 8 = (n : Int) := by omega
  have HN := Lib.hid hn
  clear hn hT
  go_enter Tryd.func17, Tryd.ntmps17
  go_wp2_with (first
    | (go_at_call 24; refine (HV.out _).mono ?_; rintro e w' ⟨rfl, rfl⟩)
    | (refine wpList_make_bytes rfl _ _ rfl _ _ _ _ n rfl rfl (by first | exact hdv | rfl) (by first | exact hdv | rfl) (by omega) (Below.refl _ _) (Nat.le_refl _) ?_; intro w1 hown hb))
  clear hdv
  go_loopw [15] (fun j wr => ∃ k : Nat, k ≤ n ∧ j = .int .i64 k ∧ BytesOwn wr w.heap.size (.slice (some ⟨w.heap.size, 0, none⟩) n n) (chkL s k ++ List.replicate (n - k) 0) ∧ Below w.heap.size w wr ∧ w.heap.size < wr.heap.size) (fun j _ => n - (intOf j).toNat)
  case atStart => exact ⟨0, by omega, rfl, by simpa [chkL] using hown, hb, (World.ownsRow.lt hown _ rfl).2⟩
  case round =>
    clear hown hb
    obtain ⟨k, hk, rfl, hown, hb, hzb⟩ := hrel
    have hz := hb.size
    have hclen := chkL_length s k
    have HNo := HN.out
    have hlen : (chkL s k ++ List.replicate (n - k) 0).length = n := by simp [hclen]; omega
    by_cases hlt : k < n
    · have h8 : 8 * k + 8 ≤ s.size := by omega
      have hwd := wd_wStr h8
      have HW1 := Lib.hid (fun (W : World) => HW.out k W h8)
      rw [hwd] at HW1
      have hc := chkN_lt (wdN s k)
      have HK := Lib.hid (fun (W : World) (hT : MaskTab W) => implCheck_yes (wdN s k) W (wdN_lt s k) hT)
      have HL : Hid (chkL s (k + 1) = chkL s k ++ [((chkN (wdN s k) : Nat) : Int)]) := by show _ = _; rfl
      have hse := set_at_end' (chkL s k) n k ((chkN (wdN s k) : Nat) : Int) hclen hlt
      have HSE := Lib.hid hse
      clear hwd hse HNo
      have hTr := HT.out.below hb (Nat.le_refl _)
      generalize chkN (wdN s k) = c at *
      generalize wStr (wdN s k) = t at *
      have hki : (k : Int) < (n : Int) := by omega
      have hci : (c : Int) ≤ 255 := by omega
      have hni : (n : Int) ≤ 32 := by omega
      go_wp2_with fail
      refine (HW1.out _).mono ?_
      rintro e w' ⟨rfl, rfl⟩
      go_wp2_with fail
      refine (HK.out _ hTr).mono ?_
      rintro e w2 ⟨rfl, hb2⟩
      have hb3 := hb.trans (hb2.mono hz)
      have hown3 : BytesOwn w2 w.heap.size (.slice (some ⟨w.heap.size, 0, none⟩) n n) (chkL s k ++ List.replicate (n - k) 0) := hown.later hb2 (fun g hg => by have e : w.heap.size = g := Option.some.inj hg; omega)
      have hcell := hown3.cell (j := k) hlen hlt
      have hfree := hown3.free hlen k
      have hnext := hown3.stored hlen k (c : Int)
      rw [HSE.out] at hnext
      have hbn := hb3.setCell (p := ⟨w.heap.size, k, none⟩) (Nat.le_refl _) (.int .u8 (c : Int))
      have hzn := hb2.size
      clear hown hb hown3 hb3 hb2
      go_wp2
      go_roundw
      case rel => exact ⟨k + 1, by omega, by go_num, by rw [HL.out]; exact hnext, hbn, by simp; omega⟩
      case measure => simp [intOf]; omega
    · obtain rfl : k = n := by omega
      have hcv := bytes_str hown
      rw [Nat.sub_self, List.replicate_zero, List.append_nil] at hcv
      clear HNo
      go_wp2
      go_ret2
      exact ⟨rfl, hb⟩
end Go.Proofs.YthenilomgbnpeaaDoor
