/- The proof's own lemmas, part 28: CxB. -/
import Derived.Test.YtgamoiagpglcmaaProg
import Derived.Test.YtgamoiagpglcmaaMg14
import Derived.Test.YtgamoiagpglcmaaMg13
import Derived.Test.YtgamoiagpglcmaaMg1
import Derived.Deep.RegionLaw
import Derived.StillTailTactics
/- SenseCells, in the model and in the program: the contracts. -/
namespace Go.Proofs.Ytgamoiagpglcmaa
open Go.RowKit
set_option linter.unusedVariables false
set_option linter.unusedSimpArgs false

def senL (cs : List Int) : List Int := cs.map fun y => if 128 ≤ y then 48 else 49
def senS (M : Ce) (r : Bool) : ByteArray := bif r then strOfNums (senL M.c) else strOfNums []
theorem senL_length (cs : List Int) : (senL cs).length = cs.length := by simp [senL]
theorem senL_at (cs : List Int) (k : Nat) (h : k < cs.length) : (senL cs).getD k 0 = if 128 ≤ cs.getD k 0 then 48 else 49 := by simp [senL, List.getD_eq_getElem?_getD, h]
theorem strOfNums_nil : strOfNums [] = ByteArray.empty := rfl
theorem BytesOwn.laterB {w w' : World} {B B' : Nat} {v : Value} {l : List Int} (h : BytesOwn w B v l) (hb : Below B' w w') (hB : w.heap.size ≤ B') : BytesOwn w' B v l := by
  refine ⟨h.1, ?_⟩
  rcases h.2 with h2 | ⟨g, cap, cur, h1, h2, h3, h4⟩
  · exact .inl h2
  · have hg : g < w.heap.size := by
      rcases Nat.lt_or_ge g w.heap.size with hlt | hge
      · exact hlt
      · rw [Array.getElem?_eq_none hge] at h3; cases h3
    exact .inr ⟨g, cap, cur, h1, h2, (hb.block g (by omega)).trans h3, h4⟩
set_option maxHeartbeats 4000000 in
set_option maxRecDepth 100000 in
theorem implSense_any (u : Value) (M : Ce) (r : Bool) (w : World) (hi : Nat) (h : CeIn w hi u M) (hh : hi ≤ w.heap.size) (hr : r = true ↔ CeOk M) (hl : CeSz M) :
    Calls Try.prog 34 #[u] w fun e w' => e = .returned (.string (senS M r)) ∧ Below w.heap.size w w' := by
  obtain ⟨a, rfl, h1⟩ := h
  have HIN := Lib.hid h1
  obtain ⟨A, n, c, rfl, _, _, hn, hA⟩ := h1
  have HSV := Lib.hid (fun (W : World) (b : Below w.heap.size w W) => implCeOk_any (.agg #[.slice A n c]) M r W hi ⟨_, rfl, HIN.out.below b hh⟩ (by have := b.size; omega) hr hl)
  obtain ⟨cs⟩ := M
  unfold cec
  unfold CeSz at hl
  simp only at *
  have r0 := Rw.new w 42 #[.slice A n c]
  have b0 := (Below.refl w.heap.size w).alloc (Nat.le_refl _) (.cells #[.slice A n c] 42)
  have q0 := r0.one
  have R0 := Lib.hid r0
  have BB := Lib.hid b0
  have HA := Lib.hid hA
  have HN := Lib.hid hn
  have HH := Lib.hid hh
  have hnm : (n : Int) ≤ 1048576 := by omega
  clear r0 b0 hA hn hh hr hl
  go_enter Try.func34, Try.ntmps34
  go_wp2_with fail
  refine (HSV.out _ BB.out).mono ?_
  rintro e w1 ⟨rfl, b1⟩
  have HB1 := Lib.hid (BB.out.trans (b1.mono (by simp)))
  have R1 := Lib.hid (R0.out.below b1 (by simp))
  clear q0 b1
  have q1 := R1.out.one
  cases r with
  | false =>
    clear HSV HA
    go_wp2
    go_ret
    exact ⟨rfl, HB1.out⟩
  | true =>
    go_wp2_with (refine wpList_make_bytes rfl _ _ rfl _ _ _ _ n rfl rfl rfl rfl (by omega) (Below.refl w1.heap.size w1) (Nat.le_refl _) ?_; intro w2 hown hb; have K1 := Lib.hid (R1.out.below hb R1.out.lt); have HO := Lib.hid hown; have HB := Lib.hid (HB1.out.trans (hb.mono HB1.out.size)); clear q1; have q1 := K1.out.one; clear hown hb)
    clear q1
    obtain ⟨z, hz⟩ : ∃ z, z = w1.heap.size := ⟨_, rfl⟩
    rw [← hz] at HO ⊢
    have hzw : w.heap.size < z := by have := R1.out.lt; omega
    clear hz
    go_loopw [4, 5, 16] (fun _ _ i wr => ∃ k : Nat, k ≤ n ∧ i = .int .i64 (k : Int) ∧ Hid (BytesOwn wr z (.slice (some ⟨z, 0, none⟩) n n) ((senL cs).take k ++ List.replicate (n - k) 0)) ∧ Hid (Below w.heap.size w wr)) (fun _ _ i _ => n - (intOf i).toNat)
    case atStart => exact ⟨0, by omega, rfl, by simpa using HO, HB⟩
    case round =>
      obtain ⟨k, hk, rfl, HI, HBr⟩ := hrel
      have hlen : ((senL cs).take k ++ List.replicate (n - k) 0).length = n := by simp [senL_length, HN.out]; omega
      by_cases hlt : k < n
      · have hki : (k : Int) < (n : Int) := by omega
        obtain ⟨pb, po, rfl, hp2, hpx⟩ := HA.out (by omega)
        have e1 := (HBr.out.cell (p := ⟨pb, po + k, none⟩) (by have := HH.out; show pb < _; omega)).trans (hpx k hlt)
        have hc := HI.out.cell (j := k) hlen hlt
        have hf := HI.out.free hlen k
        have hs1 := HI.out.stored hlen k 49
        have hlen1 : (((senL cs).take k ++ List.replicate (n - k) 0).set k 49).length = n := by simpa using hlen
        have hc1 := hs1.cell (j := k) hlen1 hlt
        have hf1 := hs1.free hlen1 k
        have hs2 := hs1.stored hlen1 k 48
        have hset := take_setI (senL cs) k (by rw [senL_length, HN.out]; exact hlt)
        rw [senL_length, HN.out, senL_at cs k (by rw [HN.out]; exact hlt)] at hset
        rw [List.set_set] at hs2
        generalize ((senL cs).take k ++ List.replicate (n - k) 0).getD k 0 = old at *
        generalize (((senL cs).take k ++ List.replicate (n - k) 0).set k 49).getD k 0 = old1 at *
        generalize cs.getD k 0 = y at *
        have B2 := Lib.hid (HBr.out.setCell (p := ⟨z, k, none⟩) (show w.heap.size ≤ z by omega) (.int .u8 49))
        have B3 := Lib.hid (B2.out.setCell (p := ⟨z, k, none⟩) (show w.heap.size ≤ z by omega) (.int .u8 48))
        by_cases hge : 128 ≤ y
        · have hgd : decide (y ≥ 128) = true := by simpa using hge
          have hgd' : decide (128 ≤ y) = true := by simpa using hge
          rw [if_pos hge] at hset
          rw [hset] at hs2
          have HS2 := Lib.hid hs2
          clear hpx hp2 HA HI hlen hlen1 hset hs1 hs2 HBr HSV
          go_wp2
          go_roundw
          case rel => exact ⟨k + 1, by omega, by go_num, by simpa using HS2, by simpa using B3⟩
          case measure => simp [intOf]; omega
        · have hgd : decide (y ≥ 128) = false := by simpa using hge
          have hgd' : decide (128 ≤ y) = false := by simpa using hge
          rw [if_neg hge] at hset
          rw [hset] at hs1
          have HS2 := Lib.hid hs1
          clear hpx hp2 HA HI hlen hlen1 hset hs1 hs2 HBr HSV hc1 hf1
          go_wp2
          go_roundw
          case rel => exact ⟨k + 1, by omega, by go_num, HS2, B2⟩
          case measure => simp [intOf]; omega
      · obtain rfl : k = n := by omega
        rw [List.take_of_length_le (by simp [senL_length, HN.out]), Nat.sub_self, List.replicate_zero, List.append_nil] at HI
        have hcv := bytes_str HI.out
        clear hlen HA HSV
        go_wp2
        go_ret
        exact ⟨by simp [senS, *], HBr.out⟩
end Go.Proofs.Ytgamoiagpglcmaa
