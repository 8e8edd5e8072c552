/- Error correction in the program: parities and syndromes of a codeword. The table of masks is a hypothesis on its cells. -/
import Derived.Test.YthenilomgbnpeaaDoorProg
import Derived.Test.YthenilomgbnpeaaDoorPop
import Derived.Test.YthenilomgbnpeaaDoorCwI
import Derived.Test.YthenilomgbnpeaaDoorTab
import Derived.ProofKit
import Derived.Lib.Hide
import Derived.Deep.MidRow
import Derived.Deep.DeepMust
import Derived.Below
import Derived.Deep.RegionHeld3
namespace Go.Proofs.YthenilomgbnpeaaDoor
open Go.RowKit

/-- The table of masks. -/
def MaskTab (w : World) : Prop := w.rangeAt 0 0 (maskL.map fun (m : Nat) => Value.int .u64 m) ∧ 0 < w.heap.size
theorem MaskTab.below {w w' : World} {B : Nat} (h : MaskTab w) (hb : Below B w w') (hB : w.heap.size ≤ B) : MaskTab w' := by
  refine ⟨fun j v hv => ?_, ?_⟩
  · exact (hb.cell (p := ⟨0, 0 + j, none⟩) (Nat.lt_of_lt_of_le h.2 hB)).trans (h.1 j v hv)
  · have := hb.size; have := h.2; omega

def maskI : List Int := [12345867778520690011, 14815041334224828013, 17429460393205680014, 143554428622604272, 144112989119707136, 144115188008747008, 18302628885633695744]
theorem maskI_eq : maskL.map (fun (m : Nat) => (m : Int)) = maskI := by decide
theorem MaskTab.of {w : World} (h : Tab w 0 .u64 maskI) : MaskTab w := by
  refine ⟨fun j v hv => ?_, h.2⟩
  have e : (maskL.map fun (m : Nat) => Value.int .u64 m) = maskI.map (Value.int .u64) := by rw [← maskI_eq, List.map_map]; rfl
  rw [e, List.getElem?_map] at hv
  have hj : j < maskI.length := by
    rcases Nat.lt_or_ge j maskI.length with hlt | hge
    · exact hlt
    · rw [List.getElem?_eq_none hge] at hv; cases hv
  rw [Nat.zero_add, h.1 j hj, ← hv, List.getD_eq_getElem?_getD, List.getElem?_eq_getElem hj]; rfl

theorem par64_any (x : Nat) (w : World) (hx : x < 2 ^ 64) :
    Calls Tryd.prog 47 #[.agg #[.int .u64 x]] w fun e w' => e = .returned (.int .i64 (par64 x : Nat)) ∧ Below w.heap.size w w' := by
  have hp := popF_le 64 x
  have HP := Lib.hid (par64_pop x)
  have HO := Lib.hid (fun (W : World) => onesCount64_any x W hx)
  generalize popF 64 x = p at *
  generalize par64 x = q at *
  go_enter Tryd.func47, Tryd.ntmps47
  go_wp2_with (go_at_call 54; refine (HO.out _).mono ?_; rintro e w' ⟨rfl, rfl⟩)
  go_ret
  exact ⟨ret_int (by rw [← HP.out]; rfl), (Below.refl _ _).alloc (Nat.le_refl _) _⟩
theorem par8_any (x : Nat) (w : World) (hx : x < 256) :
    Calls Tryd.prog 48 #[.agg #[.int .u8 x]] w fun e w' => e = .returned (.int .i64 (par64 x : Nat)) ∧ Below w.heap.size w w' := by
  have hp := popF_le 64 x
  have HP := Lib.hid (par64_pop x)
  have HO := Lib.hid (fun (W : World) => onesCount64_any x W (by omega))
  have hxi : (x : Int) ≤ 255 := by omega
  generalize popF 64 x = p at *
  generalize par64 x = q at *
  go_enter Tryd.func48, Tryd.ntmps48
  go_wp2_with (go_at_call 54; refine (HO.out _).mono ?_; rintro e w' ⟨rfl, rfl⟩)
  go_ret
  exact ⟨ret_int (by rw [← HP.out]; rfl), (Below.refl _ _).alloc (Nat.le_refl _) _⟩

theorem under7 : Tryd.prog.underlying 77 = some (.array 7 60) := by kernel_rfl
theorem info7 : (Tryd.prog.info? 77).map (·.size) = some 7 := by kernel_rfl
theorem size64 (w : World) : (sizeOf 60).run Tryd.prog w = .ok 1 w := by kernel_rfl
theorem idx7 (l : List Value) (hl : l.length = 7) (k : Nat) (hk : k < 7) (v : Value) (hv : l[k]? = some v) (w : World) :
    (Instr.index 77 (.agg l.toArray) (.int .i64 (k : Int))).run Tryd.prog w = .ok v w := by
  have h1 : (0 : Int) ≤ (k : Int) ∧ (k : Int) < ((7 : Nat) : Int) := by omega
  simp only [Instr.index, asIntOf, Sem.run_bind, Sem.run_pure, Result.andThen_ok, run_underlying under7, if_pos h1, size64, Int.toNat_natCast, Nat.mul_one]
  simp [part, isAgg, run_underlying Tryd.underlying60, hl, hk]
  simpa [hl, hk] using hv
theorem mask_at (k : Nat) (hk : k < 7) : (maskL.map fun (m : Nat) => Value.int .u64 m)[k]? = some (.int .u64 (maskN k : Nat)) := by
  rw [List.getElem?_map]
  unfold maskN
  rw [List.getD_eq_getElem?_getD]
  have : k < maskL.length := hk
  rw [List.getElem?_eq_getElem this]; rfl
theorem and127_lo (c : Nat) (h : c < 256) : bits .and .i64 (c : Int) 127 = ((c % 128 : Nat) : Int) := and127 c (by omega)
set_option maxRecDepth 100000 in
theorem implSyndrome_any (x c : Nat) (w : World) (hx : x < 2 ^ 64) (hc : c < 256) (hT : MaskTab w) :
    Calls Tryd.prog 37 #[.agg #[.int .u64 x, .int .u8 c]] w fun e w' => e = .returned (.int .i64 (synN (x + 2 ^ 64 * c) : Nat)) ∧ Below w.heap.size w w' := by
  rw [← sum_syn hx hc]
  have HT := Lib.hid hT
  have hci : (c : Int) ≤ 255 := by omega
  have HA := Lib.hid (and127_lo c hc)
  have HI := Lib.hid (fun (k : Nat) (hk : k < 7) (W : World) => idx7 _ (by rfl) k hk _ (mask_at k hk) W)
  obtain ⟨ml, hml⟩ : ∃ ml, ml = maskL.map fun (m : Nat) => Value.int .u64 m := ⟨_, rfl⟩
  have hrange : (w.alloc (.cells #[.int .u64 x, .int .u8 c] 66)).rangeAt 0 0 ml := by rw [hml]; exact World.rangeAt_alloc hT.1 _
  have hin : (Tryd.prog.info? 77).map (·.size) = some ml.length := by rw [info7, hml]; rfl
  rw [← hml] at HI
  clear hT hml
  go_enter Tryd.func37, Tryd.ntmps37
  go_wp2_with (refine wpList_load_mid rfl 77 _ rfl 0 0 rfl ml _ hrange under7 rfl hin ?_)
  go_loopw [3, 13] (fun v i wr => ∃ k : Nat, k ≤ 7 ∧ i = .int .i64 k ∧ v = .int .i64 (sumN x c k : Nat) ∧ wr.cell? ⟨w.heap.size, 0, none⟩ = some (.int .u64 x) ∧ w.heap.size < wr.heap.size ∧ Below w.heap.size w wr) (fun _ i _ => 7 - (intOf i).toNat)
  case atStart => exact ⟨0, by omega, rfl, by rw [HA.out]; rfl, by rw [World.cell?_alloc_new]; rfl, by simp, (Below.refl _ _).alloc (Nat.le_refl _) _⟩
  case round =>
    obtain ⟨k, hk, rfl, rfl, hcell, hzb, hb⟩ := hrel
    by_cases hk7 : k < 7
    · have hi := HI.out k hk7
      have hm := mask_lt hk7
      have hs := sumN_lt x c k hk
      have hs2 := sumN_lt x c (k + 1) hk7
      have HX : Hid (bits .xor .i64 (sumN x c k : Nat) (wrap64 ((par64 (x &&& maskN k) : Nat) * 2 ^ k)) = ((sumN x c (k + 1) : Nat) : Int)) := by
        show _ = _
        have hp := par64_lt (x &&& maskN k)
        have h2 : 2 ^ k ≤ 2 ^ 6 := Nat.pow_le_pow_right (by decide) (by omega)
        have hq : par64 (x &&& maskN k) * 2 ^ k ≤ 1 * 2 ^ k := Nat.mul_le_mul_right _ (by omega)
        have e : ((par64 (x &&& maskN k) : Nat) : Int) * 2 ^ k = ((par64 (x &&& maskN k) * 2 ^ k : Nat) : Int) := by rw [Int.natCast_mul, Int.natCast_pow]; rfl
        rw [e, sumN]
        generalize par64 (x &&& maskN k) * 2 ^ k = q at *
        rw [IntWalk.wrap64_in _ (by omega), i64_xor_nat _ _ (by omega) (by omega)]
      have HN := Lib.hid (u64_and_nat' x (maskN k) hx hm)
      have HP := Lib.hid (fun (W : World) => par64_any (x &&& maskN k) W (Nat.and_lt_two_pow _ hm))
      generalize maskN k = m at *
      generalize par64 (x &&& m) = q at *
      have hkk : (k : Int) < 7 := by omega
      go_wp2_with (go_at_call 47; go_must (rw [HN.out]; refine (HP.out _).mono ?_); rintro e w1 ⟨rfl, hb1⟩)
      have hbw : Below wr.heap.size wr w1 := ((Below.refl wr.heap.size wr).alloc (Nat.le_refl _) _).trans (hb1.mono (by simp))
      go_roundw
      case rel => exact ⟨k + 1, by omega, by go_num, by rw [HX.out], (hbw.cell (p := ⟨w.heap.size, 0, none⟩) hzb).trans hcell, Nat.lt_of_lt_of_le hzb hbw.size, hb.trans (hbw.mono (by omega))⟩
      case measure => simp [intOf]; omega
    · obtain rfl : k = 7 := by omega
      go_wp2
      go_ret
      exact ⟨rfl, hb⟩

theorem syn_cw (X : Nat) (w : World) (hX : X < 2 ^ 72) (hT : MaskTab w) :
    Calls Tryd.prog 37 #[.agg (cw X)] w fun e w' => e = .returned (.int .i64 (synN X : Nat)) ∧ Below w.heap.size w w' := by
  have := implSyndrome_any (lo X) (hi X) w (lo_lt X) (hi_lt hX) hT
  rw [lo_hi] at this
  exact this

theorem infoF64 : (Tryd.prog.info? 62).map (·.size) = some 1 := by kernel_rfl
theorem infoF8 : (Tryd.prog.info? 64).map (·.size) = some 1 := by kernel_rfl
theorem infoCw : (Tryd.prog.info? 66).map (·.size) = some 2 := by kernel_rfl
theorem range_part {w : World} {g : Nat} {a b : Value} (h : w.rangeAt g 0 [a, b]) : w.rangeAt g 0 [a] ∧ w.rangeAt g 1 [b] := by
  refine ⟨fun j v hv => ?_, fun j v hv => ?_⟩
  · match j, hv with
    | 0, hv => exact h 0 v hv
  · match j, hv with
    | 0, hv => exact h 1 v hv
set_option maxRecDepth 100000 in
theorem par_cw (X : Nat) (w : World) (hX : X < 2 ^ 72) :
    Calls Tryd.prog 38 #[.agg (cw X)] w fun e w' => e = .returned (.int .i64 (parN X : Nat)) ∧ Below w.heap.size w w' := by
  have hx := lo_lt X
  have hc := hi_lt hX
  have HE : Hid (bits .xor .i64 (par64 (lo X) : Nat) (par64 (hi X) : Nat) = ((parN X : Nat) : Int)) := by
    show _ = _
    have h1 := par64_lt (lo X)
    have h2 := par64_lt (hi X)
    have := par_split hx hc
    rw [lo_hi] at this
    rw [i64_xor_nat _ _ (by omega) (by omega), this]
  have HA := Lib.hid (fun (W : World) => par64_any (lo X) W hx)
  have HB := Lib.hid (fun (W : World) => par8_any (hi X) W hc)
  unfold cw
  generalize par64 (lo X) = p at *
  generalize par64 (hi X) = q at *
  generalize parN X = r at *
  generalize lo X = x at *
  generalize hi X = c at *
  have hr := range_new w #[.int .u64 x, .int .u8 c] 66
  have hu1 := Tryd.underlying62
  have hu2 := Tryd.underlying64
  have hi1 := infoF64
  have hi2 := infoF8
  go_enter Tryd.func38, Tryd.ntmps38
  go_wp2
  refine wp_region_held_drew (S := fun w' => w'.rangeAt w.heap.size 0 [.int .u64 x, .int .u8 c]) (by kernel_rfl) hr (fun hHeld => ?_)
  refine wpAnyH_take (i := 0) (oi := _) (v := .pointer (some ⟨w.heap.size, 0, none⟩)) rfl (by kernel_rfl) (by kernel_rfl) (by kernel_rfl) (fun _ _ _ h => h) (Or.inl ⟨by rfl, fun w hSw => by go_simp⟩) hHeld ?_
  refine wpAnyH_take (i := 1) (oi := _) (v := .agg #[.int .u64 x]) rfl (by kernel_rfl) (by kernel_rfl) (by kernel_rfl) (fun _ _ _ h => h) (yieldsIf_load_mid (by rfl) _ _ rfl _ _ rfl [.int .u64 x] _ (fun _ h => (range_part h).1) hu1 rfl hi1) hHeld ?_
  refine wpAnyH_take (i := 3) (oi := _) (v := .pointer (some ⟨w.heap.size, 1, none⟩)) rfl (by kernel_rfl) (by kernel_rfl) (by kernel_rfl) (fun _ _ _ h => h) (Or.inl ⟨by rfl, fun w hSw => by go_simp⟩) hHeld ?_
  refine wpAnyH_take (i := 4) (oi := _) (v := .agg #[.int .u8 c]) rfl (by kernel_rfl) (by kernel_rfl) (by kernel_rfl) (fun _ _ _ h => h) (yieldsIf_load_mid (by rfl) _ _ rfl _ _ rfl [.int .u8 c] _ (fun _ h => (range_part h).2) hu2 rfl hi2) hHeld ?_
  refine wpAnyH_ready (rs := [2]) (by kernel_rfl) (by simp) ?_
  refine AllReadyH.cons (o := _) rfl (fun K hK => ?_) AllReadyH.nil
  · go_simp
    go_at_call 47
    refine (HA.out _).mono ?_
    rintro e w1 ⟨rfl, hb1⟩
    have hr1 := range_below hHeld hb1 (by simp)
    refine hK.out _ _ hr1 (fun hHeld => ?_)
    clear hK K
    refine wpAnyH_ready (rs := [5]) (by kernel_rfl) (by simp) ?_
    refine AllReadyH.cons (o := _) rfl (fun K hK => ?_) AllReadyH.nil
    go_simp
    go_at_call 48
    refine (HB.out _).mono ?_
    rintro e w2 ⟨rfl, hb2⟩
    have hz1 := hb1.size
    simp at hz1
    refine hK.out _ _ (range_below hr1 hb2 (by omega)) (fun hHeld => ?_)
    clear hK K
    refine wpAnyH_take (i := 6) (oi := _) (v := .int .i64 (r : Int)) rfl (by kernel_rfl) (by kernel_rfl) (by kernel_rfl) (fun _ _ _ h => h) (Or.inl ⟨by rfl, fun w hSw => by go_simp; rw [HE.out]⟩) hHeld ?_
    refine wpAnyH_take (i := 7) (oi := _) (v := .int .i64 (r : Int)) rfl (by kernel_rfl) (by kernel_rfl) (by kernel_rfl) (fun _ _ _ h => h) (Or.inl ⟨by rfl, fun w hSw => by go_simp⟩) hHeld ?_
    refine wpAnyH_done (by kernel_rfl) ?_ _
    go_wp2
    go_ret
    exact ⟨rfl, (((Below.refl w.heap.size w).alloc (Nat.le_refl _) _).drew.trans (hb1.mono (by simp))).trans (hb2.mono (by omega))⟩
end Go.Proofs.YthenilomgbnpeaaDoor
