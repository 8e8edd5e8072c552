/- The proof's own lemmas, part 9: CwI EccI CorI. -/
import Derived.Test.YthenilomgbnpeaaGreatDoorProg
import Derived.Test.YthenilomgbnpeaaGreatDoorMg5
import Derived.Test.YthenilomgbnpeaaGreatDoorMg7
import Derived.Test.YthenilomgbnpeaaGreatDoorMg6
import Derived.Deep.DeepMust
import Derived.RegionTactic
import Derived.Deep.RegionHeld3
import Derived.ChangeAlike
import Derived.Test.YthenilomgbnpeaaGreatDoorMg0
import Derived.ProofKit
import Derived.Lib.Hide
import Derived.Deep.MidRow
import Derived.Below
import Derived.Lib.Strings
import Derived.Lib.Slices
import Derived.Lib.Small
import Derived.Lib.Walk
import Derived.Lib.BitFns
/- Error correction in the program: making a codeword, its text, a bit inverted, the correction. -/
namespace Go.Proofs.YthenilomgbnpeaaGreatDoor
open Go.RowKit

theorem decFix_word (x : Nat) (w : World) (hx : x < 2 ^ 64) :
    Calls Tryz.prog 85 #[.string (wStr x)] w fun e w' => e = .returned (.int .i64 (wrap64 (x : Int))) ∧ w = w' := by
  refine (implDecFixed_short (wStr x) w (by rw [wStr_size]; omega)).mono ?_
  rintro e w' ⟨rfl, rfl⟩
  exact ⟨ret_int (by rw [wStr_size, fix_word, wStr_word hx]), rfl⟩
theorem encFix_word (x : Nat) (w : World) (hx : x < 2 ^ 64) :
    Calls Tryz.prog 96 #[.int .i64 (wrap64 (x : Int)), .int .i64 8] w fun e w' => e = .returned (.string (wStr x)) ∧ Below w.heap.size w w' := by
  refine (implEncFixed_yes (wrap64 (x : Int)) 8 w (by omega)).mono ?_
  rintro e w' ⟨rfl, hb⟩
  exact ⟨ret_str (by rw [encF_word hx]; rfl), hb⟩
theorem u64_back (x : Nat) (hx : x < 2 ^ 64) : IntKind.u64.wrap (wrap64 (x : Int)) = (x : Int) := by
  rw [IntKind.wrap_u64]; unfold wrap64; omega
theorem infoCw' : (Tryz.prog.info? 100).map (·.size) = some 2 := by kernel_rfl
def cw (X : Nat) : Array Value := #[.int .u64 (lo X : Nat), .int .u8 (hi X : Nat)]
def OfPost (cs : Array Value) (b : Bool) (w : World) (e : Ending) (w' : World) : Prop := e = .returned (.tuple #[.agg cs, .bool b]) ∧ Below w.heap.size w w'
set_option maxRecDepth 100000 in
theorem codewordOf_yes (X : Nat) (w : World) (hX : X < 2 ^ 72) :
    Calls Tryz.prog 71 #[.string (wStr (lo X)), .int .i64 (hi X : Nat)] w (OfPost (cw X) true w) := by
  have hc := hi_lt hX
  have hsz : (((wStr (lo X)).size : Int) != 8) = false := by rw [wStr_size]; rfl
  have HD := Lib.hid (fun (W : World) => decFix_word (lo X) W (lo_lt X))
  have HU := Lib.hid (u64_back (lo X) (lo_lt X))
  have hlo := lo_lt X
  unfold cw
  generalize wStr (lo X) = s at *
  generalize lo X = x at *
  generalize hi X = c at *
  have hc1 : (c : Int) ≤ 255 := by omega
  go_enter Tryz.func71, Tryz.ntmps71
  go_wp2_with (go_at_call 85; go_must (refine (HD.out _).mono ?_); rintro e w' ⟨rfl, rfl⟩)
  exact bodyPost_ret (results_row_tmp Tryz.results71 _ _ _ _ _ _ _ rfl (heap_alloc_new w _) Tryz.underlying100 rfl infoCw') rfl ⟨by rw [HU.out]; rfl, (Below.refl _ _).alloc (Nat.le_refl _) _⟩
theorem codewordOf_no (s : ByteArray) (c : Int) (w : World) (h : s.size ≠ 8 ∨ c < 0 ∨ 255 < c) :
    Calls Tryz.prog 71 #[.string s, .int .i64 c] w (OfPost #[.int .u64 0, .int .u8 0] false w) := by
  by_cases hs : s.size = 8
  · have h1 : ((s.size : Int) != 8) = false := by rw [hs]; rfl
    have hc : c < 0 ∨ 255 < c := by omega
    clear hs h
    by_cases h0 : c < 0
    all_goals
      go_enter Tryz.func71, Tryz.ntmps71
      go_wp2
      exact bodyPost_ret (results_row_tmp Tryz.results71 _ _ _ _ _ _ _ rfl (heap_alloc_new w _) Tryz.underlying100 rfl infoCw') rfl ⟨rfl, (Below.refl _ _).alloc (Nat.le_refl _) _⟩
  · have h1 : ((s.size : Int) != 8) = true := by simp; omega
    clear hs h
    go_enter Tryz.func71, Tryz.ntmps71
    go_wp2
    exact bodyPost_ret (results_row_tmp Tryz.results71 _ _ _ _ _ _ _ rfl (heap_alloc_new w _) Tryz.underlying100 rfl infoCw') rfl ⟨rfl, (Below.refl _ _).alloc (Nat.le_refl _) _⟩
theorem text_any (X : Nat) (w : World) :
    Calls Tryz.prog 78 #[.agg (cw X)] w fun e w' => e = .returned (.string (wStr (lo X))) ∧ Below w.heap.size w w' := by
  have hlo := lo_lt X
  have HE := Lib.hid (fun (W : World) => encFix_word (lo X) W hlo)
  unfold cw
  generalize wStr (lo X) = s at *
  generalize lo X = x at *
  generalize hi X = c at *
  go_enter Tryz.func78, Tryz.ntmps78
  go_wp2_with (go_at_call 96; go_must (refine (HE.out _).mono ?_); rintro e w1 ⟨rfl, hb1⟩)
  go_ret
  exact ⟨rfl, ((Below.refl w.heap.size w).alloc (Nat.le_refl _) _).trans (hb1.mono (by simp))⟩
theorem infoF64' : (Tryz.prog.info? 96).map (·.size) = some 1 := by kernel_rfl
theorem infoF8' : (Tryz.prog.info? 98).map (·.size) = some 1 := by kernel_rfl
theorem heap_new2 (w : World) (a o : Obj) : ((w.alloc a).alloc o).heap[w.heap.size + 1]? = some o := by
  have := heap_alloc_new (w.alloc a) o
  simp only [World.size_alloc] at this
  exact this
set_option maxRecDepth 100000 in
theorem flip64_any (x b : Nat) (w : World) (hx : x < 2 ^ 64) (hb : b < 64) :
    Calls Tryz.prog 110 #[.agg #[.int .u64 x], .int .i64 b] w fun e w' => e = .returned (.agg #[.int .u64 (x ^^^ 2 ^ b : Nat)]) ∧ Below w.heap.size w w' := by
  have hbi : (b : Int) < 64 := by omega
  have HX : Hid (bits .xor .u64 (x : Int) (IntKind.u64.wrap (2 ^ b)) = ((x ^^^ 2 ^ b : Nat) : Int)) := by
    show _ = _
    have hp : (2 : Nat) ^ b < 2 ^ 64 := Nat.pow_lt_pow_right (by decide) hb
    have e : ((2 : Int) ^ b) = (((2 : Nat) ^ b : Nat) : Int) := by rw [Int.natCast_pow]; rfl
    rw [e]
    generalize (2 : Nat) ^ b = p at *
    have hw : IntKind.u64.wrap (p : Int) = (p : Int) := by rw [IntKind.wrap_u64]; omega
    have h1 : (BitVec.ofInt 64 (x : Int)).toNat = x := by rw [BitVec.ofInt_natCast, BitVec.toNat_ofNat]; exact Nat.mod_eq_of_lt hx
    have h2 : (BitVec.ofInt 64 (p : Int)).toNat = p := by rw [BitVec.ofInt_natCast, BitVec.toNat_ofNat]; exact Nat.mod_eq_of_lt hp
    have hl : x ^^^ p < 2 ^ 64 := Nat.xor_lt_two_pow hx hp
    rw [hw]
    show IntKind.u64.wrap ((BitVec.ofInt 64 (x : Int) ^^^ BitVec.ofInt 64 (p : Int)).toNat : Int) = _
    rw [BitVec.toNat_xor, h1, h2, IntKind.wrap_u64]; omega
  go_enter Tryz.func110, Tryz.ntmps110
  go_wp2
  go_region
  go_wp2
  exact bodyPost_ret (results_cell_row Tryz.results110 _ _ _ _ _ _ _ rfl (show _ = _ from heap_new2 w _ _) Tryz.underlying96 rfl infoF64') rfl ⟨by rw [HX.out], (((Below.refl _ _).alloc (Nat.le_refl _) _).alloc (by simp) _).drew⟩
set_option maxRecDepth 100000 in
theorem flip8_any (x b : Nat) (w : World) (hx : x < 256) (hb : b < 8) :
    Calls Tryz.prog 111 #[.agg #[.int .u8 x], .int .i64 b] w fun e w' => e = .returned (.agg #[.int .u8 (x ^^^ 2 ^ b : Nat)]) ∧ Below w.heap.size w w' := by
  have hbi : (b : Int) < 8 := by omega
  have HX : Hid (bits .xor .u8 (x : Int) (2 ^ b % 256) = ((x ^^^ 2 ^ b : Nat) : Int)) := by
    show _ = _
    have hp : (2 : Nat) ^ b < 2 ^ 8 := Nat.pow_lt_pow_right (by decide) hb
    have e : ((2 : Int) ^ b) = (((2 : Nat) ^ b : Nat) : Int) := by rw [Int.natCast_pow]; rfl
    rw [e]
    generalize (2 : Nat) ^ b = p at *
    rw [show (p : Int) % 256 = (p : Int) by omega, u8_xor_nat _ _ (by omega) (by omega)]
  go_enter Tryz.func111, Tryz.ntmps111
  go_wp2
  go_region
  go_wp2
  exact bodyPost_ret (results_cell_row Tryz.results111 _ _ _ _ _ _ _ rfl (show _ = _ from heap_new2 w _ _) Tryz.underlying98 rfl infoF8') rfl ⟨by rw [HX.out], (((Below.refl _ _).alloc (Nat.le_refl _) _).alloc (by simp) _).drew⟩
/-- Block g is a row of the cells cs, none frozen. -/
def Row (w : World) (g : Nat) (t : TypeId) (cs : Array Value) : Prop := w.heap[g]? = some (.cells cs t (0, 0))
section
variable {w w' : World} {g B : Nat} {t : TypeId} {cs : Array Value}
theorem Row.lt (h : Row w g t cs) : g < w.heap.size := by
  rcases Nat.lt_or_ge g w.heap.size with hlt | hge
  · exact hlt
  · unfold Row at h; rw [Array.getElem?_eq_none hge] at h; cases h
theorem Row.cell (h : Row w g t cs) (j : Nat) : w.cell? ⟨g, j, none⟩ = cs[j]? := cell_of_row w g j _ t (0, 0) h
theorem Row.free (h : Row w g t cs) (j : Nat) : w.frozen? ⟨g, j, none⟩ = false := frozen_of_row w g j _ t h
theorem Row.below (h : Row w g t cs) (hb : Below B w w') (hg : g < B) : Row w' g t cs := (hb.block g hg).trans h
theorem Row.set_ (h : Row w g t cs) (j : Nat) (u : Value) : Row (w.setCell ⟨g, j, none⟩ u) g t (cs.setIfInBounds j u) := by
  unfold Row at h ⊢; exact heap_setCell_same w g j _ t _ h
theorem Row.far (h : Row w g t cs) {p : Addr} (hp : g ≠ p.block) (u : Value) : Row (w.setCell p u) g t cs := (Below.heap_setCell w p u g hp).trans h
theorem Row.alloc (h : Row w g t cs) (o : Obj) : Row (w.alloc o) g t cs := (Below.heap_alloc w o g h.lt).trans h
end
theorem Row.range {w : World} {g : Nat} {t : TypeId} {cs : Array Value} (h : Row w g t cs) : w.rangeAt g 0 cs.toList := by
  intro j v hv
  rw [Nat.zero_add, h.cell j]
  simpa using hv
theorem range_new (w : World) (cs : Array Value) (t : TypeId) : (w.alloc (.cells cs t)).rangeAt w.heap.size 0 cs.toList := by
  intro j v hv
  rw [World.cell?_alloc_new]
  simpa using hv
theorem range_below {w w' : World} {g o B : Nat} {l : List Value} (h : w.rangeAt g o l) (hb : Below B w w') (hg : g < B) : w'.rangeAt g o l := by
  intro j u hu
  exact (hb.cell (p := ⟨g, o + j, none⟩) hg).trans (h j u hu)
set_option maxRecDepth 100000 in
theorem flip_low_any (x c b : Nat) (w : World) (hx : x < 2 ^ 64) (hb : b < 64) :
    Calls Tryz.prog 95 #[.agg #[.int .u64 x, .int .u8 c], .int .i64 b] w fun e w' => e = .returned (.agg #[.int .u64 (x ^^^ 2 ^ b : Nat), .int .u8 c]) ∧ Below w.heap.size w w' := by
  have hbi : (b : Int) < 64 := by omega
  have HF := Lib.hid (fun (W : World) => flip64_any x b W hx hb)
  generalize x ^^^ 2 ^ b = y at *
  go_enter Tryz.func95, Tryz.ntmps95
  go_wp2_with (
    go_at_call 110
    refine (HF.out _).mono ?_
    rintro e w1 ⟨rfl, hb1⟩
    have hz1 := hb1.size
    simp at hz1
    have r0 : Row w1 w.heap.size 100 #[.int .u64 x, .int .u8 c] := Row.below (Row.alloc (heap_alloc_new w _) _) hb1 (by simp; omega)
    have r1 : Row w1 (w.heap.size + 1) 100 #[.int .u64 0, .int .u8 0] := Row.below (heap_new2 w _ _) hb1 (by simp)
    have c0 := r0.cell 0
    have c1 := r0.cell 1
    have f0 := r0.free 0
    have g0 := r1.free 0
    have g1 := r1.free 1
    have d0 := r1.cell 0
    have d1 := r1.cell 1
    simp only [List.getElem?_toArray, List.getElem?_cons_zero, List.getElem?_cons_succ] at c0 c1 d0 d1
    have R0 := Lib.hid r0
    have R1 := Lib.hid r1
    clear r0 r1)
  have hB : Below w.heap.size w w1 := (((Below.refl w.heap.size w).alloc (Nat.le_refl _) _).alloc (by simp) _).trans (hb1.mono (by simp; omega))
  exact bodyPost_ret (results_cell_row Tryz.results95 _ _ _ _ _ _ _ rfl (((R1.out.far (p := ⟨w.heap.size, 0, none⟩) (by simp) _).set_ 0 _).set_ 1 _) Tryz.underlying100 rfl infoCw') rfl
    ⟨rfl, ((hB.setCell (by simp) _).setCell (by simp) _).setCell (by simp) _⟩
set_option maxRecDepth 100000 in
theorem flip_high_any (x c b : Nat) (w : World) (hc : c < 256) (hb : 64 ≤ b) (hb2 : b < 72) :
    Calls Tryz.prog 95 #[.agg #[.int .u64 x, .int .u8 c], .int .i64 b] w fun e w' => e = .returned (.agg #[.int .u64 x, .int .u8 (c ^^^ 2 ^ (b - 64) : Nat)]) ∧ Below w.heap.size w w' := by
  have hbi : (64 : Int) ≤ (b : Int) := by omega
  have hbj : (b : Int) < 72 := by omega
  have HF := Lib.hid (fun (W : World) => flip8_any c (b - 64) W hc (by omega))
  have e : (((b - 64 : Nat) : Nat) : Int) = (b : Int) - 64 := by omega
  rw [e] at HF
  clear e
  generalize c ^^^ 2 ^ (b - 64) = y at *
  go_enter Tryz.func95, Tryz.ntmps95
  go_wp2_with (
    go_at_call 111
    refine (HF.out _).mono ?_
    rintro e w1 ⟨rfl, hb1⟩
    have hz1 := hb1.size
    simp at hz1
    have r0 : Row w1 w.heap.size 100 #[.int .u64 x, .int .u8 c] := Row.below (Row.alloc (heap_alloc_new w _) _) hb1 (by simp; omega)
    have r1 : Row w1 (w.heap.size + 1) 100 #[.int .u64 0, .int .u8 0] := Row.below (heap_new2 w _ _) hb1 (by simp)
    have c0 := r0.cell 0
    have c1 := r0.cell 1
    have f0 := r0.free 1
    have g0 := r1.free 0
    have g1 := r1.free 1
    have d0 := r1.cell 0
    have d1 := r1.cell 1
    simp only [List.getElem?_toArray, List.getElem?_cons_zero, List.getElem?_cons_succ] at c0 c1 d0 d1
    have R0 := Lib.hid r0
    have R1 := Lib.hid r1
    clear r0 r1)
  have hB : Below w.heap.size w w1 := (((Below.refl w.heap.size w).alloc (Nat.le_refl _) _).alloc (by simp) _).trans (hb1.mono (by simp; omega))
  exact bodyPost_ret (results_cell_row Tryz.results95 _ _ _ _ _ _ _ rfl (((R1.out.far (p := ⟨w.heap.size, 1, none⟩) (by simp) _).set_ 0 _).set_ 1 _) Tryz.underlying100 rfl infoCw') rfl
    ⟨rfl, ((hB.setCell (by simp) _).setCell (by simp) _).setCell (by simp) _⟩
theorem flip_cw (X b : Nat) (w : World) (hX : X < 2 ^ 72) (hb : b < 72) :
    Calls Tryz.prog 95 #[.agg (cw X), .int .i64 b] w fun e w' => e = .returned (.agg (cw (X ^^^ 2 ^ b))) ∧ Below w.heap.size w w' := by
  by_cases h : b < 64
  · have := flip_low_any (lo X) (hi X) b w (lo_lt X) h
    rw [← (flip_lo X h).1] at this
    have e : hi X = hi (X ^^^ 2 ^ b) := (flip_lo X h).2.symm
    unfold cw
    rw [← e]
    exact this
  · have := flip_high_any (lo X) (hi X) b w (hi_lt hX) (by omega) hb
    obtain ⟨h1, h2⟩ := flip_hi hX (by omega) hb
    rw [← h2] at this
    unfold cw
    rw [h1]
    exact this
end Go.Proofs.YthenilomgbnpeaaGreatDoor
/- Error correction in the program: parities and syndromes of a codeword. The table of masks is a hypothesis on its cells. -/
namespace Go.Proofs.YthenilomgbnpeaaGreatDoor
open Go.RowKit

/-- The table of masks. -/
def MaskTab (w : World) : Prop := w.rangeAt 0 0 (maskL.map fun (m : Nat) => Value.int .u64 m) ∧ 0 < w.heap.size
theorem MaskTab.below {w w' : World} {B : Nat} (h : MaskTab w) (hb : Below B w w') (hB : w.heap.size ≤ B) : MaskTab w' := by
  refine ⟨fun j v hv => ?_, ?_⟩
  · exact (hb.cell (p := ⟨0, 0 + j, none⟩) (Nat.lt_of_lt_of_le h.2 hB)).trans (h.1 j v hv)
  · have := hb.size; have := h.2; omega

def maskI : List Int := [12345867778520690011, 14815041334224828013, 17429460393205680014, 143554428622604272, 144112989119707136, 144115188008747008, 18302628885633695744]
theorem maskI_eq : maskL.map (fun (m : Nat) => (m : Int)) = maskI := by decide
theorem MaskTab.of {w : World} (h : Tab w 0 .u64 maskI) : MaskTab w := by
  refine ⟨fun j v hv => ?_, h.2⟩
  have e : (maskL.map fun (m : Nat) => Value.int .u64 m) = maskI.map (Value.int .u64) := by rw [← maskI_eq, List.map_map]; rfl
  rw [e, List.getElem?_map] at hv
  have hj : j < maskI.length := by
    rcases Nat.lt_or_ge j maskI.length with hlt | hge
    · exact hlt
    · rw [List.getElem?_eq_none hge] at hv; cases hv
  rw [Nat.zero_add, h.1 j hj, ← hv, List.getD_eq_getElem?_getD, List.getElem?_eq_getElem hj]; rfl

theorem par64_any (x : Nat) (w : World) (hx : x < 2 ^ 64) :
    Calls Tryz.prog 86 #[.agg #[.int .u64 x]] w fun e w' => e = .returned (.int .i64 (par64 x : Nat)) ∧ Below w.heap.size w w' := by
  have hp := popF_le 64 x
  have HP := Lib.hid (par64_pop x)
  have HO := Lib.hid (fun (W : World) => onesCount64_any x W hx)
  generalize popF 64 x = p at *
  generalize par64 x = q at *
  go_enter Tryz.func86, Tryz.ntmps86
  go_wp2_with (go_at_call 104; refine (HO.out _).mono ?_; rintro e w' ⟨rfl, rfl⟩)
  go_ret
  exact ⟨ret_int (by rw [← HP.out]; rfl), (Below.refl _ _).alloc (Nat.le_refl _) _⟩
theorem par8_any (x : Nat) (w : World) (hx : x < 256) :
    Calls Tryz.prog 87 #[.agg #[.int .u8 x]] w fun e w' => e = .returned (.int .i64 (par64 x : Nat)) ∧ Below w.heap.size w w' := by
  have hp := popF_le 64 x
  have HP := Lib.hid (par64_pop x)
  have HO := Lib.hid (fun (W : World) => onesCount64_any x W (by omega))
  have hxi : (x : Int) ≤ 255 := by omega
  generalize popF 64 x = p at *
  generalize par64 x = q at *
  go_enter Tryz.func87, Tryz.ntmps87
  go_wp2_with (go_at_call 104; refine (HO.out _).mono ?_; rintro e w' ⟨rfl, rfl⟩)
  go_ret
  exact ⟨ret_int (by rw [← HP.out]; rfl), (Below.refl _ _).alloc (Nat.le_refl _) _⟩

theorem under7 : Tryz.prog.underlying 107 = some (.array 7 67) := by kernel_rfl
theorem info7 : (Tryz.prog.info? 107).map (·.size) = some 7 := by kernel_rfl
theorem size64 (w : World) : (sizeOf 67).run Tryz.prog w = .ok 1 w := by kernel_rfl
theorem idx7 (l : List Value) (hl : l.length = 7) (k : Nat) (hk : k < 7) (v : Value) (hv : l[k]? = some v) (w : World) :
    (Instr.index 107 (.agg l.toArray) (.int .i64 (k : Int))).run Tryz.prog w = .ok v w := by
  have h1 : (0 : Int) ≤ (k : Int) ∧ (k : Int) < ((7 : Nat) : Int) := by omega
  simp only [Instr.index, asIntOf, Sem.run_bind, Sem.run_pure, Result.andThen_ok, run_underlying under7, if_pos h1, size64, Int.toNat_natCast, Nat.mul_one]
  simp [part, isAgg, run_underlying Tryz.underlying67, hl, hk]
  simpa [hl, hk] using hv
theorem mask_at (k : Nat) (hk : k < 7) : (maskL.map fun (m : Nat) => Value.int .u64 m)[k]? = some (.int .u64 (maskN k : Nat)) := by
  rw [List.getElem?_map]
  unfold maskN
  rw [List.getD_eq_getElem?_getD]
  have : k < maskL.length := hk
  rw [List.getElem?_eq_getElem this]; rfl
theorem and127_lo (c : Nat) (h : c < 256) : bits .and .i64 (c : Int) 127 = ((c % 128 : Nat) : Int) := and127 c (by omega)
set_option maxRecDepth 100000 in
theorem implSyndrome_any (x c : Nat) (w : World) (hx : x < 2 ^ 64) (hc : c < 256) (hT : MaskTab w) :
    Calls Tryz.prog 72 #[.agg #[.int .u64 x, .int .u8 c]] w fun e w' => e = .returned (.int .i64 (synN (x + 2 ^ 64 * c) : Nat)) ∧ Below w.heap.size w w' := by
  rw [← sum_syn hx hc]
  have HT := Lib.hid hT
  have hci : (c : Int) ≤ 255 := by omega
  have HA := Lib.hid (and127_lo c hc)
  have HI := Lib.hid (fun (k : Nat) (hk : k < 7) (W : World) => idx7 _ (by rfl) k hk _ (mask_at k hk) W)
  obtain ⟨ml, hml⟩ : ∃ ml, ml = maskL.map fun (m : Nat) => Value.int .u64 m := ⟨_, rfl⟩
  have hrange : (w.alloc (.cells #[.int .u64 x, .int .u8 c] 100)).rangeAt 0 0 ml := by rw [hml]; exact World.rangeAt_alloc hT.1 _
  have hin : (Tryz.prog.info? 107).map (·.size) = some ml.length := by rw [info7, hml]; rfl
  rw [← hml] at HI
  clear hT hml
  go_enter Tryz.func72, Tryz.ntmps72
  go_wp2_with (refine wpList_load_mid rfl 107 _ rfl 0 0 rfl ml _ hrange under7 rfl hin ?_)
  go_loopw [3, 13] (fun v i wr => ∃ k : Nat, k ≤ 7 ∧ i = .int .i64 k ∧ v = .int .i64 (sumN x c k : Nat) ∧ wr.cell? ⟨w.heap.size, 0, none⟩ = some (.int .u64 x) ∧ w.heap.size < wr.heap.size ∧ Below w.heap.size w wr) (fun _ i _ => 7 - (intOf i).toNat)
  case atStart => exact ⟨0, by omega, rfl, by rw [HA.out]; rfl, by rw [World.cell?_alloc_new]; rfl, by simp, (Below.refl _ _).alloc (Nat.le_refl _) _⟩
  case round =>
    obtain ⟨k, hk, rfl, rfl, hcell, hzb, hb⟩ := hrel
    by_cases hk7 : k < 7
    · have hi := HI.out k hk7
      have hm := mask_lt hk7
      have hs := sumN_lt x c k hk
      have hs2 := sumN_lt x c (k + 1) hk7
      have HX : Hid (bits .xor .i64 (sumN x c k : Nat) (wrap64 ((par64 (x &&& maskN k) : Nat) * 2 ^ k)) = ((sumN x c (k + 1) : Nat) : Int)) := by
        show _ = _
        have hp := par64_lt (x &&& maskN k)
        have h2 : 2 ^ k ≤ 2 ^ 6 := Nat.pow_le_pow_right (by decide) (by omega)
        have hq : par64 (x &&& maskN k) * 2 ^ k ≤ 1 * 2 ^ k := Nat.mul_le_mul_right _ (by omega)
        have e : ((par64 (x &&& maskN k) : Nat) : Int) * 2 ^ k = ((par64 (x &&& maskN k) * 2 ^ k : Nat) : Int) := by rw [Int.natCast_mul, Int.natCast_pow]; rfl
        rw [e, sumN]
        generalize par64 (x &&& maskN k) * 2 ^ k = q at *
        rw [IntWalk.wrap64_in _ (by omega), i64_xor_nat _ _ (by omega) (by omega)]
      have HN := Lib.hid (u64_and_nat' x (maskN k) hx hm)
      have HP := Lib.hid (fun (W : World) => par64_any (x &&& maskN k) W (Nat.and_lt_two_pow _ hm))
      generalize maskN k = m at *
      generalize par64 (x &&& m) = q at *
      have hkk : (k : Int) < 7 := by omega
      go_wp2_with (go_at_call 86; go_must (rw [HN.out]; refine (HP.out _).mono ?_); rintro e w1 ⟨rfl, hb1⟩)
      have hbw : Below wr.heap.size wr w1 := ((Below.refl wr.heap.size wr).alloc (Nat.le_refl _) _).trans (hb1.mono (by simp))
      go_roundw
      case rel => exact ⟨k + 1, by omega, by go_num, by rw [HX.out], (hbw.cell (p := ⟨w.heap.size, 0, none⟩) hzb).trans hcell, Nat.lt_of_lt_of_le hzb hbw.size, hb.trans (hbw.mono (by omega))⟩
      case measure => simp [intOf]; omega
    · obtain rfl : k = 7 := by omega
      go_wp2
      go_ret
      exact ⟨rfl, hb⟩

theorem syn_cw (X : Nat) (w : World) (hX : X < 2 ^ 72) (hT : MaskTab w) :
    Calls Tryz.prog 72 #[.agg (cw X)] w fun e w' => e = .returned (.int .i64 (synN X : Nat)) ∧ Below w.heap.size w w' := by
  have := implSyndrome_any (lo X) (hi X) w (lo_lt X) (hi_lt hX) hT
  rw [lo_hi] at this
  exact this

theorem infoF64 : (Tryz.prog.info? 96).map (·.size) = some 1 := by kernel_rfl
theorem infoF8 : (Tryz.prog.info? 98).map (·.size) = some 1 := by kernel_rfl
theorem infoCw : (Tryz.prog.info? 100).map (·.size) = some 2 := by kernel_rfl
theorem range_part {w : World} {g : Nat} {a b : Value} (h : w.rangeAt g 0 [a, b]) : w.rangeAt g 0 [a] ∧ w.rangeAt g 1 [b] := by
  refine ⟨fun j v hv => ?_, fun j v hv => ?_⟩
  · match j, hv with
    | 0, hv => exact h 0 v hv
  · match j, hv with
    | 0, hv => exact h 1 v hv
set_option maxRecDepth 100000 in
theorem par_cw (X : Nat) (w : World) (hX : X < 2 ^ 72) :
    Calls Tryz.prog 73 #[.agg (cw X)] w fun e w' => e = .returned (.int .i64 (parN X : Nat)) ∧ Below w.heap.size w w' := by
  have hx := lo_lt X
  have hc := hi_lt hX
  have HE : Hid (bits .xor .i64 (par64 (lo X) : Nat) (par64 (hi X) : Nat) = ((parN X : Nat) : Int)) := by
    show _ = _
    have h1 := par64_lt (lo X)
    have h2 := par64_lt (hi X)
    have := par_split hx hc
    rw [lo_hi] at this
    rw [i64_xor_nat _ _ (by omega) (by omega), this]
  have HA := Lib.hid (fun (W : World) => par64_any (lo X) W hx)
  have HB := Lib.hid (fun (W : World) => par8_any (hi X) W hc)
  unfold cw
  generalize par64 (lo X) = p at *
  generalize par64 (hi X) = q at *
  generalize parN X = r at *
  generalize lo X = x at *
  generalize hi X = c at *
  have hr := range_new w #[.int .u64 x, .int .u8 c] 100
  have hu1 := Tryz.underlying96
  have hu2 := Tryz.underlying98
  have hi1 := infoF64
  have hi2 := infoF8
  go_enter Tryz.func73, Tryz.ntmps73
  go_wp2
  refine wp_region_held_drew (S := fun w' => w'.rangeAt w.heap.size 0 [.int .u64 x, .int .u8 c]) (by kernel_rfl) hr (fun hHeld => ?_)
  refine wpAnyH_take (i := 0) (oi := _) (v := .pointer (some ⟨w.heap.size, 0, none⟩)) rfl (by kernel_rfl) (by kernel_rfl) (by kernel_rfl) (fun _ _ _ h => h) (Or.inl ⟨by rfl, fun w hSw => by go_simp⟩) hHeld ?_
  refine wpAnyH_take (i := 1) (oi := _) (v := .agg #[.int .u64 x]) rfl (by kernel_rfl) (by kernel_rfl) (by kernel_rfl) (fun _ _ _ h => h) (yieldsIf_load_mid (by rfl) _ _ rfl _ _ rfl [.int .u64 x] _ (fun _ h => (range_part h).1) hu1 rfl hi1) hHeld ?_
  refine wpAnyH_take (i := 3) (oi := _) (v := .pointer (some ⟨w.heap.size, 1, none⟩)) rfl (by kernel_rfl) (by kernel_rfl) (by kernel_rfl) (fun _ _ _ h => h) (Or.inl ⟨by rfl, fun w hSw => by go_simp⟩) hHeld ?_
  refine wpAnyH_take (i := 4) (oi := _) (v := .agg #[.int .u8 c]) rfl (by kernel_rfl) (by kernel_rfl) (by kernel_rfl) (fun _ _ _ h => h) (yieldsIf_load_mid (by rfl) _ _ rfl _ _ rfl [.int .u8 c] _ (fun _ h => (range_part h).2) hu2 rfl hi2) hHeld ?_
  refine wpAnyH_ready (rs := [2]) (by kernel_rfl) (by simp) ?_
  refine AllReadyH.cons (o := _) rfl (fun K hK => ?_) AllReadyH.nil
  · go_simp
    go_at_call 86
    refine (HA.out _).mono ?_
    rintro e w1 ⟨rfl, hb1⟩
    have hr1 := range_below hHeld hb1 (by simp)
    refine hK.out _ _ hr1 (fun hHeld => ?_)
    clear hK K
    refine wpAnyH_ready (rs := [5]) (by kernel_rfl) (by simp) ?_
    refine AllReadyH.cons (o := _) rfl (fun K hK => ?_) AllReadyH.nil
    go_simp
    go_at_call 87
    refine (HB.out _).mono ?_
    rintro e w2 ⟨rfl, hb2⟩
    have hz1 := hb1.size
    simp at hz1
    refine hK.out _ _ (range_below hr1 hb2 (by omega)) (fun hHeld => ?_)
    clear hK K
    refine wpAnyH_take (i := 6) (oi := _) (v := .int .i64 (r : Int)) rfl (by kernel_rfl) (by kernel_rfl) (by kernel_rfl) (fun _ _ _ h => h) (Or.inl ⟨by rfl, fun w hSw => by go_simp; rw [HE.out]⟩) hHeld ?_
    refine wpAnyH_take (i := 7) (oi := _) (v := .int .i64 (r : Int)) rfl (by kernel_rfl) (by kernel_rfl) (by kernel_rfl) (fun _ _ _ h => h) (Or.inl ⟨by rfl, fun w hSw => by go_simp⟩) hHeld ?_
    refine wpAnyH_done (by kernel_rfl) ?_ _
    go_wp2
    go_ret
    exact ⟨rfl, (((Below.refl w.heap.size w).alloc (Nat.le_refl _) _).drew.trans (hb1.mono (by simp))).trans (hb2.mono (by omega))⟩
end Go.Proofs.YthenilomgbnpeaaGreatDoor
/- Error correction in the program: the correction of a single error. -/
namespace Go.Proofs.YthenilomgbnpeaaGreatDoor
open Go.RowKit

set_option maxHeartbeats 4000000 in
set_option maxRecDepth 1000000 in
theorem len64_small (x : Int) (w : World) (h0 : 0 ≤ x) (h : x ≤ 255) :
    Calls Tryz.prog 94 #[.int .u64 x] w fun e w' => e = .returned (.int .i64 (Lib.bitLen x.toNat)) ∧ w = w' := by
  go_enter Tryz.func94, Tryz.ntmps94
  go_wp2
  go_ret
  refine ⟨congrArg Ending.returned (congrArg (Value.int IntKind.i64) ?_), rfl⟩
  rw [Lib.len8_of x (by omega) (by omega)]
  have l := Lib.bitLen_le8' x (by omega) (by omega)
  rw [IntWalk.wrap64_in ((Lib.bitLen x.toNat : Nat) : Int) (by omega), IntWalk.wrap64_in _ (by omega)]
theorem len64_nat (x : Nat) (w : World) (h : x ≤ 255) :
    Calls Tryz.prog 94 #[.int .u64 x] w fun e w' => e = .returned (.int .i64 (Lib.bitLen x : Nat)) ∧ w = w' := by
  have := len64_small (x : Int) w (by omega) (by omega)
  rw [Int.toNat_natCast] at this
  exact this
theorem pow_all : ∀ p : Fin 72, (p.val &&& (p.val - 1) = 0 → 64 ≤ bitAt p.val) ∧ (p.val &&& (p.val - 1) ≠ 0 → bitAt p.val < 64 ∧ bitAt p.val + Lib.bitLen p.val + 1 = p.val ∧ 1 ≤ p.val) := by decide +kernel
def CorPost (R : Nat) (w : World) (e : Ending) (w' : World) : Prop := ∃ Y, e = .returned (.agg (cw Y)) ∧ lo Y = R ∧ Below w.heap.size w w'
set_option maxRecDepth 100000 in
theorem correct_any (X : Nat) (w : World) (hX : X < 2 ^ 72) (h : One X) :
    Calls Tryz.prog 77 #[.agg (cw X), .int .i64 (synN X : Nat)] w (CorPost (lo (fixN X)) w) := by
  have hp := h.2
  have hbl := bitAt_lt hp
  obtain ⟨p1, p2⟩ := pow_all ⟨synN X, by omega⟩
  simp only at p1 p2
  have hF := fun (W : World) => flip_cw X (bitAt (synN X)) W hX hbl
  have hfx : fixN X = X ^^^ 2 ^ bitAt (synN X) := rfl
  rw [← hfx] at hF
  have HF := Lib.hid hF
  have HH := Lib.hid (fun h64 => (flip_hi hX h64 hbl).1)
  rw [← hfx] at HH
  clear hF hfx h
  obtain ⟨p, hpp⟩ : ∃ p, p = synN X := ⟨_, rfl⟩
  obtain ⟨Y, hY⟩ : ∃ Y, Y = fixN X := ⟨_, rfl⟩
  rw [← hpp] at hp hbl p1 p2 HF HH ⊢
  rw [← hY] at HF HH ⊢
  clear hpp hY
  by_cases hz : p &&& (p - 1) = 0
  · have hb : (bits .and .i64 (p : Int) ((p : Int) - 1) == 0) = true := by
      rcases Nat.eq_zero_or_pos p with rfl | hpos
      · decide
      · have := i64_and_nat p (p - 1) (by omega) (by omega)
        rw [hz, show ((p - 1 : Nat) : Int) = (p : Int) - 1 by omega] at this
        rw [this]; rfl
    have H64 := HH.out (p1 hz)
    clear p1 p2 hz hbl HF HH
    unfold cw
    go_enter Tryz.func77, Tryz.ntmps77
    go_wp2
    exact bodyPost_ret (results_cell_row Tryz.results77 _ _ _ _ _ _ _ rfl (heap_new2 w _ _) Tryz.underlying100 rfl infoCw') rfl
      ⟨X, rfl, H64.symm, ((Below.refl _ _).alloc (Nat.le_refl _) _).alloc (by simp) _⟩
  · obtain ⟨q1, q2, q3⟩ := p2 hz
    have hb : (bits .and .i64 (p : Int) ((p : Int) - 1) == 0) = false := by
      have := i64_and_nat p (p - 1) (by omega) (by omega)
      rw [show ((p - 1 : Nat) : Int) = (p : Int) - 1 by omega] at this
      rw [this]; simp; omega
    have hbi : (p : Int) - (Lib.bitLen p : Nat) - 1 = (bitAt p : Nat) := by omega
    rw [← hbi] at HF
    have HL := Lib.hid (fun (W : World) => len64_nat p W (by omega))
    have hlp : Lib.bitLen p ≤ 71 := by omega
    generalize Lib.bitLen p = L at *
    clear p1 p2 hz hbl HH q1 q2 hbi
    unfold cw at HF ⊢
    go_enter Tryz.func77, Tryz.ntmps77
    go_wp2_with (first
      | (go_at_call 94; refine (HL.out _).mono ?_; rintro e w' ⟨rfl, rfl⟩)
      | (
        go_at_call 95
        refine (HF.out _).mono ?_
        rintro e w1 ⟨rfl, hb1⟩
        have r1 : Row w1 (w.heap.size + 1) 100 #[.int .u64 0, .int .u8 0] := Row.below (heap_new2 w _ _) hb1 (by simp)
        have g0 := r1.free 0
        have g1 := r1.free 1
        have d0 := r1.cell 0
        have d1 := r1.cell 1
        simp only [List.getElem?_toArray, List.getElem?_cons_zero, List.getElem?_cons_succ] at d0 d1
        have R1 := Lib.hid r1
        clear r1))
    have hB : Below w.heap.size w w1 := (((Below.refl w.heap.size w).alloc (Nat.le_refl _) _).alloc (by simp) _).trans (hb1.mono (by simp; omega))
    exact bodyPost_ret (results_cell_row Tryz.results77 _ _ _ _ _ _ _ rfl ((R1.out.set_ 0 _).set_ 1 _) Tryz.underlying100 rfl infoCw') rfl
      ⟨Y, rfl, rfl, (hB.setCell (by simp) _).setCell (by simp) _⟩
end Go.Proofs.YthenilomgbnpeaaGreatDoor
