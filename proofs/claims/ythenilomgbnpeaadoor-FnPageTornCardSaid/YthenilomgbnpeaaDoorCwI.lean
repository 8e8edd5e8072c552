/- Error correction in the program: making a codeword, its text, a bit inverted, the correction. -/
import Derived.Test.YthenilomgbnpeaaDoorProg
import Derived.Test.YthenilomgbnpeaaDoorFixed
import Derived.Test.YthenilomgbnpeaaDoorEncF
import Derived.Test.YthenilomgbnpeaaDoorWordN
import Derived.Test.YthenilomgbnpeaaDoorEccN
import Derived.Deep.DeepMust
import Derived.RegionTactic
import Derived.Deep.RegionHeld3
import Derived.ChangeAlike
namespace Go.Proofs.YthenilomgbnpeaaDoor
open Go.RowKit

theorem decFix_word (x : Nat) (w : World) (hx : x < 2 ^ 64) :
    Calls Tryd.prog 46 #[.string (wStr x)] w fun e w' => e = .returned (.int .i64 (wrap64 (x : Int))) ∧ w = w' := by
  refine (implDecFixed_short (wStr x) w (by rw [wStr_size]; omega)).mono ?_
  rintro e w' ⟨rfl, rfl⟩
  exact ⟨ret_int (by rw [wStr_size, fix_word, wStr_word hx]), rfl⟩
theorem encFix_word (x : Nat) (w : World) (hx : x < 2 ^ 64) :
    Calls Tryd.prog 51 #[.int .i64 (wrap64 (x : Int)), .int .i64 8] w fun e w' => e = .returned (.string (wStr x)) ∧ Below w.heap.size w w' := by
  refine (implEncFixed_yes (wrap64 (x : Int)) 8 w (by omega)).mono ?_
  rintro e w' ⟨rfl, hb⟩
  exact ⟨ret_str (by rw [encF_word hx]; rfl), hb⟩
theorem u64_back (x : Nat) (hx : x < 2 ^ 64) : IntKind.u64.wrap (wrap64 (x : Int)) = (x : Int) := by
  rw [IntKind.wrap_u64]; unfold wrap64; omega
theorem infoCw' : (Tryd.prog.info? 66).map (·.size) = some 2 := by kernel_rfl
def cw (X : Nat) : Array Value := #[.int .u64 (lo X : Nat), .int .u8 (hi X : Nat)]
def OfPost (cs : Array Value) (b : Bool) (w : World) (e : Ending) (w' : World) : Prop := e = .returned (.tuple #[.agg cs, .bool b]) ∧ Below w.heap.size w w'
set_option maxRecDepth 100000 in
theorem codewordOf_yes (X : Nat) (w : World) (hX : X < 2 ^ 72) :
    Calls Tryd.prog 36 #[.string (wStr (lo X)), .int .i64 (hi X : Nat)] w (OfPost (cw X) true w) := by
  have hc := hi_lt hX
  have hsz : (((wStr (lo X)).size : Int) != 8) = false := by rw [wStr_size]; rfl
  have HD := Lib.hid (fun (W : World) => decFix_word (lo X) W (lo_lt X))
  have HU := Lib.hid (u64_back (lo X) (lo_lt X))
  have hlo := lo_lt X
  unfold cw
  generalize wStr (lo X) = s at *
  generalize lo X = x at *
  generalize hi X = c at *
  have hc1 : (c : Int) ≤ 255 := by omega
  go_enter Tryd.func36, Tryd.ntmps36
  go_wp2_with (go_at_call 46; go_must (refine (HD.out _).mono ?_); rintro e w' ⟨rfl, rfl⟩)
  exact bodyPost_ret (results_row_tmp Tryd.results36 _ _ _ _ _ _ _ rfl (heap_alloc_new w _) Tryd.underlying66 rfl infoCw') rfl ⟨by rw [HU.out]; rfl, (Below.refl _ _).alloc (Nat.le_refl _) _⟩
theorem codewordOf_no (s : ByteArray) (c : Int) (w : World) (h : s.size ≠ 8 ∨ c < 0 ∨ 255 < c) :
    Calls Tryd.prog 36 #[.string s, .int .i64 c] w (OfPost #[.int .u64 0, .int .u8 0] false w) := by
  by_cases hs : s.size = 8
  · have h1 : ((s.size : Int) != 8) = false := by rw [hs]; rfl
    have hc : c < 0 ∨ 255 < c := by omega
    clear hs h
    by_cases h0 : c < 0
    all_goals
      go_enter Tryd.func36, Tryd.ntmps36
      go_wp2
      exact bodyPost_ret (results_row_tmp Tryd.results36 _ _ _ _ _ _ _ rfl (heap_alloc_new w _) Tryd.underlying66 rfl infoCw') rfl ⟨rfl, (Below.refl _ _).alloc (Nat.le_refl _) _⟩
  · have h1 : ((s.size : Int) != 8) = true := by simp; omega
    clear hs h
    go_enter Tryd.func36, Tryd.ntmps36
    go_wp2
    exact bodyPost_ret (results_row_tmp Tryd.results36 _ _ _ _ _ _ _ rfl (heap_alloc_new w _) Tryd.underlying66 rfl infoCw') rfl ⟨rfl, (Below.refl _ _).alloc (Nat.le_refl _) _⟩
theorem text_any (X : Nat) (w : World) :
    Calls Tryd.prog 40 #[.agg (cw X)] w fun e w' => e = .returned (.string (wStr (lo X))) ∧ Below w.heap.size w w' := by
  have hlo := lo_lt X
  have HE := Lib.hid (fun (W : World) => encFix_word (lo X) W hlo)
  unfold cw
  generalize wStr (lo X) = s at *
  generalize lo X = x at *
  generalize hi X = c at *
  go_enter Tryd.func40, Tryd.ntmps40
  go_wp2_with (go_at_call 51; go_must (refine (HE.out _).mono ?_); rintro e w1 ⟨rfl, hb1⟩)
  go_ret
  exact ⟨rfl, ((Below.refl w.heap.size w).alloc (Nat.le_refl _) _).trans (hb1.mono (by simp))⟩
theorem infoF64' : (Tryd.prog.info? 62).map (·.size) = some 1 := by kernel_rfl
theorem infoF8' : (Tryd.prog.info? 64).map (·.size) = some 1 := by kernel_rfl
theorem heap_new2 (w : World) (a o : Obj) : ((w.alloc a).alloc o).heap[w.heap.size + 1]? = some o := by
  have := heap_alloc_new (w.alloc a) o
  simp only [World.size_alloc] at this
  exact this
set_option maxRecDepth 100000 in
theorem flip64_any (x b : Nat) (w : World) (hx : x < 2 ^ 64) (hb : b < 64) :
    Calls Tryd.prog 55 #[.agg #[.int .u64 x], .int .i64 b] w fun e w' => e = .returned (.agg #[.int .u64 (x ^^^ 2 ^ b : Nat)]) ∧ Below w.heap.size w w' := by
  have hbi : (b : Int) < 64 := by omega
  have HX : Hid (bits .xor .u64 (x : Int) (IntKind.u64.wrap (2 ^ b)) = ((x ^^^ 2 ^ b : Nat) : Int)) := by
    show _ = _
    have hp : (2 : Nat) ^ b < 2 ^ 64 := Nat.pow_lt_pow_right (by decide) hb
    have e : ((2 : Int) ^ b) = (((2 : Nat) ^ b : Nat) : Int) := by rw [Int.natCast_pow]; rfl
    rw [e]
    generalize (2 : Nat) ^ b = p at *
    have hw : IntKind.u64.wrap (p : Int) = (p : Int) := by rw [IntKind.wrap_u64]; omega
    have h1 : (BitVec.ofInt 64 (x : Int)).toNat = x := by rw [BitVec.ofInt_natCast, BitVec.toNat_ofNat]; exact Nat.mod_eq_of_lt hx
    have h2 : (BitVec.ofInt 64 (p : Int)).toNat = p := by rw [BitVec.ofInt_natCast, BitVec.toNat_ofNat]; exact Nat.mod_eq_of_lt hp
    have hl : x ^^^ p < 2 ^ 64 := Nat.xor_lt_two_pow hx hp
    rw [hw]
    show IntKind.u64.wrap ((BitVec.ofInt 64 (x : Int) ^^^ BitVec.ofInt 64 (p : Int)).toNat : Int) = _
    rw [BitVec.toNat_xor, h1, h2, IntKind.wrap_u64]; omega
  go_enter Tryd.func55, Tryd.ntmps55
  go_wp2
  go_region
  go_wp2
  exact bodyPost_ret (results_cell_row Tryd.results55 _ _ _ _ _ _ _ rfl (show _ = _ from heap_new2 w _ _) Tryd.underlying62 rfl infoF64') rfl ⟨by rw [HX.out], (((Below.refl _ _).alloc (Nat.le_refl _) _).alloc (by simp) _).drew⟩
set_option maxRecDepth 100000 in
theorem flip8_any (x b : Nat) (w : World) (hx : x < 256) (hb : b < 8) :
    Calls Tryd.prog 56 #[.agg #[.int .u8 x], .int .i64 b] w fun e w' => e = .returned (.agg #[.int .u8 (x ^^^ 2 ^ b : Nat)]) ∧ Below w.heap.size w w' := by
  have hbi : (b : Int) < 8 := by omega
  have HX : Hid (bits .xor .u8 (x : Int) (2 ^ b % 256) = ((x ^^^ 2 ^ b : Nat) : Int)) := by
    show _ = _
    have hp : (2 : Nat) ^ b < 2 ^ 8 := Nat.pow_lt_pow_right (by decide) hb
    have e : ((2 : Int) ^ b) = (((2 : Nat) ^ b : Nat) : Int) := by rw [Int.natCast_pow]; rfl
    rw [e]
    generalize (2 : Nat) ^ b = p at *
    rw [show (p : Int) % 256 = (p : Int) by omega, u8_xor_nat _ _ (by omega) (by omega)]
  go_enter Tryd.func56, Tryd.ntmps56
  go_wp2
  go_region
  go_wp2
  exact bodyPost_ret (results_cell_row Tryd.results56 _ _ _ _ _ _ _ rfl (show _ = _ from heap_new2 w _ _) Tryd.underlying64 rfl infoF8') rfl ⟨by rw [HX.out], (((Below.refl _ _).alloc (Nat.le_refl _) _).alloc (by simp) _).drew⟩
/-- Block g is a row of the cells cs, none frozen. -/
def Row (w : World) (g : Nat) (t : TypeId) (cs : Array Value) : Prop := w.heap[g]? = some (.cells cs t (0, 0))
section
variable {w w' : World} {g B : Nat} {t : TypeId} {cs : Array Value}
theorem Row.lt (h : Row w g t cs) : g < w.heap.size := by
  rcases Nat.lt_or_ge g w.heap.size with hlt | hge
  · exact hlt
  · unfold Row at h; rw [Array.getElem?_eq_none hge] at h; cases h
theorem Row.cell (h : Row w g t cs) (j : Nat) : w.cell? ⟨g, j, none⟩ = cs[j]? := cell_of_row w g j _ t (0, 0) h
theorem Row.free (h : Row w g t cs) (j : Nat) : w.frozen? ⟨g, j, none⟩ = false := frozen_of_row w g j _ t h
theorem Row.below (h : Row w g t cs) (hb : Below B w w') (hg : g < B) : Row w' g t cs := (hb.block g hg).trans h
theorem Row.set_ (h : Row w g t cs) (j : Nat) (u : Value) : Row (w.setCell ⟨g, j, none⟩ u) g t (cs.setIfInBounds j u) := by
  unfold Row at h ⊢; exact heap_setCell_same w g j _ t _ h
theorem Row.far (h : Row w g t cs) {p : Addr} (hp : g ≠ p.block) (u : Value) : Row (w.setCell p u) g t cs := (Below.heap_setCell w p u g hp).trans h
theorem Row.alloc (h : Row w g t cs) (o : Obj) : Row (w.alloc o) g t cs := (Below.heap_alloc w o g h.lt).trans h
end
theorem Row.range {w : World} {g : Nat} {t : TypeId} {cs : Array Value} (h : Row w g t cs) : w.rangeAt g 0 cs.toList := by
  intro j v hv
  rw [Nat.zero_add, h.cell j]
  simpa using hv
theorem range_new (w : World) (cs : Array Value) (t : TypeId) : (w.alloc (.cells cs t)).rangeAt w.heap.size 0 cs.toList := by
  intro j v hv
  rw [World.cell?_alloc_new]
  simpa using hv
theorem range_below {w w' : World} {g o B : Nat} {l : List Value} (h : w.rangeAt g o l) (hb : Below B w w') (hg : g < B) : w'.rangeAt g o l := by
  intro j u hu
  exact (hb.cell (p := ⟨g, o + j, none⟩) hg).trans (h j u hu)
set_option maxRecDepth 100000 in
theorem flip_low_any (x c b : Nat) (w : World) (hx : x < 2 ^ 64) (hb : b < 64) :
    Calls Tryd.prog 50 #[.agg #[.int .u64 x, .int .u8 c], .int .i64 b] w fun e w' => e = .returned (.agg #[.int .u64 (x ^^^ 2 ^ b : Nat), .int .u8 c]) ∧ Below w.heap.size w w' := by
  have hbi : (b : Int) < 64 := by omega
  have HF := Lib.hid (fun (W : World) => flip64_any x b W hx hb)
  generalize x ^^^ 2 ^ b = y at *
  go_enter Tryd.func50, Tryd.ntmps50
  go_wp2_with (
    go_at_call 55
    refine (HF.out _).mono ?_
    rintro e w1 ⟨rfl, hb1⟩
    have hz1 := hb1.size
    simp at hz1
    have r0 : Row w1 w.heap.size 66 #[.int .u64 x, .int .u8 c] := Row.below (Row.alloc (heap_alloc_new w _) _) hb1 (by simp; omega)
    have r1 : Row w1 (w.heap.size + 1) 66 #[.int .u64 0, .int .u8 0] := Row.below (heap_new2 w _ _) hb1 (by simp)
    have c0 := r0.cell 0
    have c1 := r0.cell 1
    have f0 := r0.free 0
    have g0 := r1.free 0
    have g1 := r1.free 1
    have d0 := r1.cell 0
    have d1 := r1.cell 1
    simp only [List.getElem?_toArray, List.getElem?_cons_zero, List.getElem?_cons_succ] at c0 c1 d0 d1
    have R0 := Lib.hid r0
    have R1 := Lib.hid r1
    clear r0 r1)
  have hB : Below w.heap.size w w1 := (((Below.refl w.heap.size w).alloc (Nat.le_refl _) _).alloc (by simp) _).trans (hb1.mono (by simp; omega))
  exact bodyPost_ret (results_cell_row Tryd.results50 _ _ _ _ _ _ _ rfl (((R1.out.far (p := ⟨w.heap.size, 0, none⟩) (by simp) _).set_ 0 _).set_ 1 _) Tryd.underlying66 rfl infoCw') rfl
    ⟨rfl, ((hB.setCell (by simp) _).setCell (by simp) _).setCell (by simp) _⟩
set_option maxRecDepth 100000 in
theorem flip_high_any (x c b : Nat) (w : World) (hc : c < 256) (hb : 64 ≤ b) (hb2 : b < 72) :
    Calls Tryd.prog 50 #[.agg #[.int .u64 x, .int .u8 c], .int .i64 b] w fun e w' => e = .returned (.agg #[.int .u64 x, .int .u8 (c ^^^ 2 ^ (b - 64) : Nat)]) ∧ Below w.heap.size w w' := by
  have hbi : (64 : Int) ≤ (b : Int) := by omega
  have hbj : (b : Int) < 72 := by omega
  have HF := Lib.hid (fun (W : World) => flip8_any c (b - 64) W hc (by omega))
  have e : (((b - 64 : Nat) : Nat) : Int) = (b : Int) - 64 := by omega
  rw [e] at HF
  clear e
  generalize c ^^^ 2 ^ (b - 64) = y at *
  go_enter Tryd.func50, Tryd.ntmps50
  go_wp2_with (
    go_at_call 56
    refine (HF.out _).mono ?_
    rintro e w1 ⟨rfl, hb1⟩
    have hz1 := hb1.size
    simp at hz1
    have r0 : Row w1 w.heap.size 66 #[.int .u64 x, .int .u8 c] := Row.below (Row.alloc (heap_alloc_new w _) _) hb1 (by simp; omega)
    have r1 : Row w1 (w.heap.size + 1) 66 #[.int .u64 0, .int .u8 0] := Row.below (heap_new2 w _ _) hb1 (by simp)
    have c0 := r0.cell 0
    have c1 := r0.cell 1
    have f0 := r0.free 1
    have g0 := r1.free 0
    have g1 := r1.free 1
    have d0 := r1.cell 0
    have d1 := r1.cell 1
    simp only [List.getElem?_toArray, List.getElem?_cons_zero, List.getElem?_cons_succ] at c0 c1 d0 d1
    have R0 := Lib.hid r0
    have R1 := Lib.hid r1
    clear r0 r1)
  have hB : Below w.heap.size w w1 := (((Below.refl w.heap.size w).alloc (Nat.le_refl _) _).alloc (by simp) _).trans (hb1.mono (by simp; omega))
  exact bodyPost_ret (results_cell_row Tryd.results50 _ _ _ _ _ _ _ rfl (((R1.out.far (p := ⟨w.heap.size, 1, none⟩) (by simp) _).set_ 0 _).set_ 1 _) Tryd.underlying66 rfl infoCw') rfl
    ⟨rfl, ((hB.setCell (by simp) _).setCell (by simp) _).setCell (by simp) _⟩
theorem flip_cw (X b : Nat) (w : World) (hX : X < 2 ^ 72) (hb : b < 72) :
    Calls Tryd.prog 50 #[.agg (cw X), .int .i64 b] w fun e w' => e = .returned (.agg (cw (X ^^^ 2 ^ b))) ∧ Below w.heap.size w w' := by
  by_cases h : b < 64
  · have := flip_low_any (lo X) (hi X) b w (lo_lt X) h
    rw [← (flip_lo X h).1] at this
    have e : hi X = hi (X ^^^ 2 ^ b) := (flip_lo X h).2.symm
    unfold cw
    rw [← e]
    exact this
  · have := flip_high_any (lo X) (hi X) b w (hi_lt hX) (by omega) hb
    obtain ⟨h1, h2⟩ := flip_hi hX (by omega) hb
    rw [← h2] at this
    unfold cw
    rw [h1]
    exact this
end Go.Proofs.YthenilomgbnpeaaDoor
