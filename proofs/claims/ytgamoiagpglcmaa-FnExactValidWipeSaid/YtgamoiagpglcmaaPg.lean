/- Pages without error correction, in the model and in the program: erased, torn, destroyed, a bit inverted: the contracts. -/
import Derived.Test.YtgamoiagpglcmaaProg
import Derived.Test.YtgamoiagpglcmaaFlN
import Derived.Test.YtgamoiagpglcmaaGeo
import Derived.Test.YtgamoiagpglcmaaBytes
import Derived.Test.YtgamoiagpglcmaaShelfR
import Derived.Deep.DeepMust
import Derived.Deep.RegionHeld3
namespace Go.Proofs.Ytgamoiagpglcmaa
open Go.RowKit
set_option linter.unusedVariables false

/-- n bytes c, as a list of numbers. -/
theorem fillB_nums (c n : Nat) : strOfNums (List.replicate n (c : Int)) = fillB c n := by
  unfold strOfNums fillB
  rw [List.map_replicate]
  rfl
def FillPost (c n : Nat) (w : World) (e : Ending) (w' : World) : Prop := e = .returned (.string (fillB c n)) ∧ Below w.heap.size w w'
set_option maxRecDepth 100000 in
theorem fill_any (c n : Nat) (w : World) (hc : c < 256) (hn : n ≤ 1048576) :
    Calls Try.prog 171 #[.int .u8 c, .int .i64 n] w (FillPost c n w) := by
  have hni : (n : Int) ≤ 1048576 := by omega
  have hci : (c : Int) < 256 := by omega
  go_enter Try.func171, Try.ntmps171
  go_wp2
  go_loopw [5, 6] (fun u i wr => ∃ k : Nat, k ≤ n ∧ i = .int .i64 k ∧ BytesOwn wr w.heap.size u (List.replicate k (c : Int)) ∧ Below w.heap.size w wr) (fun _ i _ => n - (intOf i).toNat)
  case atStart => exact ⟨0, by omega, rfl, BytesOwn.made w (Nat.le_refl _), (Below.refl _ _).alloc (Nat.le_refl _) _⟩
  case round =>
    obtain ⟨k, hk, rfl, hown, hb⟩ := hrel
    have hz := hb.size
    by_cases hlt : k < n
    · have hki : (k : Int) < (n : Int) := by omega
      go_wp2_with (at_builtin; refine wpList_append_byte rfl _ _ rfl _ _ rfl hown hb hz _ _ rfl (by simp; omega) ?_; intro v' w1 hown' hb'; clear hown hb)
      go_roundw
      case rel => exact ⟨k + 1, by omega, by go_num, by rw [List.replicate_succ']; exact hown', hb'⟩
      case measure => simp [intOf]; omega
    · obtain rfl : k = n := by omega
      have hcv := bytes_str hown
      rw [fillB_nums] at hcv
      clear hown
      go_wp2
      go_ret
      exact ⟨rfl, hb⟩
theorem repeatExtra : Go.Proofs.Builder.Extra Try.prog Try.laysRepeat_ren := {
  sizeBuilder := by kernel_rfl
  liesBuilder := by kernel_rfl
  t5 := Try.laysRepeat.t5
  a5 := Try.laysRepeat.a5
  z5 := Try.laysRepeat.z5
  v5 := Try.laysRepeat.v5
  infoByte := by kernel_rfl
  cellsByte := by kernel_rfl
  sizeByte := by kernel_rfl
  neB5 := by decide }
theorem repeat_any (c n : Nat) (w : World) (hn : n ≤ 1048576) :
    Calls Try.prog 90 #[.string (strOfNums [(c : Int)]), .int .i64 n] w (FillPost c n w) := by
  have h := Go.Proofs.Any.strings_Repeat Try.laysRepeat repeatExtra (strOfNums [(c : Int)]) n w (by omega) (by rw [strOfNums_size]; simp; omega)
  refine Calls.mono (show Calls Try.prog 90 _ _ _ from h) ?_
  rintro e w' ⟨rfl, hb⟩
  refine ⟨ret_str ?_, hb⟩
  unfold fillB strOfNums
  simp only [List.map_cons, List.map_nil]
  apply ByteArray.ext
  show (Lib.repeatL [UInt8.ofNat (c : Int).toNat] n).toArray = (List.replicate n (UInt8.ofNat c)).toArray
  rw [Int.toNat_natCast]
  congr 1
  clear h hb hn
  induction n with
  | zero => rfl
  | succ n ih => simp only [Lib.repeatL, ih, List.replicate_succ]; rfl
theorem specDestroyed_any (w : World) : Calls Try.prog 135 #[] w (FillPost 0 91 w) := by
  go_enter Try.func135, Try.ntmps135
  go_wp2_with fail
  refine (fill_any 0 91 w (by omega) (by omega)).mono ?_
  rintro e w1 ⟨rfl, hb⟩
  go_wp2
  go_ret
  exact ⟨rfl, hb⟩
theorem implErased_any (w : World) : Calls Try.prog 221 #[] w (FillPost 255 91 w) := by
  go_enter Try.func221, Try.ntmps221
  go_wp2_with fail
  refine (repeat_any 255 91 w (by omega)).mono ?_
  rintro e w1 ⟨rfl, hb⟩
  go_wp2
  go_ret
  exact ⟨rfl, hb⟩
theorem implDestroyed_any (w : World) : Calls Try.prog 213 #[] w (FillPost 0 91 w) := by
  go_enter Try.func213, Try.ntmps213
  go_wp2_with fail
  refine (repeat_any 0 91 w (by omega)).mono ?_
  rintro e w1 ⟨rfl, hb⟩
  go_wp2
  go_ret
  exact ⟨rfl, hb⟩
set_option maxRecDepth 100000 in
theorem torn_any (raw : ByteArray) (k : Nat) (w : World) (hr : raw.size = 91) (hk : k ≤ 91) :
    Calls Try.prog 189 #[.string raw, .int .i64 k] w fun e w' => e = .returned (.string (tornB raw k)) ∧ Below w.heap.size w w' := by
  have HS := Lib.hid (tornB_size hr hk)
  have hki : (k : Int) ≤ 91 := by omega
  have hkr : (k : Int) ≤ (raw.size : Int) := by omega
  have e : IntKind.i64.wrap ((91 : Int) - (k : Int)) = ((91 - k : Nat) : Int) := by rw [IntKind.wrap_i64]; omega
  have HF := Lib.hid (fun (W : World) => (show Calls Try.prog 171 #[.int .u8 255, .int .i64 (IntKind.i64.wrap (91 - (k : Int)))] W (FillPost 255 (91 - k) W) by rw [e]; exact fill_any 255 (91 - k) W (by omega) (by omega)))
  have h1 := fillB_size 255 (91 - k)
  clear e
  go_enter Try.func189, Try.ntmps189
  go_wp2_with fail
  go_region_held3 (fun w' => Below w.heap.size w w')
    (first
      | exact (Below.refl _ _).drew
      | exact (Below.refl w.heap.size w).drew.trans hb1)
    (first
      | (go_at_call 171
         refine (HF.out _).mono ?_
         rintro e w1 ⟨rfl, hb1⟩))
  rename_i hS1
  go_wp2
  go_ret
  exact ⟨rfl, hS1⟩
theorem fillB_extract (c n k : Nat) : (fillB c n).extract k n = fillB c (n - k) := by
  apply ByteArray.ext
  unfold fillB
  simp
/-- What TornPage answers. -/
inductive TornEnds (raw : ByteArray) (k : Int) : ByteArray → Int → Prop
  | invalid (h : raw.size ≠ 91) : TornEnds raw k ⟨#[]⟩ 1
  | range (h : raw.size = 91) (h1 : ¬ (0 ≤ k ∧ k ≤ 91)) : TornEnds raw k ⟨#[]⟩ 2
  | done (h : raw.size = 91) (n : Nat) (hn : k = n) (h1 : n ≤ 91) : TornEnds raw k (tornB raw n) 0
theorem tornEnds (raw : ByteArray) (k : Int) : ∃ s c, TornEnds raw k s c := by
  by_cases h : raw.size = 91
  case neg => exact ⟨_, _, .invalid h⟩
  by_cases h1 : 0 ≤ k ∧ k ≤ 91
  case neg => exact ⟨_, _, .range h h1⟩
  exact ⟨_, _, .done h k.toNat (by omega) (by omega)⟩
def PairPost (s : ByteArray) (c : Int) (w : World) (e : Ending) (w' : World) : Prop := e = .returned (.tuple #[.string s, .int .i64 c]) ∧ Below w.heap.size w w'
theorem validKeep_any (k : Int) (b : Bool) (w : World) (hb : b = true ↔ (0 ≤ k ∧ k ≤ 91)) : Calls Try.prog 166 #[.int .i64 k] w fun e w' => e = .returned (.bool b) ∧ w = w' := by
  by_cases h1 : 0 ≤ k
  · have d1 : decide (0 ≤ k) = true := by simp; omega
    have d2 : decide (k ≥ 0) = true := by simp; omega
    go_enter Try.func166, Try.ntmps166
    go_wp2
    go_ret
    exact ⟨ret_bool (by rw [Bool.eq_iff_iff, hb]; simp [h1]), rfl⟩
  · have d1 : decide (0 ≤ k) = false := by simp; omega
    have d2 : decide (k ≥ 0) = false := by simp; omega
    go_enter Try.func166, Try.ntmps166
    go_wp2
    go_ret
    exact ⟨ret_bool (by rw [Bool.eq_iff_iff, hb]; simp; omega), rfl⟩
set_option maxRecDepth 100000 in
theorem implTorn_any (raw : ByteArray) (k : Int) (s : ByteArray) (c : Int) (w : World) (hs : raw.size ≤ 9223372036854775807) (h : TornEnds raw k s c) :
    Calls Try.prog 220 #[.string raw, .int .i64 k] w (PairPost s c w) := by
  rcases h with h | ⟨h, h1⟩ | ⟨h, n, rfl, h1⟩
  · have hd : ((raw.size : Int) != 91) = true := by simp; omega
    go_enter Try.func220, Try.ntmps220
    go_wp2
    go_ret2
    exact ⟨rfl, Below.refl _ _⟩
  · have hd : ((raw.size : Int) != 91) = false := by rw [h]; rfl
    go_enter Try.func220, Try.ntmps220
    go_wp2_with fail
    refine (validKeep_any k false w (by simp; omega)).mono ?_
    rintro e w' ⟨rfl, rfl⟩
    go_wp2
    go_ret2
    exact ⟨rfl, Below.refl _ _⟩
  · have hd : ((raw.size : Int) != 91) = false := by rw [h]; rfl
    have HI := Lib.hid (fun (W : World) => validKeep_any (n : Int) true W (by simp; omega))
    have HT := Lib.hid (show raw.extract 0 n ++ (fillB 255 91).extract n 91 = tornB raw n by
      unfold tornB
      rw [fillB_extract])
    have HS := Lib.hid (tornB_size h h1)
    generalize tornB raw n = t at *
    have hni : (n : Int) ≤ 91 := by omega
    have hr : (n : Int) ≤ (raw.size : Int) := by omega
    have h9 := fillB_size 255 91
    generalize hq : fillB 255 91 = q at *
    have HQ0 := Lib.hid hq
    clear hq
    go_enter Try.func220, Try.ntmps220
    go_wp2_with fail
    refine (HI.out _).mono ?_
    rintro e w' ⟨rfl, rfl⟩
    go_wp2_with fail
    have HE := Lib.hid (fun (W : World) => implErased_any W)
    have HQ := Lib.hid (show fillB 255 91 = q from HQ0.out)
    go_region_held3 (fun w' => Below w.heap.size w w')
      (first
        | exact (Below.refl _ _).drew
        | exact (Below.refl w.heap.size w).drew.trans hb1)
      (first
        | (go_at_call 221
           refine (HE.out _).mono ?_
           rintro e w1 ⟨rfl, hb1⟩
           rw [HQ.out]))
    rename_i hS1
    go_wp2
    go_ret2
    exact ⟨by rw [HT.out]; rfl, hS1⟩
end Go.Proofs.Ytgamoiagpglcmaa
