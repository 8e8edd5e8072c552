/- Pages without error correction, in the model and in the program: erased, torn, destroyed, a bit inverted: the contracts. -/
import Derived.Test.YthenilomgbnpeaaDoorProg
import Derived.Test.YthenilomgbnpeaaDoorFlN
import Derived.Test.YthenilomgbnpeaaDoorGeo
import Derived.Test.YthenilomgbnpeaaDoorBytes
import Derived.Test.YthenilomgbnpeaaDoorShelfR
import Derived.Deep.DeepMust
import Derived.Deep.RegionHeld3
namespace Go.Proofs.YthenilomgbnpeaaDoor
open Go.RowKit
set_option linter.unusedVariables false

/-- n bytes c, as a list of numbers. -/
theorem fillB_nums (c n : Nat) : strOfNums (List.replicate n (c : Int)) = fillB c n := by
  unfold strOfNums fillB
  rw [List.map_replicate]
  rfl
def FillPost (c n : Nat) (w : World) (e : Ending) (w' : World) : Prop := e = .returned (.string (fillB c n)) ∧ Below w.heap.size w w'
theorem repeatExtra : Go.Proofs.Builder.Extra Tryd.prog Tryd.laysRepeat_ren := {
  sizeBuilder := by kernel_rfl
  liesBuilder := by kernel_rfl
  t5 := Tryd.laysRepeat.t5
  a5 := Tryd.laysRepeat.a5
  z5 := Tryd.laysRepeat.z5
  v5 := Tryd.laysRepeat.v5
  infoByte := by kernel_rfl
  cellsByte := by kernel_rfl
  sizeByte := by kernel_rfl
  neB5 := by decide }
theorem repeat_any (c n : Nat) (w : World) (hn : n ≤ 1048576) :
    Calls Tryd.prog 21 #[.string (strOfNums [(c : Int)]), .int .i64 n] w (FillPost c n w) := by
  have h := Go.Proofs.Any.strings_Repeat Tryd.laysRepeat repeatExtra (strOfNums [(c : Int)]) n w (by omega) (by rw [strOfNums_size]; simp; omega)
  refine Calls.mono (show Calls Tryd.prog 21 _ _ _ from h) ?_
  rintro e w' ⟨rfl, hb⟩
  refine ⟨ret_str ?_, hb⟩
  unfold fillB strOfNums
  simp only [List.map_cons, List.map_nil]
  apply ByteArray.ext
  show (Lib.repeatL [UInt8.ofNat (c : Int).toNat] n).toArray = (List.replicate n (UInt8.ofNat c)).toArray
  rw [Int.toNat_natCast]
  congr 1
  clear h hb hn
  induction n with
  | zero => rfl
  | succ n ih => simp only [Lib.repeatL, ih, List.replicate_succ]; rfl
theorem implErased_any (w : World) : Calls Tryd.prog 13 #[] w (FillPost 255 91 w) := by
  go_enter Tryd.func13, Tryd.ntmps13
  go_wp2_with fail
  refine (repeat_any 255 91 w (by omega)).mono ?_
  rintro e w1 ⟨rfl, hb⟩
  go_wp2
  go_ret
  exact ⟨rfl, hb⟩
theorem implDestroyed_any (w : World) : Calls Tryd.prog 14 #[] w (FillPost 0 91 w) := by
  go_enter Tryd.func14, Tryd.ntmps14
  go_wp2_with fail
  refine (repeat_any 0 91 w (by omega)).mono ?_
  rintro e w1 ⟨rfl, hb⟩
  go_wp2
  go_ret
  exact ⟨rfl, hb⟩
theorem fillB_extract (c n k : Nat) : (fillB c n).extract k n = fillB c (n - k) := by
  apply ByteArray.ext
  unfold fillB
  simp
/-- What TornPage answers. -/
inductive TornEnds (raw : ByteArray) (k : Int) : ByteArray → Int → Prop
  | invalid (h : raw.size ≠ 91) : TornEnds raw k ⟨#[]⟩ 1
  | range (h : raw.size = 91) (h1 : ¬ (0 ≤ k ∧ k ≤ 91)) : TornEnds raw k ⟨#[]⟩ 2
  | done (h : raw.size = 91) (n : Nat) (hn : k = n) (h1 : n ≤ 91) : TornEnds raw k (tornB raw n) 0
theorem tornEnds (raw : ByteArray) (k : Int) : ∃ s c, TornEnds raw k s c := by
  by_cases h : raw.size = 91
  case neg => exact ⟨_, _, .invalid h⟩
  by_cases h1 : 0 ≤ k ∧ k ≤ 91
  case neg => exact ⟨_, _, .range h h1⟩
  exact ⟨_, _, .done h k.toNat (by omega) (by omega)⟩
def PairPost (s : ByteArray) (c : Int) (w : World) (e : Ending) (w' : World) : Prop := e = .returned (.tuple #[.string s, .int .i64 c]) ∧ Below w.heap.size w w'
theorem validKeep_any (k : Int) (b : Bool) (w : World) (hb : b = true ↔ (0 ≤ k ∧ k ≤ 91)) : Calls Tryd.prog 20 #[.int .i64 k] w fun e w' => e = .returned (.bool b) ∧ w = w' := by
  by_cases h1 : 0 ≤ k
  · have d1 : decide (0 ≤ k) = true := by simp; omega
    have d2 : decide (k ≥ 0) = true := by simp; omega
    go_enter Tryd.func20, Tryd.ntmps20
    go_wp2
    go_ret
    exact ⟨ret_bool (by rw [Bool.eq_iff_iff, hb]; simp [h1]), rfl⟩
  · have d1 : decide (0 ≤ k) = false := by simp; omega
    have d2 : decide (k ≥ 0) = false := by simp; omega
    go_enter Tryd.func20, Tryd.ntmps20
    go_wp2
    go_ret
    exact ⟨ret_bool (by rw [Bool.eq_iff_iff, hb]; simp; omega), rfl⟩
set_option maxRecDepth 100000 in
theorem implTorn_any (raw : ByteArray) (k : Int) (s : ByteArray) (c : Int) (w : World) (hs : raw.size ≤ 9223372036854775807) (h : TornEnds raw k s c) :
    Calls Tryd.prog 12 #[.string raw, .int .i64 k] w (PairPost s c w) := by
  rcases h with h | ⟨h, h1⟩ | ⟨h, n, rfl, h1⟩
  · have hd : ((raw.size : Int) != 91) = true := by simp; omega
    go_enter Tryd.func12, Tryd.ntmps12
    go_wp2
    go_ret2
    exact ⟨rfl, Below.refl _ _⟩
  · have hd : ((raw.size : Int) != 91) = false := by rw [h]; rfl
    go_enter Tryd.func12, Tryd.ntmps12
    go_wp2_with fail
    refine (validKeep_any k false w (by simp; omega)).mono ?_
    rintro e w' ⟨rfl, rfl⟩
    go_wp2
    go_ret2
    exact ⟨rfl, Below.refl _ _⟩
  · have hd : ((raw.size : Int) != 91) = false := by rw [h]; rfl
    have HI := Lib.hid (fun (W : World) => validKeep_any (n : Int) true W (by simp; omega))
    have HT := Lib.hid (show raw.extract 0 n ++ (fillB 255 91).extract n 91 = tornB raw n by
      unfold tornB
      rw [fillB_extract])
    have HS := Lib.hid (tornB_size h h1)
    generalize tornB raw n = t at *
    have hni : (n : Int) ≤ 91 := by omega
    have hr : (n : Int) ≤ (raw.size : Int) := by omega
    have h9 := fillB_size 255 91
    generalize hq : fillB 255 91 = q at *
    have HQ0 := Lib.hid hq
    clear hq
    go_enter Tryd.func12, Tryd.ntmps12
    go_wp2_with fail
    refine (HI.out _).mono ?_
    rintro e w' ⟨rfl, rfl⟩
    go_wp2_with fail
    have HE := Lib.hid (fun (W : World) => implErased_any W)
    have HQ := Lib.hid (show fillB 255 91 = q from HQ0.out)
    go_region_held3 (fun w' => Below w.heap.size w w')
      (first
        | exact (Below.refl _ _).drew
        | exact (Below.refl w.heap.size w).drew.trans hb1)
      (first
        | (go_at_call 13
           refine (HE.out _).mono ?_
           rintro e w1 ⟨rfl, hb1⟩
           rw [HQ.out]))
    rename_i hS1
    go_wp2
    go_ret2
    exact ⟨by rw [HT.out]; rfl, hS1⟩
theorem implIsErased_any (raw : ByteArray) (b : Bool) (w : World) (hs : raw.size ≤ 9223372036854775807) (hb : b = true ↔ raw = erasedB) :
    Calls Tryd.prog 9 #[.string raw] w fun e w' => e = .returned (.bool b) ∧ Below w.heap.size w w' := by
  have HE := Lib.hid (fun (W : World) => implErased_any W)
  have HB : (raw.toList == (fillB 255 91).toList) = b := by
    by_cases h : raw = fillB 255 91
    · rw [str_same h]; exact (hb.2 h).symm
    · rw [str_diff h]; cases b with
      | true => exact absurd (hb.1 rfl) h
      | false => rfl
  clear hb
  have h9 := fillB_size 255 91
  generalize hq : fillB 255 91 = q at *
  have HQ := Lib.hid hq
  clear hq
  go_enter Tryd.func9, Tryd.ntmps9
  go_wp2_with fail
  refine (HE.out _).mono ?_
  rintro e w1 ⟨rfl, hb⟩
  rw [HQ.out]
  go_wp2
  go_ret
  exact ⟨rfl, hb⟩
end Go.Proofs.YthenilomgbnpeaaDoor
