/- The metadata of a page, encoded: the model's and the program's encoders. -/
import Derived.Test.YtfnccbanmgfkeabDoorProg
import Derived.Test.YtfnccbanmgfkeabDoorCrc
import Derived.Test.YtfnccbanmgfkeabDoorEncF
import Derived.Test.YtfnccbanmgfkeabDoorOwnR
import Derived.Test.YtfnccbanmgfkeabDoorTab
import Derived.Test.YtfnccbanmgfkeabDoorMtS
import Derived.Test.YtfnccbanmgfkeabDoorMtI
namespace Go.Proofs.YtfnccbanmgfkeabDoor
open Go.RowKit
set_option linter.unusedVariables false
set_option linter.unusedSimpArgs false
/-- The five fields, and the five fields with their checksum. -/
def metaL (k l s f c : Int) : ByteArray := strOfNums (encF k 1) ++ strOfNums (encF l 2) ++ strOfNums (encF s 4) ++ strOfNums (encF f 4) ++ strOfNums (encF c 1)
def sealM (x : ByteArray) : ByteArray := x ++ strOfNums (encF ((ckOf x : Nat) : Int) 4)
theorem metaL_size (k l s f c : Int) : (metaL k l s f c).size = 12 := by unfold metaL; simp only [ByteArray.size_append, strOfNums_size, encF_length]
theorem sealM_size (k l s f c : Int) : (sealM (metaL k l s f c)).size = 16 := by unfold sealM; rw [ByteArray.size_append, metaL_size, strOfNums_size, encF_length]
theorem enc4_le (n : Int) : (strOfNums (encF n 4)).size ≤ 4 := by rw [strOfNums_size, encF_length]; omega
/-- The checksum's table, in any later world. -/
def CrcTab (w : World) : Prop := (∀ j, j < 16 → w.cell? ⟨0, j, none⟩ = some (.int .u32 (crcT.getD j 0))) ∧ 0 < w.heap.size
theorem CrcTab.below {w w' : World} {B : Nat} (h : CrcTab w) (hb : Below B w w') (hB : w.heap.size ≤ B) : CrcTab w' :=
  ⟨fun j hj => (hb.cell (p := ⟨0, j, none⟩) (Nat.lt_of_lt_of_le h.2 hB)).trans (h.1 j hj), Nat.lt_of_lt_of_le h.2 hb.size⟩
set_option maxHeartbeats 2000000 in
theorem l10Encode_any (k l s f c : Int) (w : World) : Calls Tryd.prog 32 #[.agg #[.int .i64 k, .int .i64 l, .int .i64 s, .int .i64 f, .int .i64 c]] w fun e w' => e = .returned (.string (sealM (metaL k l s f c))) ∧ Below w.heap.size w w' := by
  have hx0 : strOfNums (encF k 1) ++ strOfNums (encF l 2) ++ strOfNums (encF s 4) ++ strOfNums (encF f 4) ++ strOfNums (encF c 1) = metaL k l s f c := rfl
  have HS : Hid (∀ x : ByteArray, x ++ strOfNums (encF ((ckOf x : Nat) : Int) 4) = sealM x) := fun x => rfl
  have hz0 := metaL_size k l s f c
  have HE := Lib.hid (fun (n : Int) (m : Nat) (W : World) (hm : m ≤ 8) => specEncFixed_yes n m W hm)
  have HK := Lib.hid (fun (x : ByteArray) (W : World) (h : x.size ≤ 1048576) => specCk_any x W h)
  have R0 := Lib.hid (Rw.new w 25 #[.int .i64 k, .int .i64 l, .int .i64 s, .int .i64 f, .int .i64 c])
  have B0 := Lib.hid ((Below.refl w.heap.size w).alloc (Nat.le_refl _) (.cells #[.int .i64 k, .int .i64 l, .int .i64 s, .int .i64 f, .int .i64 c] 25))
  obtain ⟨C, hC⟩ : ∃ C : World → Prop, C = fun W => Rw W w.heap.size 25 #[.int .i64 k, .int .i64 l, .int .i64 s, .int .i64 f, .int .i64 c] ∧ Below w.heap.size w W := ⟨_, rfl⟩
  have HC1 := Lib.hid (fun (W : World) (h : C W) => show Rw W w.heap.size 25 #[.int .i64 k, .int .i64 l, .int .i64 s, .int .i64 f, .int .i64 c] ∧ Below w.heap.size w W by rw [hC] at h; exact h)
  have HC2 := Lib.hid (fun (W : World) (a : Rw W w.heap.size 25 #[.int .i64 k, .int .i64 l, .int .i64 s, .int .i64 f, .int .i64 c]) (b : Below w.heap.size w W) => show C W by rw [hC]; exact ⟨a, b⟩)
  have HC3 := Lib.hid (fun (W W' : World) (h : C W) (b : Below W.heap.size W W') => HC2.out W' ((HC1.out W h).1.below b (HC1.out W h).1.lt) ((HC1.out W h).2.trans (b.mono (HC1.out W h).2.size)))
  clear hC
  have hc0 := HC2.out _ (show Rw (w.alloc (.cells #[.int .i64 k, .int .i64 l, .int .i64 s, .int .i64 f, .int .i64 c] 25)).drew _ _ _ from R0.out) B0.out.drew
  obtain ⟨X, hX⟩ : ∃ X, X = metaL k l s f c := ⟨_, rfl⟩
  rw [← hX] at hx0 hz0 ⊢
  have HX := Lib.hid hx0
  have HZ := Lib.hid hz0
  clear hX hx0 hz0
  go_enter Tryd.func32, Tryd.ntmps32
  go_wp2_with fail
  refine wp_region_own (by kernel_rfl) (by kernel_rfl) hc0 ?_
  repeat (first
    | go_big_quiet_skip
    | (go_big_quiet_want
       go_big_quiet_op
       first
         | go_big_quiet_on
         | (apply Exists.intro
            refine ⟨fun W hW => ?_, ?_⟩
            · (first
                | rfl
                | (go_at_call 41
                   refine (HE.out _ _ _ (by decide)).mono ?_
                   rintro e w1 ⟨rfl, b⟩
                   exact ⟨rfl, HC3.out _ _ hW b⟩)
                | (rw [if_neg (by simp [ByteArray.size_append, strOfNums_size, encF_length])]
                   exact ⟨rfl, rfl⟩)
                | (obtain ⟨k0, k1, k2, k3, k4⟩ := (HC1.out _ hW).1.five
                   simp only [k0, k1, k2, k3, k4, Result.andThen]
                   exact ⟨trivial, rfl⟩))
            go_big_quiet_on)))
  refine wpQuiet_nil ?_
  intro w1 hw1
  have HW1 := Lib.hid (HC1.out _ hw1).2
  clear hw1 hc0
  rw [HX.out]
  have hzx : X.size ≤ 12 := by rw [HZ.out]; omega
  have hz4 := enc4_le ((ckOf X : Nat) : Int)
  go_wp2_with fail
  refine (HK.out _ _ (by rw [HZ.out]; omega)).mono ?_
  rintro e w2 ⟨rfl, rfl⟩
  go_wp2_with fail
  refine (HE.out _ 4 _ (by decide)).mono ?_
  rintro e w3 ⟨rfl, b3⟩
  have B3 := Lib.hid (HW1.out.trans (b3.mono HW1.out.size))
  clear b3
  go_wp2
  go_ret
  exact ⟨rfl, B3.out⟩
set_option maxHeartbeats 2000000 in
theorem specEncMeta_any (k l s f c : Int) (r : Bool) (w : World) (hr : r = true ↔ MetaOk k l s f c) : Calls Tryd.prog 9 #[.agg #[.int .i64 k, .int .i64 l, .int .i64 s, .int .i64 f, .int .i64 c]] w fun e w' => e = .returned (.string (bif r then sealM (metaL k l s f c) else .empty)) ∧ Below w.heap.size w w' := by
  have HM := Lib.hid (fun (W : World) => specMeta_any k l s f c r W hr)
  have HE := Lib.hid (fun (W : World) => l10Encode_any k l s f c W)
  have R0 := Lib.hid (Rw.new w 25 #[.int .i64 k, .int .i64 l, .int .i64 s, .int .i64 f, .int .i64 c])
  have B0 := Lib.hid ((Below.refl w.heap.size w).alloc (Nat.le_refl _) (.cells #[.int .i64 k, .int .i64 l, .int .i64 s, .int .i64 f, .int .i64 c] 25))
  clear hr
  go_enter Tryd.func9, Tryd.ntmps9
  go_wp2_with fail
  refine (HM.out _).mono ?_
  rintro e w1 ⟨rfl, b1⟩
  have B1 := Lib.hid (B0.out.trans (b1.mono (by simp)))
  have R1 := Lib.hid (R0.out.below b1 (by simp))
  obtain ⟨c0, c1, c2, c3, c4⟩ := R1.out.five
  clear b1 B0 R0
  cases r with
  | false =>
    go_wp2
    go_ret
    exact ⟨rfl, B1.out⟩
  | true =>
    go_wp2_with fail
    refine (HE.out _).mono ?_
    rintro e w2 ⟨rfl, b2⟩
    have B2 := Lib.hid (B1.out.trans (b2.mono B1.out.size))
    clear b2
    go_wp2
    go_ret
    exact ⟨rfl, B2.out⟩
theorem withCk_any (x : ByteArray) (w : World) (hx : x.size ≤ 1048576) (hT : CrcTab w) : Calls Tryd.prog 34 #[.string x] w fun e w' => e = .returned (.string (sealM x)) ∧ Below w.heap.size w w' := by
  have HS : Hid (x ++ strOfNums (encF ((ckOf x : Nat) : Int) 4) = sealM x) := rfl
  have HE := Lib.hid (fun (n : Int) (m : Nat) (W : World) (hm : m ≤ 8) => implEncFixed_yes n m W hm)
  have HK := Lib.hid (implCk_any 0 x w hx hT.1 rfl)
  have hz4 := enc4_le ((ckOf x : Nat) : Int)
  clear hT
  go_enter Tryd.func34, Tryd.ntmps34
  go_wp2_with fail
  refine (HK.out).mono ?_
  rintro e w2 ⟨rfl, rfl⟩
  go_wp2_with fail
  refine (HE.out _ 4 _ (by decide)).mono ?_
  rintro e w3 ⟨rfl, b3⟩
  go_wp2
  go_ret
  exact ⟨rfl, b3⟩
set_option maxHeartbeats 4000000 in
theorem implEncMeta_any (k l s f c : Int) (r : Bool) (w : World) (hr : r = true ↔ MetaOk k l s f c) (hT : CrcTab w) : Calls Tryd.prog 11 #[.agg #[.int .i64 k, .int .i64 l, .int .i64 s, .int .i64 f, .int .i64 c]] w fun e w' => e = .returned (.string (bif r then sealM (metaL k l s f c) else .empty)) ∧ Below w.heap.size w w' := by
  have HX : Hid (strOfNums (encF k 1) ++ strOfNums (encF l 2) ++ strOfNums (encF s 4) ++ strOfNums (encF f 4) ++ strOfNums (encF c 1) = metaL k l s f c) := rfl
  have HM := Lib.hid (fun (W : World) => implMeta_any k l s f c r W hr)
  have HE := Lib.hid (fun (n : Int) (m : Nat) (W : World) (hm : m ≤ 8) => implEncFixed_yes n m W hm)
  have HT := Lib.hid hT
  have HZ := Lib.hid (metaL_size k l s f c)
  have R0 := Lib.hid (Rw.new w 25 #[.int .i64 k, .int .i64 l, .int .i64 s, .int .i64 f, .int .i64 c])
  have B0 := Lib.hid ((Below.refl w.heap.size w).alloc (Nat.le_refl _) (.cells #[.int .i64 k, .int .i64 l, .int .i64 s, .int .i64 f, .int .i64 c] 25))
  obtain ⟨C, hC⟩ : ∃ C : World → Prop, C = fun W => Rw W w.heap.size 25 #[.int .i64 k, .int .i64 l, .int .i64 s, .int .i64 f, .int .i64 c] ∧ Below w.heap.size w W := ⟨_, rfl⟩
  have HC1 := Lib.hid (fun (W : World) (h : C W) => show Rw W w.heap.size 25 #[.int .i64 k, .int .i64 l, .int .i64 s, .int .i64 f, .int .i64 c] ∧ Below w.heap.size w W by rw [hC] at h; exact h)
  have HC2 := Lib.hid (fun (W : World) (a : Rw W w.heap.size 25 #[.int .i64 k, .int .i64 l, .int .i64 s, .int .i64 f, .int .i64 c]) (b : Below w.heap.size w W) => show C W by rw [hC]; exact ⟨a, b⟩)
  have HC3 := Lib.hid (fun (W W' : World) (h : C W) (b : Below W.heap.size W W') => HC2.out W' ((HC1.out W h).1.below b (HC1.out W h).1.lt) ((HC1.out W h).2.trans (b.mono (HC1.out W h).2.size)))
  clear hC
  have HK := Lib.hid (fun (x : ByteArray) (W : World) (hx : x.size = 12) (h : C W) => withCk_any x W (by omega) (HT.out.below (HC1.out W h).2 (Nat.le_refl _)))
  clear hr hT
  go_enter Tryd.func11, Tryd.ntmps11
  go_wp2_with fail
  refine (HM.out _).mono ?_
  rintro e w1 ⟨rfl, b1⟩
  have B1 := Lib.hid (B0.out.trans (b1.mono (by simp)))
  have R1 := Lib.hid (R0.out.below b1 (by simp))
  have hc0 := HC2.out _ (show Rw w1.drew _ _ _ from R1.out) B1.out.drew
  clear b1 B0 R0
  cases r with
  | false =>
    clear hc0
    go_wp2
    go_ret
    exact ⟨rfl, B1.out⟩
  | true =>
    go_wp2_with fail
    refine wp_region_own (by kernel_rfl) (by kernel_rfl) hc0 ?_
    repeat (first
      | go_big_quiet_skip
      | (go_big_quiet_want
         go_big_quiet_op
         first
           | go_big_quiet_on
           | (apply Exists.intro
              refine ⟨fun W hW => ?_, ?_⟩
              · (first
                  | rfl
                  | (go_at_call 35
                     refine (HE.out _ _ _ (by decide)).mono ?_
                     rintro e w1 ⟨rfl, b⟩
                     exact ⟨rfl, HC3.out _ _ hW b⟩)
                  | (go_at_call 34
                     refine (HK.out _ _ (HZ.out) hW).mono ?_
                     rintro e w1 ⟨rfl, b⟩
                     exact ⟨rfl, HC3.out _ _ hW b⟩)
                  | (rw [if_neg (by simp [ByteArray.size_append, strOfNums_size, encF_length])]
                     exact ⟨rfl, rfl⟩)
                  | (obtain ⟨k0, k1, k2, k3, k4⟩ := (HC1.out _ hW).1.five
                     simp only [k0, k1, k2, k3, k4, Result.andThen]
                     exact ⟨trivial, rfl⟩))
              go_big_quiet_on)))
    refine wpQuiet_nil ?_
    intro w2 hw2
    have HW2 := Lib.hid (HC1.out _ hw2).2
    clear hw2 hc0
    go_wp2
    go_ret
    exact ⟨rfl, HW2.out⟩
end Go.Proofs.YtfnccbanmgfkeabDoor
