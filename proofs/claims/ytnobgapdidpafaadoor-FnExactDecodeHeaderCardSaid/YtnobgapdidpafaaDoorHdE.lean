/- The text of a header: the model's and the program's encoders. -/
import Derived.Test.YtnobgapdidpafaaDoorProg
import Derived.Test.YtnobgapdidpafaaDoorHdV
import Derived.Test.YtnobgapdidpafaaDoorEncF
import Derived.Test.YtnobgapdidpafaaDoorPg
import Derived.Test.YtnobgapdidpafaaDoorOwnR
import Derived.Test.YtnobgapdidpafaaDoorMe
namespace Go.Proofs.YtnobgapdidpafaaDoor
open Go.RowKit
set_option linter.unusedVariables false
set_option linter.unusedSimpArgs false
theorem fill03 : fillB 0 3 = strOfNums (encF 0 3) := by rfl
set_option maxHeartbeats 4000000 in
theorem l16Encode_any (k z r u i s : Int) (d : ByteArray) (w : World) (hd : d.size ≤ 1048000) : Calls Tryd.prog 16 #[.agg #[.int .i64 k, .int .i64 z, .int .i64 r, .int .i64 u, .int .i64 i, .int .i64 s], .string d] w fun e w' => e = .returned (.string (hdT d k z r u i s)) ∧ Below w.heap.size w w' := by
  have hx0 : strOfNums (encF k 1) ++ strOfNums (encF z 1) ++ strOfNums (encF r 1) ++ strOfNums (encF u 1) ++ strOfNums (encF i 4) ++ strOfNums (encF s 1) ++ strOfNums (encF 0 3) = hdF k z r u i s := rfl
  have HS : Hid (hdF k z r u i s ++ strOfNums (encF ((ckOf (d ++ hdF k z r u i s) : Nat) : Int) 4) = hdT d k z r u i s) := rfl
  have hz0 := hdF_size k z r u i s
  have HE := Lib.hid (fun (n : Int) (m : Nat) (W : World) (hm : m ≤ 8) => specEncFixed_yes n m W hm)
  have HF := Lib.hid (fun (W : World) => show Calls Tryd.prog 29 #[.int .u8 0, .int .i64 3] W (fun e w' => e = .returned (.string (strOfNums (encF 0 3))) ∧ Below W.heap.size W w') from by rw [← fill03]; exact fill_any 0 3 W (by decide) (by decide))
  have HK := Lib.hid (fun (x : ByteArray) (W : World) (h : x.size ≤ 1048576) => specCk_any x W h)
  have R0 := Lib.hid (Rw.new w 25 #[.int .i64 k, .int .i64 z, .int .i64 r, .int .i64 u, .int .i64 i, .int .i64 s])
  have B0 := Lib.hid ((Below.refl w.heap.size w).alloc (Nat.le_refl _) (.cells #[.int .i64 k, .int .i64 z, .int .i64 r, .int .i64 u, .int .i64 i, .int .i64 s] 25))
  obtain ⟨C, hC⟩ : ∃ C : World → Prop, C = fun W => Rw W w.heap.size 25 #[.int .i64 k, .int .i64 z, .int .i64 r, .int .i64 u, .int .i64 i, .int .i64 s] ∧ Below w.heap.size w W := ⟨_, rfl⟩
  have HC1 := Lib.hid (fun (W : World) (h : C W) => show Rw W w.heap.size 25 #[.int .i64 k, .int .i64 z, .int .i64 r, .int .i64 u, .int .i64 i, .int .i64 s] ∧ Below w.heap.size w W by rw [hC] at h; exact h)
  have HC2 := Lib.hid (fun (W : World) (a : Rw W w.heap.size 25 #[.int .i64 k, .int .i64 z, .int .i64 r, .int .i64 u, .int .i64 i, .int .i64 s]) (b : Below w.heap.size w W) => show C W by rw [hC]; exact ⟨a, b⟩)
  have HC3 := Lib.hid (fun (W W' : World) (h : C W) (b : Below W.heap.size W W') => HC2.out W' ((HC1.out W h).1.below b (HC1.out W h).1.lt) ((HC1.out W h).2.trans (b.mono (HC1.out W h).2.size)))
  clear hC
  have hc0 := HC2.out _ (show Rw (w.alloc (.cells #[.int .i64 k, .int .i64 z, .int .i64 r, .int .i64 u, .int .i64 i, .int .i64 s] 25)).drew _ _ _ from R0.out) B0.out.drew
  obtain ⟨X, hX⟩ : ∃ X, X = hdF k z r u i s := ⟨_, rfl⟩
  rw [← hX] at hx0 hz0 HS
  have HX := Lib.hid hx0
  have HZ := Lib.hid hz0
  obtain ⟨Y, hY⟩ : ∃ Y, Y = hdT d k z r u i s := ⟨_, rfl⟩
  rw [← hY] at HS ⊢
  clear hX hx0 hz0 hY
  go_enter Tryd.func16, Tryd.ntmps16
  go_wp2_with fail
  refine wp_region_own (by kernel_rfl) (by kernel_rfl) hc0 ?_
  repeat (first
    | go_big_quiet_skip
    | (go_big_quiet_want
       go_big_quiet_op
       first
         | go_big_quiet_on
         | (apply Exists.intro
            refine ⟨fun W hW => ?_, ?_⟩
            · (first
                | rfl
                | (go_at_call 28
                   refine (HE.out _ _ _ (by decide)).mono ?_
                   rintro e w1 ⟨rfl, b⟩
                   exact ⟨rfl, HC3.out _ _ hW b⟩)
                | (go_at_call 29
                   refine (HF.out _).mono ?_
                   rintro e w1 ⟨rfl, b⟩
                   exact ⟨rfl, HC3.out _ _ hW b⟩)
                | (rw [if_neg (by simp [ByteArray.size_append, strOfNums_size, encF_length])]
                   exact ⟨rfl, rfl⟩)
                | (obtain ⟨k0, k1, k2, k3, k4, k5⟩ := (HC1.out _ hW).1.six
                   simp only [k0, k1, k2, k3, k4, k5, Result.andThen]
                   exact ⟨trivial, rfl⟩))
            go_big_quiet_on)))
  refine wpQuiet_nil ?_
  intro w1 hw1
  have HW1 := Lib.hid (HC1.out _ hw1).2
  clear hw1 hc0
  rw [HX.out]
  have hzx : X.size ≤ 12 := by rw [HZ.out]; omega
  have hz4 := enc4_le ((ckOf (d ++ X) : Nat) : Int)
  have hzd : (d ++ X).size ≤ 1048576 := by rw [ByteArray.size_append]; omega
  have HZD := Lib.hid hzd
  clear hzd
  go_wp2_with fail
  refine (HK.out _ _ HZD.out).mono ?_
  rintro e w2 ⟨rfl, rfl⟩
  go_wp2_with fail
  refine (HE.out _ 4 _ (by decide)).mono ?_
  rintro e w3 ⟨rfl, b3⟩
  have B3 := Lib.hid (HW1.out.trans (b3.mono HW1.out.size))
  clear b3
  go_wp2
  go_ret
  exact ⟨by rw [← HS.out]; rfl, B3.out⟩
set_option maxHeartbeats 4000000 in
theorem specEncHdr_any (k z r u i s : Int) (d : ByteArray) (q : Bool) (w : World) (hd : d.size ≤ 1048576) (hq : q = true ↔ (d.size = 64 ∧ HdOk k z r u i s)) : Calls Tryd.prog 6 #[.agg #[.int .i64 k, .int .i64 z, .int .i64 r, .int .i64 u, .int .i64 i, .int .i64 s], .string d] w fun e w' => e = .returned (.string (hdE d k z r u i s q)) ∧ Below w.heap.size w w' := by
  have R0 := Lib.hid (Rw.new w 25 #[.int .i64 k, .int .i64 z, .int .i64 r, .int .i64 u, .int .i64 i, .int .i64 s])
  have B0 := Lib.hid ((Below.refl w.heap.size w).alloc (Nat.le_refl _) (.cells #[.int .i64 k, .int .i64 z, .int .i64 r, .int .i64 u, .int .i64 i, .int .i64 s] 25))
  obtain ⟨c0, c1, c2, c3, c4, c5⟩ := R0.out.six
  by_cases h64 : d.size = 64
  case neg =>
    obtain rfl : q = false := not_true hq (fun e => h64 e.1)
    have e1 : ((d.size : Int) != 64) = true := by simp; omega
    clear hq hd h64
    go_enter Tryd.func6, Tryd.ntmps6
    go_wp2
    go_ret
    exact ⟨rfl, B0.out⟩
  have e1 : ((d.size : Int) != 64) = false := by simp; omega
  have HM := Lib.hid (fun (W : World) => l16Ok_any k z r u i s q W (by rw [hq]; exact ⟨fun e => e.2, fun e => ⟨h64, e⟩⟩))
  have HE := Lib.hid (fun (W : World) => l16Encode_any k z r u i s d W (by omega))
  clear hq hd h64
  go_enter Tryd.func6, Tryd.ntmps6
  go_wp2_with fail
  refine (HM.out _).mono ?_
  rintro e w1 ⟨rfl, b1⟩
  have B1 := Lib.hid (B0.out.trans (b1.mono (by simp)))
  have R1 := Lib.hid (R0.out.below b1 (by simp))
  clear c0 c1 c2 c3 c4 c5
  obtain ⟨c0, c1, c2, c3, c4, c5⟩ := R1.out.six
  clear b1 B0 R0
  cases q with
  | false =>
    go_wp2
    go_ret
    exact ⟨rfl, B1.out⟩
  | true =>
    go_wp2_with fail
    refine (HE.out _).mono ?_
    rintro e w2 ⟨rfl, b2⟩
    have B2 := Lib.hid (B1.out.trans (b2.mono B1.out.size))
    clear b2
    go_wp2
    go_ret
    exact ⟨rfl, B2.out⟩
set_option maxHeartbeats 8000000 in
theorem implEncHdr_any (k z r u i s : Int) (d : ByteArray) (q : Bool) (w : World) (hd : d.size ≤ 1048576) (hq : q = true ↔ (d.size = 64 ∧ HdOk k z r u i s)) (hT : CrcTab w) : Calls Tryd.prog 8 #[.agg #[.int .i64 k, .int .i64 z, .int .i64 r, .int .i64 u, .int .i64 i, .int .i64 s], .string d] w fun e w' => e = .returned (.string (hdE d k z r u i s q)) ∧ Below w.heap.size w w' := by
  have HX : Hid (strOfNums (encF k 1) ++ strOfNums (encF z 1) ++ strOfNums (encF r 1) ++ strOfNums (encF u 1) ++ strOfNums (encF i 4) ++ strOfNums (encF s 1) ++ strOfNums (encF 0 3) = hdF k z r u i s) := rfl
  have HZ := Lib.hid (hdF_size k z r u i s)
  have HE := Lib.hid (fun (n : Int) (m : Nat) (W : World) (hm : m ≤ 8) => implEncFixed_yes n m W hm)
  have HT := Lib.hid hT
  have R0 := Lib.hid (Rw.new w 25 #[.int .i64 k, .int .i64 z, .int .i64 r, .int .i64 u, .int .i64 i, .int .i64 s])
  have B0 := Lib.hid ((Below.refl w.heap.size w).alloc (Nat.le_refl _) (.cells #[.int .i64 k, .int .i64 z, .int .i64 r, .int .i64 u, .int .i64 i, .int .i64 s] 25))
  obtain ⟨C, hC⟩ : ∃ C : World → Prop, C = fun W => Rw W w.heap.size 25 #[.int .i64 k, .int .i64 z, .int .i64 r, .int .i64 u, .int .i64 i, .int .i64 s] ∧ Below w.heap.size w W := ⟨_, rfl⟩
  have HC1 := Lib.hid (fun (W : World) (h : C W) => show Rw W w.heap.size 25 #[.int .i64 k, .int .i64 z, .int .i64 r, .int .i64 u, .int .i64 i, .int .i64 s] ∧ Below w.heap.size w W by rw [hC] at h; exact h)
  have HC2 := Lib.hid (fun (W : World) (a : Rw W w.heap.size 25 #[.int .i64 k, .int .i64 z, .int .i64 r, .int .i64 u, .int .i64 i, .int .i64 s]) (b : Below w.heap.size w W) => show C W by rw [hC]; exact ⟨a, b⟩)
  have HC3 := Lib.hid (fun (W W' : World) (h : C W) (b : Below W.heap.size W W') => HC2.out W' ((HC1.out W h).1.below b (HC1.out W h).1.lt) ((HC1.out W h).2.trans (b.mono (HC1.out W h).2.size)))
  clear hC
  obtain ⟨c0, c1, c2, c3, c4, c5⟩ := R0.out.six
  by_cases h64 : d.size = 64
  case neg =>
    obtain rfl : q = false := not_true hq (fun e => h64 e.1)
    have e1 : ((d.size : Int) != 64) = true := by simp; omega
    clear hq hd h64 hT
    go_enter Tryd.func8, Tryd.ntmps8
    go_wp2
    go_ret
    exact ⟨rfl, B0.out⟩
  have e1 : ((d.size : Int) != 64) = false := by simp; omega
  have HM := Lib.hid (hdValid_any w.heap.size k z r u i s q (w.alloc (.cells #[.int .i64 k, .int .i64 z, .int .i64 r, .int .i64 u, .int .i64 i, .int .i64 s] 25)) R0.out (by rw [hq]; exact ⟨fun e => e.2, fun e => ⟨h64, e⟩⟩))
  have HSL := Lib.hid (hdSeal d k z r u i s h64)
  have H64 := Lib.hid h64
  have HK := Lib.hid (fun (W : World) (h : Below w.heap.size w W) => withCk_any (d ++ hdF k z r u i s) W (by rw [ByteArray.size_append, HZ.out]; omega) (HT.out.below h (Nat.le_refl _)))
  clear hq hd h64 hT
  go_enter Tryd.func8, Tryd.ntmps8
  go_wp2_with fail
  refine HM.out.mono ?_
  rintro e w1 ⟨rfl, rfl⟩
  have hc0 := HC2.out _ (show Rw (w.alloc (.cells #[.int .i64 k, .int .i64 z, .int .i64 r, .int .i64 u, .int .i64 i, .int .i64 s] 25)).drew _ _ _ from R0.out) B0.out.drew
  clear HM
  cases q with
  | false =>
    clear hc0
    go_wp2
    go_ret
    exact ⟨rfl, B0.out⟩
  | true =>
    go_wp2_with fail
    clear c0 c1 c2 c3 c4 c5
    refine wp_region_own (by kernel_rfl) (by kernel_rfl) hc0 ?_
    repeat (first
      | go_big_quiet_skip
      | (go_big_quiet_want
         go_big_quiet_op
         first
           | go_big_quiet_on
           | (apply Exists.intro
              refine ⟨fun W hW => ?_, ?_⟩
              · (first
                  | rfl
                  | (go_at_call 18
                     refine (HE.out _ _ _ (by decide)).mono ?_
                     rintro e w1 ⟨rfl, b⟩
                     exact ⟨rfl, HC3.out _ _ hW b⟩)
                  | (rw [if_neg (by simp [ByteArray.size_append, strOfNums_size, encF_length])]
                     exact ⟨rfl, rfl⟩)
                  | (obtain ⟨k0, k1, k2, k3, k4, k5⟩ := (HC1.out _ hW).1.six
                     simp only [k0, k1, k2, k3, k4, k5, Result.andThen]
                     exact ⟨trivial, rfl⟩))
              go_big_quiet_on)))
    refine wpQuiet_nil ?_
    intro w2 hw2
    have HW2 := Lib.hid (HC1.out _ hw2).2
    clear hw2 hc0
    rw [HX.out]
    obtain ⟨F, hF⟩ : ∃ F, F = hdF k z r u i s := ⟨_, rfl⟩
    have HSL2 := Lib.hid (show (sealM (d ++ F)).extract 64 (sealM (d ++ F)).size = hdE d k z r u i s true by rw [hF]; exact HSL.out)
    have HZF := Lib.hid (show F.size = 12 by rw [hF]; exact HZ.out)
    rw [← hF] at HK ⊢
    clear hF HSL HX HZ
    have hzf : F.size ≤ 12 := by rw [HZF.out]; omega
    have hzd : d.size ≤ 64 := by rw [H64.out]; omega
    have hsz : (64 : Int) ≤ ((sealM (d ++ F)).size : Int) := by unfold sealM; simp only [ByteArray.size_append]; rw [H64.out]; omega
    go_wp2_with fail
    refine (HK.out _ HW2.out).mono ?_
    rintro e w3 ⟨rfl, b3⟩
    have B3 := Lib.hid (HW2.out.trans (b3.mono HW2.out.size))
    clear b3
    have HQ := Lib.hid HSL2.out
    obtain ⟨Q, hQ⟩ : ∃ Q, Q = sealM (d ++ F) := ⟨_, rfl⟩
    rw [← hQ] at HQ hsz ⊢
    clear hQ HSL2
    go_wp2
    go_ret
    exact ⟨by rw [← HQ.out]; rfl, B3.out⟩
end Go.Proofs.YtnobgapdidpafaaDoor
