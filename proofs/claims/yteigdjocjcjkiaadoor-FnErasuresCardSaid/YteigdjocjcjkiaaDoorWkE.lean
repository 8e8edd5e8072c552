/- Unknown bits are found again: the walk. -/
import Derived.Test.YteigdjocjcjkiaaDoorProg
import Derived.Test.YteigdjocjcjkiaaDoorData
import Derived.Test.YteigdjocjcjkiaaDoorFlipI
import Derived.Test.YteigdjocjcjkiaaDoorErI
namespace Go.Proofs.YteigdjocjcjkiaaDoor
open Go.RowKit

theorem flipL_zero : ∀ (L : List Nat) (X : Nat), flipL X L 0 = X
  | [], X => rfl
  | b :: L, X => by rw [flipL, if_neg (by omega)]; exact flipL_zero L X
theorem flipL_back (X g : Nat) (L : List Nat) : flipL (flipL X L g) L g = X := by
  have h1 := flipL_add L X 0 0 g
  have h2 := flipL_add L (flipL X L g) 0 0 g
  rw [Nat.xor_zero, Nat.zero_xor, flipL_zero] at h1 h2
  rw [h2]
  generalize flipL 0 L g = d at *
  rw [h1, Nat.xor_assoc, Nat.xor_self, Nat.xor_zero]
theorem natL_app (l : List Int) (a : Nat) : natL (l ++ [(a : Int)]) = natL l ++ [a] := by simp [natL]
theorem rising_app {l : List Int} {a : Nat} (h : Rising l) (ha : ∀ i, i < l.length → l.getD i 0 < (a : Int)) (h72 : a < 72) : Rising (l ++ [(a : Int)]) ∧ ∀ i, i < (l ++ [(a : Int)]).length → (l ++ [(a : Int)]).getD i 0 < ((a + 1 : Nat) : Int) := by
  have at_ : ∀ i, i < l.length → (l ++ [(a : Int)]).getD i 0 = l.getD i 0 := fun i hi => by
    rw [List.getD_eq_getElem?_getD, List.getElem?_append_left hi, ← List.getD_eq_getElem?_getD]
  have end_ : (l ++ [(a : Int)]).getD l.length 0 = (a : Int) := by
    rw [List.getD_eq_getElem?_getD, List.getElem?_append_right (by omega), Nat.sub_self]; rfl
  refine ⟨fun i hi => ?_, fun i hi => ?_⟩
  · rw [List.length_append] at hi
    simp at hi
    by_cases e : i < l.length
    · obtain ⟨h1, h2, h3⟩ := h i e
      refine ⟨by rw [at_ i e]; exact h1, by rw [at_ i e]; exact h2, fun h0 => ?_⟩
      rw [at_ i e, at_ (i - 1) (by omega)]; exact h3 h0
    · obtain rfl : i = l.length := by omega
      refine ⟨by rw [end_]; omega, by rw [end_]; omega, fun h0 => ?_⟩
      rw [end_, at_ (l.length - 1) (by omega)]; exact ha _ (by omega)
  · rw [List.length_append] at hi
    simp at hi
    by_cases e : i < l.length
    · have := ha i e; rw [at_ i e]; omega
    · obtain rfl : i = l.length := by omega
      rw [end_]; omega
theorem flip_yes (X g a : Nat) (L : List Nat) (hg : g < 2 ^ L.length) : flipL X (L ++ [a]) (g + 2 ^ L.length) = flipL X L g ^^^ 2 ^ a ∧ g + 2 ^ L.length < 2 ^ (L.length + 1) := by
  have hp := Nat.two_pow_pos L.length
  have e1 : (g + 2 ^ L.length) / 2 ^ L.length = 1 := by
    rw [Nat.add_div_right _ hp, Nat.div_eq_of_lt hg]
  have e2 := flipL_mod L X (g + 2 ^ L.length)
  rw [Nat.add_mod_right, Nat.mod_eq_of_lt hg] at e2
  refine ⟨by rw [flipL_app, e1, if_pos rfl, e2], by rw [Nat.pow_succ]; omega⟩
theorem flip_not (X g a : Nat) (L : List Nat) (hg : g < 2 ^ L.length) : flipL X (L ++ [a]) g = flipL X L g ∧ g < 2 ^ (L.length + 1) := by
  have hp := Nat.two_pow_pos L.length
  exact ⟨by rw [flipL_app, Nat.div_eq_of_lt hg, if_neg (by omega)], by rw [Nat.pow_succ]; omega⟩
set_option maxRecDepth 100000 in
theorem eras_any (a0 : Option Addr) (len0 cap0 : Nat) (z0 : List Int) (a1 : Option Addr) (len1 cap1 : Nat) (z1 : List Int) (w : World) (w0 : IsRow .u8 w a0 len0 cap0 z0) (w1 : IsRow .u8 w a1 len1 cap1 z1) (hT0 : MaskTab w) :
    Calls Tryd.prog 4 #[.slice a0 len0 cap0, .slice a1 len1 cap1] w fun e w' => e = .returned (.bool true) ∧ Below w.heap.size w w' := by
  have b0 := w0.len
  have b1 := w1.len
  have HT := Lib.hid hT0
  clear hT0
  by_cases hl : len0 ≤ 1048576 ∧ len1 ≤ 1048576
  · obtain ⟨hl0, hl1⟩ := hl
    have hc0 := w0.code hl0
    have hc1 := w1.code hl1
    have HL := Lib.hid (show Calls Tryd.prog 9 #[.slice a0 len0 cap0, .slice a1 len1 cap1] w fun e w' => e = .returned (.bool false) ∧ w = w' from long_no _ _ _ _ _ _ _ hl0 hl1)
    obtain ⟨cd, hcd⟩ : ∃ v, v = Value.slice a0 len0 cap0 := ⟨_, rfl⟩
    obtain ⟨mo, hmo⟩ : ∃ v, v = Value.slice a1 len1 cap1 := ⟨_, rfl⟩
    rw [← hcd] at hc0
    rw [← hmo] at hc1
    rw [← hcd, ← hmo] at HL
    have HD := Lib.hid (show Calls Tryd.prog 10 #[cd, .int .i64 0, .int .i64 8] w (DataPost 8 w) from b10Data_any w.heap.size cd 0 8 w hc0 (Nat.le_refl _) (by omega) (by omega))
    have HA0 := Lib.hid (show ∀ W, CodeIs W w.heap.size mo → Calls Tryd.prog 12 #[mo, .int .i64 0, .int .i64 20] W (AtPost 20 W) from fun W h => b10At_any _ _ 0 20 W h (by omega) (by omega) (by omega))
    have HA1 := Lib.hid (show ∀ W, CodeIs W w.heap.size mo → Calls Tryd.prog 12 #[mo, .int .i64 1, .int .i64 4] W (AtPost 4 W) from fun W h => b10At_any _ _ 1 4 W h (by omega) (by omega) (by omega))
    have HA2 := Lib.hid (show ∀ W (k : Nat), CodeIs W w.heap.size mo → k ≤ 100 → Calls Tryd.prog 12 #[mo, .int .i64 (2 + (k : Int)), .int .i64 2] W (AtPost 2 W) from fun W k h hk => b10At_sum _ _ 2 k 2 W h (by omega) (by omega) (by omega))
    have HA6 := Lib.hid (show ∀ W (k : Nat), CodeIs W w.heap.size mo → k ≤ 100 → Calls Tryd.prog 12 #[mo, .int .i64 (6 + (k : Int)), .int .i64 17] W (AtPost 17 W) from fun W k h hk => b10At_sum _ _ 6 k 17 W h (by omega) (by omega) (by omega))
    have HM := Lib.hid hc1
    rw [← hcd, ← hmo]
    clear w0 w1 hc0 hc1 hcd hmo
    go_enter Tryd.func4, Tryd.ntmps4
    go_wp2_with fail
    refine HL.out.mono ?_
    rintro e w' ⟨rfl, rfl⟩
    go_wp2_with fail
    refine HD.out.mono ?_
    rintro e w1 ⟨s, rfl, hs, hb1⟩
    obtain ⟨x, hx, rfl⟩ : ∃ x, x < 2 ^ 64 ∧ s = wStr x := ⟨wordN s, wordN_lt s, (word_wStr hs).symm⟩
    clear hs HL HD
    have hg := chk_good hx
    obtain ⟨X, hX⟩ : ∃ X, X = x + 2 ^ 64 * chkN x := ⟨_, rfl⟩
    have hXl : X < 2 ^ 72 := by have := chkN_lt x; omega
    have e1 : lo X = x := by rw [hX, lo_of _ hx]
    have e2 : hi X = chkN x := by rw [hX, hi_of _ hx]
    rw [← hX] at hg
    have HK := Lib.hid (fun (W : World) (hT : MaskTab W) => implCheck_yes x W hx hT)
    rw [← e2, ← e1] at HK
    rw [← e1]
    clear hX e1 e2 hx
    have HT1 := HT.out.below hb1 (Nat.le_refl _)
    go_wp2_with fail
    refine (HK.out _ HT1).mono ?_
    rintro e w2 ⟨rfl, hb2⟩
    have hB2 := hb1.trans (hb2.mono hb1.size)
    clear hb1 hb2 HT1 HK
    have hz2 := hB2.size
    go_wp2_with fail
    have o3 := IntsOwn.made w2 hz2
    have hB3 := hB2.alloc hz2 (.cells #[] 2)
    clear hB2
    generalize w2.alloc (.cells #[] 2) = w3 at *
    refine (HA0.out _ (HM.out.keep fun b hbl => hB3.block b hbl)).mono ?_
    rintro e w' ⟨y, rfl, hy0, hy1, rfl⟩
    obtain ⟨at0, rfl⟩ : ∃ n : Nat, y = (n : Int) := ⟨y.toNat, by omega⟩
    go_wp2_with fail
    refine (HA1.out _ (HM.out.keep fun b hbl => hB3.block b hbl)).mono ?_
    rintro e w' ⟨y, rfl, hz0, hz1, rfl⟩
    obtain ⟨k0, rfl⟩ : ∃ n : Nat, y = (n : Int) := ⟨y.toNat, by omega⟩
    have ha0 : at0 ≤ 19 := by omega
    have hk0 : k0 ≤ 3 := by omega
    clear hy0 hy1 hz0 hz1 HA0 HA1
    have HG := Lib.hid hg
    clear hg
    go_wp2_with fail
    go_loopw [6, 7, 8, 9, 10] (fun u c v a i wr => ∃ (k : Nat) (l : List Int) (n g : Nat), i = .int .i64 k ∧ l.length + k = k0 ∧ Hid (Rising l) ∧ Hid (∀ i, i < l.length → l.getD i 0 < (n : Int)) ∧ n ≤ 19 + 17 * l.length ∧ a = .int .i64 n ∧ Hid (g < 2 ^ l.length) ∧ u = .string (wStr (lo (flipL X (natL l) g))) ∧ c = .int .i64 (hi (flipL X (natL l) g) : Nat) ∧ IntsOwn wr w.heap.size v l ∧ Below w.heap.size w wr) (fun _ _ _ _ i _ => (intOf i).toNat)
    case atStart => exact ⟨k0, [], at0, 0, rfl, by simp, Lib.hid (fun i hi => by simp at hi), Lib.hid (fun i hi => by simp at hi), by simp; omega, rfl, Lib.hid (by decide), rfl, rfl, o3, hB3⟩
    case round =>
      clear o3 hB3
      obtain ⟨k, l, n, g, rfl, hk, HRi, HLt, hn, rfl, HGl, rfl, rfl, own, hb⟩ := hrel
      have hz := hb.size
      have hYl : flipL X (natL l) g < 2 ^ 72 := flipL_lt _ X g hXl (natL_lt HRi.out)
      by_cases hkp : 0 < k
      · have hki : (0 : Int) < (k : Int) := by omega
        have hk3 : (k : Int) ≤ 3 := by omega
        have hn72 : n < 72 := by omega
        have hni : (n : Int) < 72 := by omega
        have HF := Lib.hid (fun (W : World) => implFlip_yes (flipL X (natL l) g) n W hYl hn72)
        have HRA := Lib.hid (rising_app HRi.out HLt.out hn72)
        have HY1 := Lib.hid (flip_yes X g n (natL l) (by rw [natL_length]; exact HGl.out))
        have HY0 := Lib.hid (flip_not X g n (natL l) (by rw [natL_length]; exact HGl.out))
        go_wp2_with (at_builtin; refine wpList_append_int rfl _ _ rfl _ l rfl own hb hz _ _ rfl (by omega) ?_; intro v' w4 own2 hb4)
        clear own hb
        refine (HA2.out _ k (HM.out.keep fun b hbl => hb4.block b hbl) (by omega)).mono ?_
        rintro e w' ⟨y, rfl, hy0, hy1, rfl⟩
        by_cases hy : y = 1
        · subst hy
          obtain ⟨Z, hZ⟩ : ∃ Z, Z = flipL X (natL l) g ^^^ 2 ^ n := ⟨_, rfl⟩
          rw [← hZ] at HF HY1
          clear hZ hYl
          generalize flipL X (natL l) g = Y at *
          go_wp2_with fail
          refine (HF.out _).mono ?_
          rintro e w5 ⟨rfl, hb5⟩
          have hb6 := hb4.trans (hb5.mono hb4.size)
          have own3 := own2.later hb5 (Nat.le_refl _)
          clear own2 hb5 hb4
          go_wp2_with fail
          refine (HA6.out _ k (HM.out.keep fun b hbl => hb6.block b hbl) (by omega)).mono ?_
          rintro e w' ⟨q, rfl, hq0, hq1, rfl⟩
          obtain ⟨q, rfl⟩ : ∃ n : Nat, q = (n : Int) := ⟨q.toNat, by omega⟩
          go_wp2
          go_roundw
          case rel => exact ⟨k - 1, l ++ [(n : Int)], n + 1 + q, g + 2 ^ (natL l).length, by go_num, by simp; omega, Lib.hid HRA.out.1, Lib.hid (fun i hi => by have := HRA.out.2 i hi; omega), by simp; omega, by go_num, Lib.hid (by have := HY1.out.2; rw [natL_length] at this ⊢; simpa using this), by rw [natL_app, HY1.out.1], by rw [natL_app, HY1.out.1], own3, hb6⟩
          case measure => simp [intOf]; omega
        · obtain rfl : y = 0 := by omega
          clear hYl HF
          generalize flipL X (natL l) g = Y at *
          go_wp2_with fail
          refine (HA6.out _ k (HM.out.keep fun b hbl => hb4.block b hbl) (by omega)).mono ?_
          rintro e w' ⟨q, rfl, hq0, hq1, rfl⟩
          obtain ⟨q, rfl⟩ : ∃ n : Nat, q = (n : Int) := ⟨q.toNat, by omega⟩
          go_wp2
          go_roundw
          case rel => exact ⟨k - 1, l ++ [(n : Int)], n + 1 + q, g, by go_num, by simp; omega, Lib.hid HRA.out.1, Lib.hid (fun i hi => by have := HRA.out.2 i hi; omega), by simp; omega, by go_num, Lib.hid (by have := HY0.out.2; rw [natL_length] at this; simpa using this), by rw [natL_app, HY0.out.1], by rw [natL_app, HY0.out.1], own2, hb4⟩
          case measure => simp [intOf]; omega
      · obtain rfl : k = 0 := by omega
        have HE := Lib.hid (implEr_sol (flipL X (natL l) g) u8 l (wStr (lo X)) 0 wr hYl own.readsR (by omega) HRi.out (HT.out.below hb (Nat.le_refl _)) (.inl ⟨g, by rw [flipL_back]; exact HG.out, by rw [flipL_back], rfl⟩))
        have hq := str_same (rfl : wStr (lo X) = wStr (lo X))
        clear hYl own
        generalize flipL X (natL l) g = Y at *
        go_wp2_with fail
        refine HE.out.mono ?_
        rintro e w5 ⟨rfl, hb5⟩
        go_wp2
        go_ret
        exact ⟨rfl, hb.trans (hb5.mono hz)⟩
  · go_enter Tryd.func4, Tryd.ntmps4
    go_wp2_with (go_at_call 9; refine (long_yes _ _ _ _ _ _ _ b0 b1 hl).mono ?_; rintro e w' ⟨rfl, rfl⟩)
    go_ret
    exact ⟨rfl, Below.refl _ _⟩
end Go.Proofs.YteigdjocjcjkiaaDoor
