/- A word with unknown bits, in the program: the contracts. -/
import Derived.Test.YteigdjocjcjkiaaDoorProg
import Derived.Test.YteigdjocjcjkiaaDoorIntsR
import Derived.Test.YteigdjocjcjkiaaDoorErN
import Derived.Test.YteigdjocjcjkiaaDoorInts
import Derived.Test.YteigdjocjcjkiaaDoorDecI
namespace Go.Proofs.YteigdjocjcjkiaaDoor
open Go.RowKit

theorem validErased_long (v : Value) (l : List Int) (w : World) (hv : IntsR w v l) (h : 3 < l.length) :
    Calls Tryd.prog 18 #[v] w fun e w' => e = .returned (.bool false) ∧ Below w.heap.size w w' := by
  obtain ⟨A, n, cap, rfl, hlc, hcm, hn, hA⟩ := hv
  have hd : decide ((n : Int) ≤ 3) = false := by simp; omega
  clear hA hlc hcm
  go_enter Tryd.func18, Tryd.ntmps18
  go_wp2
  go_ret
  exact ⟨rfl, Below.refl _ _⟩
def bef (l : List Int) (k : Nat) : Int := if k = 0 then -1 else l.getD (k - 1) 0
theorem bef_zero (l : List Int) : bef l 0 = -1 := rfl
theorem bef_succ (l : List Int) (k : Nat) : bef l (k + 1) = l.getD k 0 := by unfold bef; rw [if_neg (by omega)]; rfl
theorem bef_ok {l : List Int} {k : Nat} (hp : ∀ i, i < k → OkAt l i) : -1 ≤ bef l k ∧ bef l k ≤ 71 := by
  cases k with
  | zero => rw [bef_zero]; omega
  | succ k =>
    have := hp k (by omega)
    rw [bef_succ]
    have h1 := this.1
    have h2 := this.2.1
    omega
theorem okAt_iff {l : List Int} {k : Nat} (hp : ∀ i, i < k → OkAt l i) : OkAt l k ↔ (bef l k < l.getD k 0 ∧ l.getD k 0 < 72) := by
  unfold OkAt
  cases k with
  | zero =>
    rw [bef_zero]
    constructor
    · rintro ⟨h1, h2, _⟩; omega
    · rintro ⟨h1, h2⟩; exact ⟨by omega, by omega, fun h => by omega⟩
  | succ k =>
    have := (hp k (by omega)).1
    rw [bef_succ, Nat.add_sub_cancel]
    constructor
    · rintro ⟨h1, h2, h3⟩; exact ⟨h3 (by omega), by omega⟩
    · rintro ⟨h1, h2⟩; exact ⟨by omega, by omega, fun _ => h1⟩
/-- The run up to m: all, or the first that is not in order. -/
theorem incBelow_run (v : Value) (l : List Int) (m : Nat) (b : Bool) (w : World) (hv : IntsR w v l) (h3 : l.length ≤ 3) (hm : m ≤ l.length) (hp : ∀ i, i < m → OkAt l i) (hE : (m = l.length ∧ b = true) ∨ (m < l.length ∧ ¬ OkAt l m ∧ b = false)) :
    Calls Tryd.prog 27 #[v, .int .i64 72] w fun e w' => e = .returned (.bool b) ∧ Below w.heap.size w w' := by
  obtain ⟨A, n, cap, rfl, hlc, hcm, hn, hA⟩ := hv
  have hn3 : (n : Int) ≤ 3 := by omega
  rcases Nat.eq_zero_or_pos n with h0 | h0
  · subst h0
    have hb : b = true := by
      rcases hE with ⟨_, h⟩ | ⟨h, _⟩
      · exact h
      · omega
    subst hb
    clear hA hlc hcm hp hE hm h3
    go_enter Tryd.func27, Tryd.ntmps27
    go_wp2
    go_loop [5, 10] (fun u i => i = .int .i64 0) (fun _ _ => 0)
    case atStart => rfl
    case round =>
      obtain rfl := hrel
      go_wp2
      go_ret
      exact ⟨rfl, Below.refl _ _⟩
  · obtain ⟨bl, off, rfl, hbl, hx⟩ := hA h0
    have HX := Lib.hid hx
    have HP := Lib.hid hp
    have HE := Lib.hid hE
    have HN := Lib.hid hn
    clear hA hx hlc hcm hp hE
    go_enter Tryd.func27, Tryd.ntmps27
    go_wp2
    go_loop [5, 10] (fun u i => ∃ k : Nat, k ≤ m ∧ i = .int .i64 k ∧ u = .int .i64 (bef l k)) (fun _ i => n - (intOf i).toNat)
    case atStart => exact ⟨0, by omega, rfl, rfl⟩
    case round =>
      obtain ⟨k, hk, rfl, rfl⟩ := hrel
      obtain ⟨p1, p2⟩ := bef_ok (fun i hi => HP.out i (Nat.lt_of_lt_of_le hi hk))
      have hiff := okAt_iff (fun i hi => HP.out i (Nat.lt_of_lt_of_le hi hk))
      have hbs := bef_succ l k
      by_cases hlt : k < n
      · have hki : (k : Int) < (n : Int) := by omega
        have hc := HX.out k hlt
        by_cases hkm : k < m
        · obtain ⟨q1, q2⟩ := hiff.1 (HP.out k hkm)
          have HB := Lib.hid hbs
          generalize l.getD k 0 = x at *
          clear hiff hbs
          generalize bef l k = y at *
          have d1 : decide (x ≤ y) = false := by simp; omega
          have d2 : decide (x ≥ 72) = false := by simp; omega
          have d3 : decide (72 ≤ x) = false := by simp; omega
          go_wp2
          go_round
          case rel => exact ⟨k + 1, by omega, by go_num, by rw [HB.out]⟩
          case measure => simp [intOf]; omega
        · obtain rfl : k = m := by omega
          rcases HE.out with ⟨h, _⟩ | ⟨_, hno, rfl⟩
          · omega
          · rw [hiff] at hno
            clear hiff hbs
            generalize l.getD k 0 = x at *
            generalize bef l k = y at *
            by_cases hxy : x ≤ y
            · have d1 : decide (x ≤ y) = true := by simp; omega
              clear hno
              go_wp2
              go_ret
              exact ⟨rfl, Below.refl _ _⟩
            · have d1 : decide (x ≤ y) = false := by simp; omega
              have d2 : decide (x ≥ 72) = true := by simp; omega
              have d3 : decide (72 ≤ x) = true := by simp; omega
              have d4 : 72 ≤ x := by omega
              clear hno
              go_wp2
              go_ret
              exact ⟨rfl, Below.refl _ _⟩
      · obtain rfl : k = n := by omega
        rcases HE.out with ⟨h, rfl⟩ | ⟨h, _⟩
        · clear hiff hbs
          generalize bef l k = y at *
          go_wp2
          go_ret
          exact ⟨rfl, Below.refl _ _⟩
        · have := HN.out; omega
theorem validErased_run (v : Value) (l : List Int) (m : Nat) (b : Bool) (w : World) (hv : IntsR w v l) (h3 : l.length ≤ 3) (hm : m ≤ l.length) (hp : ∀ i, i < m → OkAt l i) (hE : (m = l.length ∧ b = true) ∨ (m < l.length ∧ ¬ OkAt l m ∧ b = false)) :
    Calls Tryd.prog 18 #[v] w fun e w' => e = .returned (.bool b) ∧ Below w.heap.size w w' := by
  have HI := Lib.hid (incBelow_run v l m b w hv h3 hm hp hE)
  obtain ⟨A, n, cap, rfl, hlc, hcm, hn, hA⟩ := hv
  have hd : decide ((n : Int) ≤ 3) = true := by simp; omega
  have hn3 : (n : Int) ≤ 3 := by omega
  clear hA hlc hcm hp hE hm h3
  go_enter Tryd.func18, Tryd.ntmps18
  go_wp2_with fail
  refine HI.out.mono ?_
  rintro e w1 ⟨rfl, hb1⟩
  have HB1 := Lib.hid hb1
  clear hb1
  go_wp2
  go_ret
  exact ⟨rfl, HB1.out⟩
theorem validErased_any (v : Value) (l : List Int) (b : Bool) (w : World) (hv : IntsR w v l) (hb : (b = true ∧ l.length ≤ 3 ∧ Rising l) ∨ (b = false ∧ ¬ (l.length ≤ 3 ∧ Rising l))) :
    Calls Tryd.prog 18 #[v] w fun e w' => e = .returned (.bool b) ∧ Below w.heap.size w w' := by
  rcases hb with ⟨rfl, h3, hr⟩ | ⟨rfl, h⟩
  · exact validErased_run v l l.length true w hv h3 (Nat.le_refl _) hr (.inl ⟨rfl, rfl⟩)
  · by_cases h3 : l.length ≤ 3
    · rcases first_not l with hr | ⟨m, hm, hp, hno⟩
      · exact absurd ⟨h3, hr⟩ h
      · exact validErased_run v l m false w hv h3 (by omega) hp (.inr ⟨hm, hno, rfl⟩)
    · exact validErased_long v l w hv (by omega)
theorem pow_wrap (n : Nat) (h : n ≤ 3) : wrap64 ((2 : Int) ^ n) = ((2 ^ n : Nat) : Int) := by
  have e : ((2 : Int) ^ n) = ((2 ^ n : Nat) : Int) := by rw [Int.natCast_pow]; rfl
  have := Nat.pow_le_pow_right (n := 2) (by decide) h
  rw [e]
  generalize 2 ^ n = q at *
  exact IntWalk.wrap64_in _ (by omega)
theorem natL_at {l : List Int} (h : Rising l) {j : Nat} (hj : j < l.length) : l.getD j 0 = (((natL l).getD j 0 : Nat) : Int) ∧ (natL l).getD j 0 < 72 := by
  have h1 := (h j hj).1
  have h2 := (h j hj).2.1
  have e : (natL l).getD j 0 = (l.getD j 0).toNat := by
    unfold natL
    rw [List.getD_eq_getElem?_getD, List.getElem?_map, List.getD_eq_getElem?_getD, List.getElem?_eq_getElem hj]; rfl
  omega
theorem flipL_take (X g : Nat) (L : List Nat) {j : Nat} (hj : j < L.length) : flipL X (L.take (j + 1)) g = if g / 2 ^ j % 2 = 1 then flipL X (L.take j) g ^^^ 2 ^ L.getD j 0 else flipL X (L.take j) g := by
  rw [List.take_succ_eq_append_getElem hj, flipL_app, List.length_take, Nat.min_eq_left (by omega), List.getD_eq_getElem?_getD, List.getElem?_eq_getElem hj]; rfl
theorem shr_bit (g j : Nat) (h : g < 2 ^ 63) : bits .and .i64 ((g : Int) / 2 ^ j) 1 = ((g / 2 ^ j % 2 : Nat) : Int) := by
  have e : ((g : Int) / 2 ^ j) = ((g / 2 ^ j : Nat) : Int) := by rw [Int.natCast_ediv, Int.natCast_pow]; rfl
  have := Nat.div_le_self g (2 ^ j)
  rw [e, and1_i64 _ (by omega)]
def ErPost (R : ByteArray) (c : Int) (w : World) (e : Ending) (w' : World) : Prop := e = .returned (.tuple #[.string R, .int .i64 c]) ∧ Below w.heap.size w w'
theorem implEr_no (s : ByteArray) (c : Int) (v : Value) (l : List Int) (w : World) (hv : IntsR w v l) (h : s.size ≠ 8 ∨ c < 0 ∨ 255 < c) :
    Calls Tryd.prog 7 #[.string s, .int .i64 c, v] w (ErPost ⟨#[]⟩ 1 w) := by
  have HC := Lib.hid (fun (W : World) => codewordOf_no s c W h)
  obtain ⟨A, n, cap, rfl, _⟩ := hv
  clear h
  go_enter Tryd.func7, Tryd.ntmps7
  go_wp2_with fail
  refine (HC.out _).mono ?_
  rintro e w1 ⟨rfl, hb1⟩
  go_wp2
  go_ret2
  exact ⟨rfl, hb1.alloc hb1.size _⟩
theorem implEr_range (X : Nat) (v : Value) (l : List Int) (w : World) (hX : X < 2 ^ 72) (hv : IntsR w v l) (h : ¬ (l.length ≤ 3 ∧ Rising l)) :
    Calls Tryd.prog 7 #[.string (wStr (lo X)), .int .i64 (hi X : Nat), v] w (ErPost ⟨#[]⟩ 2 w) := by
  have HC := Lib.hid (fun (W : World) => codewordOf_yes X W hX)
  have HV := Lib.hid (fun (W : World) (hr : IntsR W v l) => validErased_any v l false W hr (.inr ⟨rfl, h⟩))
  have HR := Lib.hid hv
  obtain ⟨A, n, cap, hvv, _⟩ := hv
  subst hvv
  clear h
  unfold cw at HC
  generalize wStr (lo X) = s at *
  generalize lo X = x at *
  generalize hi X = k at *
  go_enter Tryd.func7, Tryd.ntmps7
  go_wp2_with fail
  refine (HC.out _).mono ?_
  rintro e w1 ⟨rfl, hb1⟩
  go_wp2_with fail
  have hb2 := hb1.alloc hb1.size (.cells #[.int .u64 (x : Nat), .int .u8 (k : Nat)] 45)
  refine (HV.out _ (HR.out.below hb2 (Nat.le_refl _))).mono ?_
  rintro e w2 ⟨rfl, hb3⟩
  go_wp2
  go_ret2
  exact ⟨rfl, hb2.trans (hb3.mono hb2.size)⟩
set_option maxRecDepth 100000 in
theorem implEr_sol (X : Nat) (v : Value) (l : List Int) (R : ByteArray) (c : Int) (w : World) (hX : X < 2 ^ 72) (hv : IntsR w v l) (h3 : l.length ≤ 3) (hr : Rising l) (hT : MaskTab w) (hS : Sol X (natL l) R c) :
    Calls Tryd.prog 7 #[.string (wStr (lo X)), .int .i64 (hi X : Nat), v] w (ErPost R c w) := by
  have HC := Lib.hid (fun (W : World) => codewordOf_yes X W hX)
  have HV := Lib.hid (fun (W : World) (h : IntsR W v l) => validErased_any v l true W h (.inl ⟨rfl, h3, hr⟩))
  have HR := Lib.hid hv
  have HT := Lib.hid hT
  obtain ⟨A, n, cap, hvv, hlc, hcm, hn, hA⟩ := hv
  subst hvv
  have HS := Lib.hid hS
  have HRi := Lib.hid hr
  have HN := Lib.hid hn
  have hn3 : n ≤ 3 := by omega
  clear hr hT hA hS hn h3
  unfold cw at HC
  generalize wStr (lo X) = s at *
  obtain ⟨x, hx⟩ : ∃ x, x = lo X := ⟨_, rfl⟩
  obtain ⟨k, hk⟩ : ∃ k, k = hi X := ⟨_, rfl⟩
  have HXX := Lib.hid hx
  have HKK := Lib.hid hk
  rw [← hx, ← hk] at HC
  rw [← hk]
  clear hx hk
  go_enter Tryd.func7, Tryd.ntmps7
  go_wp2_with fail
  refine (HC.out _).mono ?_
  rintro e w1 ⟨rfl, hb1⟩
  go_wp2_with fail
  have hb2 := hb1.alloc hb1.size (.cells #[.int .u64 (x : Nat), .int .u8 (k : Nat)] 45)
  refine (HV.out _ (HR.out.below hb2 (Nat.le_refl _))).mono ?_
  rintro e w2 ⟨rfl, hb3⟩
  have hB2 := hb2.trans (hb3.mono hb2.size)
  obtain ⟨M, hM, hwp⟩ : ∃ M : Nat, M = 2 ^ n ∧ wrap64 ((2 : Int) ^ n) = (M : Int) := by
    exact ⟨2 ^ n, rfl, pow_wrap n hn3⟩
  have HM := Lib.hid hM
  have hM8 : M ≤ 8 := by rw [hM]; exact Nat.pow_le_pow_right (n := 2) (by decide) hn3
  have HRd := Lib.hid (fun (W : World) (h : Below w.heap.size w W) => HR.out.below h (Nat.le_refl _))
  clear hM
  have r1 : Row w2 w1.heap.size 45 #[.int .u64 x, .int .u8 k] := Row.below (heap_alloc_new w1 _) hb3 (by simp)
  have hz1 := hb1.size
  have hz2 := r1.lt
  clear hb1 hb2 hb3 HC HV hlc hcm
  go_wp2_with fail
  rw [hwp]
  clear hwp
  have hnl : (natL l).length = n := by rw [natL_length]; exact HN.out
  have HNL := Lib.hid hnl
  clear hnl
  go_loopw [28] (fun i wr => ∃ g : Nat, g ≤ M ∧ i = .int .i64 g ∧ Hid (∀ h, h < g → good (flipL X (natL l) h) = false) ∧ Row wr w1.heap.size 45 #[.int .u64 x, .int .u8 k] ∧ Below w.heap.size w wr) (fun i _ => M - (intOf i).toNat)
  case atStart => exact ⟨0, by omega, rfl, Lib.hid (fun h hh => by omega), r1, hB2⟩
  case round =>
    clear r1 hB2 hz2
    obtain ⟨g, hg, rfl, HALL, hrow, hb⟩ := hrel
    obtain ⟨wo, hwo⟩ : ∃ wo, wo = wr := ⟨_, rfl⟩
    subst hwo
    have hz := hb.size
    have hrl := hrow.lt
    by_cases hlt : g < M
    · have hgi : (g : Int) < (M : Int) := by omega
      have c0 := hrow.cell 0
      have c1 := hrow.cell 1
      simp only [List.getElem?_toArray, List.getElem?_cons_zero, List.getElem?_cons_succ] at c0 c1
      go_wp2
      have r2 : Row (wo.alloc (.cells #[.int .u64 x, .int .u8 k] 45)) wo.heap.size 45 #[.int .u64 x, .int .u8 k] := heap_alloc_new wo _
      have r3 := hrow.alloc (.cells #[.int .u64 x, .int .u8 k] 45)
      have hb2 := hb.alloc hz (.cells #[.int .u64 x, .int .u8 k] 45)
      clear c0 c1 hrow
      go_loopw [34] (fun i wi => ∃ j : Nat, j ≤ n ∧ i = .int .i64 j ∧ Row wi wo.heap.size 45 #[.int .u64 (lo (flipL X ((natL l).take j) g) : Nat), .int .u8 (hi (flipL X ((natL l).take j) g) : Nat)] ∧ Row wi w1.heap.size 45 #[.int .u64 x, .int .u8 k] ∧ Below w.heap.size w wi) (fun i _ => n - (intOf i).toNat)
      case atStart => exact ⟨0, by omega, rfl, by rw [List.take_zero, flipL, ← HXX.out, ← HKK.out]; exact r2, r3, hb2⟩
      case round =>
        clear r2 r3 hb2
        obtain ⟨j, hj, rfl, r2, r3, hb2⟩ := hrel
        have hl2 := r2.lt
        have hz3 := hb2.size
        by_cases hjn : j < n
        · have hji : (j : Int) < (n : Int) := by omega
          have hIR := HRd.out wr hb2
          obtain ⟨A', n', cap', hvv, _, _, _, hcx⟩ := hIR
          injection hvv with e1 e2 e3
          subst e1 e2 e3
          obtain ⟨b, off, rfl, hbl, hx⟩ := hcx (by omega)
          have hc := hx j hjn
          obtain ⟨hv1, hv2⟩ := natL_at HRi.out (show j < l.length by have := HN.out; omega)
          rw [hv1] at hc
          have htk := flipL_take X g (natL l) (show j < (natL l).length by have := HNL.out; omega)
          have hYl : flipL X ((natL l).take j) g < 2 ^ 72 := flipL_lt _ X g hX (fun b hb => natL_lt HRi.out b (List.mem_of_mem_take hb))
          have hsh := shr_bit g j (by omega)
          obtain ⟨Y, hY⟩ : ∃ Y, Y = flipL X ((natL l).take j) g := ⟨_, rfl⟩
          rw [← hY] at r2 htk hYl
          obtain ⟨q, hq⟩ : ∃ q, q = (natL l).getD j 0 := ⟨_, rfl⟩
          rw [← hq] at hc hv2 htk
          have HTK := Lib.hid htk
          clear hcx hx hv1 htk hY hq
          by_cases hbit : g / 2 ^ j % 2 = 1
          · rw [hbit] at hsh
            have hbb : (bits .and .i64 ((g : Int) / 2 ^ j) 1 == 1) = true := by rw [hsh]; rfl
            have HF := Lib.hid (fun (W : World) => flip_cw Y q W hYl hv2)
            unfold cw at HF
            have HT2 := HTK.out
            rw [if_pos hbit] at HT2
            have HT3 := Lib.hid HT2
            have g0 := r2.cell 0
            have g1 := r2.cell 1
            simp only [List.getElem?_toArray, List.getElem?_cons_zero, List.getElem?_cons_succ] at g0 g1
            obtain ⟨Z, hZ⟩ : ∃ Z, Z = Y ^^^ 2 ^ q := ⟨_, rfl⟩
            rw [← hZ] at HF HT3
            clear hsh HT2 hZ
            go_wp2_with fail
            refine (HF.out _).mono ?_
            rintro e w3 ⟨rfl, hb3⟩
            have s2 := r2.below hb3 hl2
            have s3 := r3.below hb3 r3.lt
            have hb4 := hb2.trans (hb3.mono hz3)
            have f0 := s2.free 0
            have f1 := s2.free 1
            have p0 := s2.cell 0
            have p1 := s2.cell 1
            simp only [List.getElem?_toArray, List.getElem?_cons_zero, List.getElem?_cons_succ] at p0 p1
            have t2 := Lib.hid ((s2.set_ 0 (.int .u64 (lo Z : Nat))).set_ 1 (.int .u8 (hi Z : Nat)))
            have t3 := Lib.hid ((s3.far (p := ⟨wo.heap.size, 0, none⟩) (by show w1.heap.size ≠ wo.heap.size; omega) (.int .u64 (lo Z : Nat))).far (p := ⟨wo.heap.size, 1, none⟩) (by show w1.heap.size ≠ wo.heap.size; omega) (.int .u8 (hi Z : Nat)))
            have t4 := Lib.hid ((hb4.setCell (p := ⟨wo.heap.size, 0, none⟩) hz (.int .u64 (lo Z : Nat))).setCell (p := ⟨wo.heap.size, 1, none⟩) hz (.int .u8 (hi Z : Nat)))
            clear g0 g1 r2 r3 hb2 hb3 s2 s3 hb4
            go_wp2
            go_roundw
            case rel => exact ⟨j + 1, by omega, by go_num, by rw [HT3.out]; exact t2.out, t3.out, t4.out⟩
            case measure => simp [intOf]; omega
          · have hsh0 : g / 2 ^ j % 2 = 0 := by omega
            rw [hsh0] at hsh
            have hbb : (bits .and .i64 ((g : Int) / 2 ^ j) 1 == 1) = false := by rw [hsh]; rfl
            have HT2 := HTK.out
            rw [if_neg hbit] at HT2
            have HT3 := Lib.hid HT2
            clear hsh HT2
            go_wp2
            go_roundw
            case rel => exact ⟨j + 1, by omega, by go_num, by rw [HT3.out]; exact r2, r3, hb2⟩
            case measure => simp [intOf]; omega
        · obtain rfl : j = n := by omega
          rw [List.take_of_length_le (by have := HNL.out; omega)] at r2
          have hYl : flipL X (natL l) g < 2 ^ 72 := flipL_lt _ X g hX (natL_lt HRi.out)
          obtain ⟨Y, hY⟩ : ∃ Y, Y = flipL X (natL l) g := ⟨_, rfl⟩
          rw [← hY] at r2 hYl
          have HY := Lib.hid hY
          clear hY
          have g0 := r2.cell 0
          have g1 := r2.cell 1
          simp only [List.getElem?_toArray, List.getElem?_cons_zero, List.getElem?_cons_succ] at g0 g1
          have HSy := Lib.hid (fun (W : World) (hT : MaskTab W) => syn_cw Y W hYl hT)
          have HPa := Lib.hid (fun (W : World) => par_cw Y W hYl)
          have HTx := Lib.hid (fun (W : World) => text_any Y W)
          unfold cw at HSy HPa HTx
          have HT2 := Lib.hid (HT.out.below hb2 (Nat.le_refl _))
          by_cases hgd : good Y = true
          · obtain ⟨e1, e2⟩ := (good_iff Y).1 hgd
            rw [e1] at HSy
            rw [e2] at HPa
            have HR2 : Hid (R = wStr (lo Y) ∧ c = 0) := by
              show _ ∧ _
              rcases HS.out with ⟨h, h1, h2, h3⟩ | ⟨h1, _⟩
              · have := only_one (by rw [HNL.out]; exact hn3) (natL_lt HRi.out) (natL_nodup HRi.out) h1 (show good (flipL X (natL l) g) = true by rw [← HY.out]; exact hgd)
                exact ⟨by rw [h2, this, HY.out], h3⟩
              · have := h1 g; rw [← HY.out, hgd] at this; cases this
            clear hgd e1 e2
            go_wp2_with fail
            refine (HSy.out _ HT2.out).mono ?_
            rintro e w3 ⟨rfl, hb3⟩
            have s2 := r2.below hb3 hl2
            have hB3 := hb2.trans (hb3.mono hz3)
            have p0 := s2.cell 0
            have p1 := s2.cell 1
            simp only [List.getElem?_toArray, List.getElem?_cons_zero, List.getElem?_cons_succ] at p0 p1
            clear g0 g1 r2 r3 hb2 hb3
            go_wp2_with fail
            refine (HPa.out _).mono ?_
            rintro e w4 ⟨rfl, hb4⟩
            have u2 := s2.below hb4 s2.lt
            have hB4 := hB3.trans (hb4.mono hB3.size)
            have o0 := u2.cell 0
            have o1 := u2.cell 1
            simp only [List.getElem?_toArray, List.getElem?_cons_zero, List.getElem?_cons_succ] at o0 o1
            clear p0 p1 s2 hb4 hB3
            go_wp2_with fail
            refine (HTx.out _).mono ?_
            rintro e w5 ⟨rfl, hb5⟩
            have hB5 := hB4.trans (hb5.mono hB4.size)
            clear o0 o1 u2 hb5 hB4
            obtain ⟨rfl, rfl⟩ := HR2.out
            go_wp2
            go_ret2
            exact ⟨rfl, hB5⟩
          · have HALL2 := Lib.hid (show ∀ h, h < g + 1 → good (flipL X (natL l) h) = false from fun h hh => by
              by_cases e : h = g
              · rw [e, ← HY.out]; simpa using hgd
              · exact HALL.out h (by omega))
            by_cases hs0 : synN Y = 0
            · have hp1 : parN Y ≠ 0 := fun e => hgd ((good_iff Y).2 ⟨hs0, e⟩)
              rw [hs0] at HSy
              have hpp : ((parN Y : Int) == 0) = false := by simp; omega
              clear hgd hs0 hp1
              generalize parN Y = P at *
              go_wp2_with fail
              refine (HSy.out _ HT2.out).mono ?_
              rintro e w3 ⟨rfl, hb3⟩
              have s2 := r2.below hb3 hl2
              have s3 := r3.below hb3 r3.lt
              have hB3 := hb2.trans (hb3.mono hz3)
              have p0 := s2.cell 0
              have p1 := s2.cell 1
              simp only [List.getElem?_toArray, List.getElem?_cons_zero, List.getElem?_cons_succ] at p0 p1
              clear g0 g1 r2 r3 hb2 hb3 s2
              go_wp2_with fail
              refine (HPa.out _).mono ?_
              rintro e w4 ⟨rfl, hb4⟩
              have u3 := s3.below hb4 s3.lt
              have hB4 := hB3.trans (hb4.mono hB3.size)
              clear p0 p1 s3 hb4 hB3
              go_wp2
              go_roundw
              case rel => exact ⟨g + 1, by omega, by go_num, HALL2, u3, hB4⟩
              case measure => simp [intOf]; omega
            · have hss : ((synN Y : Int) == 0) = false := by simp; omega
              clear hgd hs0
              generalize synN Y = S at *
              go_wp2_with fail
              refine (HSy.out _ HT2.out).mono ?_
              rintro e w3 ⟨rfl, hb3⟩
              have s3 := r3.below hb3 r3.lt
              have hB3 := hb2.trans (hb3.mono hz3)
              clear g0 g1 r2 r3 hb2 hb3
              go_wp2
              go_roundw
              case rel => exact ⟨g + 1, by omega, by go_num, HALL2, s3, hB3⟩
              case measure => simp [intOf]; omega
    · obtain rfl : g = M := by omega
      have HR2 : Hid (R = ⟨#[]⟩ ∧ c = 6) := by
        show _ ∧ _
        rcases HS.out with ⟨h, h1, _, _⟩ | ⟨_, h2, h3⟩
        · have := HALL.out (h % 2 ^ (natL l).length) (by rw [HM.out, HNL.out]; exact Nat.mod_lt _ (Nat.two_pow_pos n))
          rw [flipL_mod, h1] at this; cases this
        · exact ⟨h2, h3⟩
      obtain ⟨rfl, rfl⟩ := HR2.out
      go_wp2
      go_ret2
      exact ⟨rfl, hb⟩
end Go.Proofs.YteigdjocjcjkiaaDoor
