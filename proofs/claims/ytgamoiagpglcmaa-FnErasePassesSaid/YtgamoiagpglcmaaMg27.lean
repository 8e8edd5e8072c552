/- The proof's own lemmas, part 28: CxQ. -/
import Derived.Test.YtgamoiagpglcmaaProg
import Derived.Test.YtgamoiagpglcmaaMg26
import Derived.Test.YtgamoiagpglcmaaMg18
import Derived.Test.YtgamoiagpglcmaaMg13
import Derived.Deep.RegionLaw
import Derived.StillTailTactics
/- ErasePasses, walked on both sides. -/
namespace Go.Proofs.Ytgamoiagpglcmaa
open Go.RowKit
set_option linter.unusedVariables false
set_option linter.unusedSimpArgs false

theorem map_quart (cs : List Int) (p : Nat) : (cs.map (fun y => y / 4 ^ p)).map (· / 4) = cs.map (fun y => y / 4 ^ (p + 1)) := by
  rw [List.map_map]; congr 1; funext y; exact quart y p
theorem getD_mapQ (cs : List Int) (p i : Nat) (h : i < cs.length) : (cs.map (fun y => y / 4 ^ p)).getD i 0 = cs.getD i 0 / 4 ^ p := by simp [List.getD_eq_getElem?_getD, h]
theorem pass_few {h l : Int} (h1 : h ≤ 255) (h0 : 0 ≤ h) (hl : 1 ≤ l) {p : Nat} (hj : ∀ j : Nat, j < p → l ≤ h / 4 ^ j) : p ≤ 4 := by
  rcases Nat.lt_or_ge 4 p with g | g
  · have := hj 4 g
    have e : h / 4 ^ 4 = 0 := Int.ediv_eq_zero_of_lt h0 (by show h < 256; omega)
    omega
  · exact g
theorem ep1_any (x l : Int) (q : Bool) (g : Nat) (w : World) (hR : Rw w g 2 #[.int .i64 l]) (hq : q = true ↔ l ≤ x) :
    Calls Try.prog 100 #[.int .i64 x, .pointer (some ⟨g, 0, none⟩)] w fun e w' => e = .returned (.bool q) ∧ w = w' := by
  have q0 := hR.one
  obtain rfl : q = decide (x ≥ l) := by rw [Bool.eq_iff_iff, hq]; simp
  clear hR hq
  go_enter Try.func100, Try.ntmps100
  go_wp2
  go_ret
  exact ⟨by simp, rfl⟩
set_option maxRecDepth 100000 in
theorem idxEp_any (p : Int → Prop) (v : Value) (cs : List Int) (r : Bool) (w : World) (hi : Nat) (gl : Nat) (hv : NI w hi v cs) (hh : hi ≤ w.heap.size) (HC : ∀ (W : World) (y : Int) (q : Bool), Below w.heap.size w W → 0 < cs.length → (q = true ↔ p y) → Calls Try.prog 100 #[.int .i64 y, .pointer (some ⟨gl, 0, none⟩)] W fun e w' => e = .returned (.bool q) ∧ W = w') (hr : r = true ↔ ∃ i, i < cs.length ∧ p (cs.getD i 0)) (hl : cs.length ≤ 1048576) :
    Calls Try.prog 152 #[v, .func (.func 100) #[] #[.pointer (some ⟨gl, 0, none⟩)]] w fun e w' => ∃ x : Int, e = .returned (.int .i64 x) ∧ (r = true ↔ 0 ≤ x) ∧ Below w.heap.size w w' := by
  obtain ⟨A, n, c, rfl, _, _, hn, hA⟩ := hv
  have HR := Lib.hid hr
  have HA := Lib.hid hA
  have HN := Lib.hid hn
  have HH := Lib.hid hh
  have HO := Lib.hid HC
  have hnm : (n : Int) ≤ 1048576 := by omega
  clear hA hr hn hl hh HC
  go_enter Try.func152, Try.ntmps152
  go_wp2
  go_loopw [5, 8] (fun i0 i wr => ∃ k : Nat, k ≤ n ∧ i = .int .i64 k ∧ Hid (∀ j, j < k → ¬ p (cs.getD j 0)) ∧ Hid (Below w.heap.size w wr)) (fun _ i _ => n - (intOf i).toNat)
  case atStart => exact ⟨0, by omega, rfl, Lib.hid (fun j hj => by omega), Lib.hid (Below.refl _ _)⟩
  case round =>
    obtain ⟨k, hk, rfl, HE, HB⟩ := hrel
    by_cases hlt : k < n
    · have hki : (k : Int) < (n : Int) := by omega
      obtain ⟨pb, po, rfl, hp2, hpx⟩ := HA.out (by omega)
      have e1 := (HB.out.cell (p := ⟨pb, po + k, none⟩) (by have := HH.out; show pb < _; omega)).trans (hpx k hlt)
      obtain ⟨q, hq⟩ := prop_dec' (p (cs.getD k 0))
      have HO1 := Lib.hid (fun (W : World) (B : Below w.heap.size w W) => HO.out W (cs.getD k 0) q B (by rw [HN.out]; omega) hq)
      have HF := Lib.hid (fun (e : q = true) => HR.out.2 ⟨k, by rw [HN.out]; exact hlt, hq.1 e⟩)
      have HY := Lib.hid (fun (e : q = false) => show ∀ j, j < k + 1 → ¬ p (cs.getD j 0) from fun j hj => by
        by_cases f : j = k
        · subst f
          intro h
          have := hq.2 h; rw [e] at this; cases this
        · exact HE.out j (by omega))
      clear hq hpx hp2 HR HE
      generalize cs.getD k 0 = y at *
      go_wp2_with fail
      refine (HO1.out _ HB.out).mono ?_
      rintro e w1 ⟨rfl, rfl⟩
      cases q with
      | true =>
        have HG := Lib.hid (HF.out rfl)
        clear HF HY
        go_wp2
        go_ret
        exact ⟨_, rfl, ⟨fun _ => by omega, fun _ => HG.out⟩, HB.out⟩
      | false =>
        have HG := Lib.hid (HY.out rfl)
        clear HF HY
        go_wp2
        go_roundw
        case rel => exact ⟨k + 1, by omega, by go_num, HG, HB⟩
        case measure => simp [intOf]; omega
    · obtain rfl : k = n := by omega
      have HG := Lib.hid (not_true HR.out (fun ⟨i, hi, e⟩ => HE.out i (by rw [HN.out] at hi; exact hi) e))
      clear HR HE
      go_wp2
      go_ret
      exact ⟨_, rfl, ⟨fun e => absurd (HG.out.symm.trans e) (by decide), fun e => by omega⟩, HB.out⟩
theorem hasEp_any (p : Int → Prop) (v : Value) (cs : List Int) (r : Bool) (w : World) (hi : Nat) (gl : Nat) (hv : NI w hi v cs) (hh : hi ≤ w.heap.size) (HC : ∀ (W : World) (y : Int) (q : Bool), Below w.heap.size w W → 0 < cs.length → (q = true ↔ p y) → Calls Try.prog 100 #[.int .i64 y, .pointer (some ⟨gl, 0, none⟩)] W fun e w' => e = .returned (.bool q) ∧ W = w') (hr : r = true ↔ ∃ i, i < cs.length ∧ p (cs.getD i 0)) (hl : cs.length ≤ 1048576) :
    Calls Try.prog 94 #[v, .func (.func 100) #[] #[.pointer (some ⟨gl, 0, none⟩)]] w fun e w' => e = .returned (.bool r) ∧ Below w.heap.size w w' := by
  obtain ⟨A, n, c, rfl⟩ := hv.slice
  have HI := Lib.hid (idxEp_any p _ cs r w hi gl hv hh HC hr hl)
  clear hv hr hl hh HC
  go_enter Try.func94, Try.ntmps94
  go_wp2_with fail
  refine HI.out.mono ?_
  rintro e w1 ⟨x, rfl, hx, b⟩
  have HB := Lib.hid b
  have HX := Lib.hid hx
  clear b hx
  go_wp2
  go_ret
  exact ⟨ret_bool (by rw [Bool.eq_iff_iff, HX.out]; simp), HB.out⟩
set_option maxHeartbeats 4000000 in
set_option maxRecDepth 100000 in
theorem implEp_any (u : Value) (M : Ce) (r : Bool) (l y : Int) (w : World) (hi : Nat) (h : CeIn w hi u M) (hh : hi ≤ w.heap.size) (hr : r = true ↔ CeOk M) (hy : EpIs M r l y) (hl : CeSz M) :
    Calls Try.prog 39 #[u, .int .i64 l] w fun e w' => e = .returned (.int .i64 y) ∧ Below w.heap.size w w' := by
  obtain ⟨a, rfl, h1⟩ := h
  obtain ⟨A, n, c, rfl⟩ := h1.slice
  have HV := Lib.hid (fun (W : World) (b : Below w.heap.size w W) => implCeOk_any (.agg #[.slice A n c]) M r W hi ⟨_, rfl, h1.below b hh⟩ (by have := b.size; omega) hr hl)
  obtain ⟨cs⟩ := M
  unfold cec
  unfold CeSz at hl
  unfold EpIs at hy
  simp only at *
  have hn : cs.length = n := h1.len_.1
  obtain ⟨r0, r1, bb⟩ := Rw.two_new w 42 2 #[.slice A n c] #[.int .i64 l]
  obtain ⟨W0, hW0⟩ : ∃ W0, W0 = (w.alloc (.cells #[.slice A n c] 42)).alloc (.cells #[.int .i64 l] 2) := ⟨_, rfl⟩
  have hz0 : W0.heap.size = w.heap.size + 2 := by rw [hW0]; simp
  rw [← hW0] at r0 r1 bb
  have q0 := r0.one
  have q1 := r1.one
  have R0 := Lib.hid r0
  have R1 := Lib.hid r1
  have BB := Lib.hid bb
  have H1 := Lib.hid h1
  have HR := Lib.hid hr
  have HN := Lib.hid hn
  have HH := Lib.hid hh
  have HYY := Lib.hid hy
  have HW := Lib.hid hW0
  have HLN := Lib.hid hl
  clear r0 r1 bb h1 hr hn hh hy hl
  rw [hW0] at q0 q1
  clear hW0
  by_cases g : 1 ≤ l ∧ l ≤ 255
  case neg =>
    have hyv : y = -1 := by rcases HYY.out with ⟨_, e⟩ | ⟨e, _⟩; exact e; exact absurd e.2 g
    subst hyv
    have hguard : (decide (l < 1) || decide (l > 255)) = true := by simp; omega
    clear HYY HR H1 HLN
    go_enter Try.func39, Try.ntmps39
    go_wp2_with fail
    rw [← HW.out]
    refine (HV.out _ BB.out).mono ?_
    rintro e w1 ⟨rfl, b1⟩
    have HB1 := Lib.hid (BB.out.trans (b1.mono (by omega)))
    have R11 := Lib.hid (R1.out.below b1 (by omega))
    clear b1 q0 q1 HV
    have q1 := R11.out.one
    cases r with
    | false =>
      go_wp2
      go_ret
      exact ⟨rfl, HB1.out⟩
    | true =>
      by_cases g1 : l < 1
      · have d1 : decide (l < 1) = true := by simpa using g1
        clear hguard g
        go_wp2
        go_ret
        exact ⟨rfl, HB1.out⟩
      · have d1 : decide (l < 1) = false := by simpa using g1
        have d2 : decide (l > 255) = true := by simp; omega
        clear hguard g
        go_wp2
        go_ret
        exact ⟨rfl, HB1.out⟩
  have d1 : decide (l < 1) = false := by simp; omega
  have d2 : decide (l > 255) = false := by simp; omega
  have HG := Lib.hid g
  clear g
  go_enter Try.func39, Try.ntmps39
  go_wp2_with fail
  rw [← HW.out]
  refine (HV.out _ BB.out).mono ?_
  rintro e w1 ⟨rfl, b1⟩
  have hs1 := b1.size
  have HB1 := Lib.hid (BB.out.trans (b1.mono (by omega)))
  have R11 := Lib.hid (R1.out.below b1 (by omega))
  have R01 := Lib.hid (R0.out.below b1 (by omega))
  have HI1 := Lib.hid ((H1.out.below HB1.out HH.out).wide (show hi ≤ w1.heap.size by have := HH.out; omega))
  clear b1 q0 q1 HV H1
  have q0 := R01.out.one
  have q1 := R11.out.one
  cases r with
  | false =>
    have hyv : y = -1 := by rcases HYY.out with ⟨_, e⟩ | ⟨e, _⟩; exact e; exact absurd e.1 (by decide)
    subst hyv
    clear HYY HR HLN
    go_wp2
    go_ret
    exact ⟨rfl, HB1.out⟩
  | true =>
    obtain ⟨hm, P, hmx, hm0, hm1, hP, rfl⟩ : ∃ hm p, MaxIs cs hm ∧ 0 ≤ hm ∧ hm ≤ 255 ∧ PassIs hm l p ∧ y = (p : Int) := by
      rcases HYY.out with ⟨e, _⟩ | ⟨_, e⟩
      · exact absurd ⟨rfl, HG.out⟩ e
      · exact e
    have HMX := Lib.hid hmx
    have HP := Lib.hid hP
    have HM := Lib.hid (And.intro hm0 hm1)
    have HOK := Lib.hid (HR.out.1 rfl)
    clear HYY HR hmx hP hm0 hm1
    go_wp2
    go_loopw [6] (fun i wr => ∃ p : Nat, ∃ A' n' c', i = .int .i64 (p : Int) ∧ p ≤ 4 ∧ Hid (Rw wr w.heap.size 42 #[.slice A' n' c']) ∧ Hid (NI wr wr.heap.size (.slice A' n' c') (cs.map (fun y => y / 4 ^ p))) ∧ Hid (Rw wr (w.heap.size + 1) 2 #[.int .i64 l]) ∧ Hid (Below w.heap.size w wr) ∧ Hid (∀ j : Nat, j < p → l ≤ hm / 4 ^ j)) (fun i _ => 6 - (intOf i).toNat)
    case atStart => exact ⟨0, _, _, _, rfl, by omega, R01, Lib.hid (by simpa using HI1.out), R11, HB1, Lib.hid (fun j hj => by omega)⟩
    case round =>
      obtain ⟨p, A', n', c', rfl, hp4, HR0, HI, HR1, HB, HJ⟩ := hrel
      clear q0 q1
      have q0 := HR0.out.one
      have q1 := HR1.out.one
      obtain ⟨q, hq⟩ := prop_dec' (∃ i, i < (cs.map (fun y => y / 4 ^ p)).length ∧ l ≤ (cs.map (fun y => y / 4 ^ p)).getD i 0)
      have hql : q = true ↔ l ≤ hm / 4 ^ p := by
        rw [hq, ← HMX.out.some_ge HG.out.1 p]
        simp only [List.length_map]
        exact ⟨fun ⟨i, h1, h2⟩ => ⟨i, h1, by rwa [getD_mapQ cs p i h1] at h2⟩, fun ⟨i, h1, h2⟩ => ⟨i, h1, by rwa [getD_mapQ cs p i h1]⟩⟩
      have HC := Lib.hid (hasEp_any (fun y => l ≤ y) (.slice A' n' c') (cs.map (fun y => y / 4 ^ p)) q wr wr.heap.size (w.heap.size + 1) HI.out (Nat.le_refl _) (fun W y q b _ hq => ep1_any y l q (w.heap.size + 1) W (HR1.out.below b HR1.out.lt) hq) hq (by have := HLN.out; simpa using this))
      have HQ := Lib.hid hql
      clear hq hql
      go_wp2_with fail
      refine HC.out.mono ?_
      rintro e w2 ⟨rfl, b2⟩
      have hs2 := b2.size
      have HB2 := Lib.hid (HB.out.trans (b2.mono HB.out.size))
      have HR02 := Lib.hid (HR0.out.below b2 HR0.out.lt)
      have HR12 := Lib.hid (HR1.out.below b2 HR1.out.lt)
      have HI2 := Lib.hid ((HI.out.below b2 (Nat.le_refl _)).wide hs2)
      clear b2 q0 q1 HC HR0 HR1 HB HI
      have q0 := HR02.out.one
      have q1 := HR12.out.one
      have f0 := HR02.out.free 0
      cases q with
      | false =>
        have hpp : P = p := HP.out.uniq ⟨HJ.out, by have := HQ.out; simp at this; omega⟩
        subst hpp
        go_wp2
        go_ret
        exact ⟨rfl, HB2.out⟩
      | true =>
        have hj1 : ∀ j : Nat, j < p + 1 → l ≤ hm / 4 ^ j := fun j hj => by
          by_cases e : j = p
          · subst e; exact HQ.out.1 rfl
          · exact HJ.out j (by omega)
        have hp5 := pass_few HM.out.2 HM.out.1 HG.out.1 hj1
        have HJ1 := Lib.hid hj1
        have HE := Lib.hid (implEra15_any (.agg #[.slice A' n' c']) ⟨cs.map (fun y => y / 4 ^ p)⟩ true w2 w2.heap.size ⟨_, rfl, HI2.out⟩ (Nat.le_refl _) ⟨fun _ => ⟨by have := HOK.out.1; simpa using this, fun i hi => by
          simp only [List.length_map] at hi
          have := HOK.out.2 i hi
          unfold ChOk at this ⊢
          simp only at this ⊢
          rw [getD_mapQ cs p i hi]
          have := quart_le (cs.getD i 0) this.1 p
          omega⟩, fun _ => rfl⟩ (by have := HLN.out; unfold CeSz; simpa using this))
        clear hj1 HJ
        go_wp2_with fail
        refine HE.out.mono ?_
        rintro e w3 ⟨u, rfl, ⟨u2, rfl, ho⟩, b3⟩
        have hs3 := b3.size
        have ho' := ho.reads
        simp only [eraE, eraC, cond_true] at ho'
        rw [map_quart] at ho'
        obtain ⟨A3, n3, c3, rfl⟩ := ho.agg_
        have hbk := ho.2
        have HI3 := Lib.hid ho'
        have HR03 := Lib.hid (HR02.out.below b3 HR02.out.lt)
        have HR13 := Lib.hid (HR12.out.below b3 HR12.out.lt)
        have HB3 := Lib.hid (HB2.out.trans (b3.mono HB2.out.size))
        have hw2 := HR12.out.lt
        have HI4 := Lib.hid (show NI (w3.setCell ⟨w.heap.size, 0, none⟩ (.slice A3 n3 c3)) (w3.setCell ⟨w.heap.size, 0, none⟩ (.slice A3 n3 c3)).heap.size (.slice A3 n3 c3) _ from by
          have k := (ho.1.sames (w' := w3.setCell ⟨w.heap.size, 0, none⟩ (.slice A3 n3 c3)) fun k e => Below.heap_setCell w3 ⟨w.heap.size, 0, none⟩ _ k (by have := (ho.1.blockOf e).1; show k ≠ w.heap.size; omega)).readsR.ni
          simp only [eraE, eraC, cond_true] at k
          rw [map_quart] at k
          exact k)
        clear q0 q1 f0 ho ho' hbk b3 HE HI2 HI3
        have q0 := HR03.out.one
        have f0 := HR03.out.free 0
        unfold cec
        go_wp2
        go_roundw
        case rel => exact ⟨p + 1, _, _, _, by go_num, by omega, HR03.out.set_ 0 _ |> Lib.hid, HI4, Lib.hid (HR13.out.farA (by omega) _), Lib.hid (bset HB3.out (Nat.le_refl _) _), HJ1⟩
        case measure => simp [intOf]; omega
set_option maxHeartbeats 4000000 in
set_option maxRecDepth 100000 in
theorem specEp_any (u : Value) (M : Ce) (r : Bool) (l y : Int) (w : World) (hi : Nat) (h : CeIn w hi u M) (hh : hi ≤ w.heap.size) (hr : r = true ↔ CeOk M) (hy : EpIs M r l y) (hl : CeSz M) :
    Calls Try.prog 40 #[u, .int .i64 l] w fun e w' => e = .returned (.int .i64 y) ∧ Below w.heap.size w w' := by
  obtain ⟨a, rfl, h1⟩ := h
  have HIN := Lib.hid h1
  obtain ⟨A, n, c, rfl, _, _, hn, hA⟩ := h1
  have HSV := Lib.hid (fun (W : World) (b : Below w.heap.size w W) => specCeOk_any (.agg #[.slice A n c]) M r W hi ⟨_, rfl, HIN.out.below b hh⟩ (by have := b.size; omega) hr hl)
  obtain ⟨cs⟩ := M
  unfold cec
  unfold CeSz at hl
  unfold EpIs at hy
  simp only at *
  have r0 := Rw.new w 42 #[.slice A n c]
  have b0 := (Below.refl w.heap.size w).alloc (Nat.le_refl _) (.cells #[.slice A n c] 42)
  have q0 := r0.one
  have R0 := Lib.hid r0
  have B0 := Lib.hid b0
  have HA := Lib.hid hA
  have HN := Lib.hid hn
  have HH := Lib.hid hh
  have HR := Lib.hid hr
  have HYY := Lib.hid hy
  have hnm : (n : Int) ≤ 1048576 := by omega
  clear r0 b0 hA hn hh hr hl hy HIN
  by_cases g : 1 ≤ l ∧ l ≤ 255
  case neg =>
    have hyv : y = -1 := by rcases HYY.out with ⟨_, e⟩ | ⟨e, _⟩; exact e; exact absurd e.2 g
    subst hyv
    have HI := Lib.hid (fun (W : World) => inr_no l 1 255 W g)
    clear HYY HR g HA
    go_enter Try.func40, Try.ntmps40
    go_wp2_with fail
    refine (HSV.out _ B0.out).mono ?_
    rintro e w1 ⟨rfl, b1⟩
    have HB1 := Lib.hid (B0.out.trans (b1.mono (by simp)))
    clear b1 q0 HSV
    cases r with
    | false =>
      go_wp2
      go_ret
      exact ⟨rfl, HB1.out⟩
    | true =>
      go_wp2_with fail
      refine (HI.out _).mono ?_
      rintro e w2 ⟨rfl, rfl⟩
      go_wp2
      go_ret
      exact ⟨rfl, HB1.out⟩
  have HG := Lib.hid g
  have HI := Lib.hid (fun (W : World) => inr_yes l 1 255 W g.1 g.2)
  clear g
  go_enter Try.func40, Try.ntmps40
  go_wp2_with fail
  refine (HSV.out _ B0.out).mono ?_
  rintro e w1 ⟨rfl, b1⟩
  have HB1 := Lib.hid (B0.out.trans (b1.mono (by simp)))
  have R1 := Lib.hid (R0.out.below b1 (by simp))
  clear b1 q0 HSV
  have q0 := R1.out.one
  cases r with
  | false =>
    have hyv : y = -1 := by rcases HYY.out with ⟨_, e⟩ | ⟨e, _⟩; exact e; exact absurd e.1 (by decide)
    subst hyv
    clear HYY HR HA
    go_wp2
    go_ret
    exact ⟨rfl, HB1.out⟩
  | true =>
    obtain ⟨hm, P, hmx, hm0, hm1, hP, rfl⟩ : ∃ hm p, MaxIs cs hm ∧ 0 ≤ hm ∧ hm ≤ 255 ∧ PassIs hm l p ∧ y = (p : Int) := by
      rcases HYY.out with ⟨e, _⟩ | ⟨_, e⟩
      · exact absurd ⟨rfl, HG.out⟩ e
      · exact e
    have HMX := Lib.hid hmx
    have HP := Lib.hid hP
    have HM := Lib.hid (And.intro hm0 hm1)
    have HOK := Lib.hid (HR.out.1 rfl)
    clear HYY HR hmx hP hm0 hm1
    go_wp2_with fail
    refine (HI.out _).mono ?_
    rintro e w2 ⟨rfl, rfl⟩
    go_wp2
    clear HI
    go_loop [5, 6] (fun v i => ∃ k : Nat, ∃ x : Int, k ≤ n ∧ i = .int .i64 k ∧ v = .int .i64 x ∧ 0 ≤ x ∧ x ≤ 255 ∧ Hid ((∀ j, j < k → cs.getD j 0 ≤ x) ∧ (x = 0 ∨ ∃ j, j < k ∧ cs.getD j 0 = x))) (fun _ i => n - (intOf i).toNat)
    case atStart => exact ⟨0, 0, by omega, rfl, rfl, by omega, by omega, Lib.hid ⟨fun j hj => by omega, .inl rfl⟩⟩
    case round =>
      obtain ⟨k, x, hk, rfl, rfl, hx0, hx1, HX⟩ := hrel
      by_cases hlt : k < n
      · have hki : (k : Int) < (n : Int) := by omega
        obtain ⟨pb, po, rfl, hp2, hpx⟩ := HA.out (by omega)
        have e1 := (HB1.out.cell (p := ⟨pb, po + k, none⟩) (by have := HH.out; show pb < _; omega)).trans (hpx k hlt)
        have hyk := HOK.out.2 k (by rw [HN.out]; exact hlt)
        unfold ChOk at hyk
        simp only at hyk
        obtain ⟨z, hz⟩ : ∃ z, z = max x (cs.getD k 0) := ⟨_, rfl⟩
        have HZ := Lib.hid (show (∀ j, j < k + 1 → cs.getD j 0 ≤ z) ∧ (z = 0 ∨ ∃ j, j < k + 1 ∧ cs.getD j 0 = z) from by
          refine ⟨fun j hj => ?_, ?_⟩
          · by_cases e : j = k
            · subst e; omega
            · have := HX.out.1 j (by omega); omega
          · by_cases e : cs.getD k 0 ≤ x
            · have hzx : z = x := by omega
              rcases HX.out.2 with e2 | ⟨j, hj, e2⟩
              · exact .inl (by omega)
              · exact .inr ⟨j, by omega, by omega⟩
            · exact .inr ⟨k, by omega, by omega⟩)
        have hz0 : 0 ≤ z := by omega
        have hz1 : z ≤ 255 := by omega
        have HMM := Lib.hid (fun (W : World) => max00_any x (cs.getD k 0) z W hz)
        clear hpx hp2 HX hz
        generalize cs.getD k 0 = yk at *
        go_wp2_with fail
        refine (HMM.out _).mono ?_
        rintro e w3 ⟨rfl, rfl⟩
        go_wp2
        go_round
        case rel => exact ⟨k + 1, z, by omega, by go_num, rfl, hz0, hz1, HZ⟩
        case measure => simp [intOf]; omega
      · obtain rfl : k = n := by omega
        have hxm : x = hm := MaxIs.uniq (cs := cs) ⟨fun i hi => HX.out.1 i (by rw [HN.out] at hi; exact hi), by rcases HX.out.2 with e | ⟨j, hj, e⟩; exact .inl e; exact .inr ⟨j, by rw [HN.out]; exact hj, e⟩⟩ HMX.out hx0 HM.out.1
        subst hxm
        clear HX HMX HA HOK
        go_wp2
        go_loop [5, 7] (fun v i => ∃ p : Nat, ∃ z : Int, p ≤ 4 ∧ i = .int .i64 (p : Int) ∧ v = .int .i64 z ∧ 0 ≤ z ∧ z ≤ 255 ∧ Hid (z = x / 4 ^ p) ∧ Hid (∀ j : Nat, j < p → l ≤ x / 4 ^ j)) (fun _ i => 6 - (intOf i).toNat)
        case atStart => exact ⟨0, x, by omega, rfl, rfl, hx0, hx1, Lib.hid (by simp), Lib.hid (fun j hj => by omega)⟩
        case round =>
          obtain ⟨p, z, hp4, rfl, rfl, hz0, hz1, HZ, HJ⟩ := hrel
          by_cases hge : l ≤ z
          · have hj1 : ∀ j : Nat, j < p + 1 → l ≤ x / 4 ^ j := fun j hj => by
              by_cases e : j = p
              · subst e; rw [← HZ.out]; exact hge
              · exact HJ.out j (by omega)
            have hp5 := pass_few HM.out.2 HM.out.1 HG.out.1 hj1
            have HJ1 := Lib.hid hj1
            have HZ1 := Lib.hid (show z / 4 = x / 4 ^ (p + 1) by rw [HZ.out]; exact quart x p)
            have ht := tdiv4 hz0
            have hyw : IntKind.i64.wrap (z / 4) = z / 4 := IntWalk.i64_in _ (by omega)
            have hyw2 : IntKind.i64.wrap (z.tdiv 4) = z / 4 := by rw [ht]; exact hyw
            have hgd : decide (z ≥ l) = true := by simpa using hge
            have hza : 0 ≤ z / 4 := by omega
            have hzb : z / 4 ≤ 255 := by omega
            clear hj1 HJ HZ
            go_wp2
            go_round
            case rel => exact ⟨p + 1, z / 4, by omega, by go_num, by simp [*], hza, hzb, HZ1, HJ1⟩
            case measure => simp [intOf]; omega
          · have hpp : P = p := HP.out.uniq ⟨HJ.out, by rw [← HZ.out]; omega⟩
            subst hpp
            have hgd : decide (z ≥ l) = false := by simpa using hge
            go_wp2
            go_ret
            exact ⟨rfl, HB1.out⟩
end Go.Proofs.Ytgamoiagpglcmaa
