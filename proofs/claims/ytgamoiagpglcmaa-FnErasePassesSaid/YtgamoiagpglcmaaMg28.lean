/- The proof's own lemmas, part 29: WkEp. -/
import Derived.Test.YtgamoiagpglcmaaProg
import Derived.Test.YtgamoiagpglcmaaMg26
import Derived.Test.YtgamoiagpglcmaaMg27
import Derived.Test.YtgamoiagpglcmaaMg18
/- The law FnErasePasses, walked: every call by its contract. -/
namespace Go.Proofs.Ytgamoiagpglcmaa
open Go.RowKit
set_option linter.unusedVariables false
set_option linter.unusedSimpArgs false
def quL (cs : List Int) (k : Nat) : List Int := cs.map (fun x => x / 4 ^ k)
theorem quL_length (cs : List Int) (k : Nat) : (quL cs k).length = cs.length := by simp [quL]
theorem quL_at (cs : List Int) (k i : Nat) (h : i < cs.length) : (quL cs k).getD i 0 = cs.getD i 0 / 4 ^ k := getD_mapQ cs k i h
theorem quL_zero (cs : List Int) : quL cs 0 = cs := by simp [quL]
theorem quL_succ (cs : List Int) (k : Nat) : (eraE ⟨quL cs k⟩ true).c = quL cs (k + 1) := map_quart cs k
theorem quL_ok {cs : List Int} (h : CeOk ⟨cs⟩) (k : Nat) : CeOk ⟨quL cs k⟩ := by
  refine ⟨by rw [quL_length]; exact h.1, fun i hi => ?_⟩
  have hi' : i < cs.length := by rw [quL_length] at hi; exact hi
  have a := h.2 i hi'
  unfold ChOk at *
  simp only at *
  rw [quL_at cs k i hi']
  have b := quart_le (cs.getD i 0) a.1 k
  omega
theorem quL_high {cs : List Int} {h l hh : Int} {p k : Nat} (m : MaxIs cs h) (hl : 1 ≤ l) (hp : PassIs h l p) (hk : k < p) (hM : ∀ t, t < cs.length → (quL cs k).getD t 0 ≤ hh) : ¬ hh < l := by
  obtain ⟨i, hi, hq⟩ := (m.some_ge hl k).2 (hp.1 k hk)
  have := hM i hi
  rw [quL_at cs k i hi] at this
  omega
theorem quL_low {cs : List Int} {h l : Int} {p i : Nat} (m : MaxIs cs h) (hl : 1 ≤ l) (hp : PassIs h l p) (hi : i < cs.length) : (quL cs p).getD i 0 < l := by
  rw [quL_at cs p i hi]
  rcases (by omega : cs.getD i 0 / 4 ^ p < l ∨ l ≤ cs.getD i 0 / 4 ^ p) with e | e
  · exact e
  · have a := (m.some_ge hl p).1 ⟨i, hi, e⟩
    have b := hp.2
    omega
set_option maxHeartbeats 8000000 in
set_option maxRecDepth 100000 in
theorem wkEp (a0 : Option Addr) (len0 cap0 : Nat) (z0 : List Int) (w : World) (w0 : IsRow .u8 w a0 len0 cap0 z0) :
    Calls Try.prog 8 #[.slice a0 len0 cap0] w fun e w' => e = .returned (.bool true) ∧ Below w.heap.size w w' := by
  have b0 := w0.len
  by_cases hl : len0 ≤ 400
  case neg =>
    have d0 : decide ((len0 : Int) > 400) = true := by simp; omega
    have d1 : decide ((400 : Int) < (len0 : Int)) = true := by simp; omega
    have d2 : (400 : Int) < (len0 : Int) := by omega
    clear w0 hl
    go_enter Try.func8, Try.ntmps8
    go_wp2
    go_ret
    exact ⟨rfl, Below.refl _ _⟩
  have hc0 := w0.code (by omega)
  have HD := Lib.hid (drawEp_any _ w hc0)
  have d0 : decide ((len0 : Int) > 400) = false := by simp; omega
  have d1 : decide ((400 : Int) < (len0 : Int)) = false := by simp; omega
  have d2 : ¬ (400 : Int) < (len0 : Int) := by omega
  clear w0 hc0 b0 hl
  go_enter Try.func8, Try.ntmps8
  go_wp2_with fail
  refine HD.out.mono ?_
  rintro e w1 ⟨u, M, l, rfl, hI, hlen, ⟨hl0, hl1⟩, b1⟩
  obtain ⟨r, hr⟩ := prop_dec' (CeOk M)
  obtain ⟨y, hy⟩ := epIs M r hr l
  have hz : CeSz M := by unfold CeSz; omega
  have HII := Lib.hid (fun (W : World) (b : Below w1.heap.size w1 W) => implEp_any _ M r l y W _ (hI.below b (Nat.le_refl _)) b.size hr hy hz)
  have HSS := Lib.hid (fun (W : World) (b : Below w1.heap.size w1 W) => specEp_any _ M r l y W _ (hI.below b (Nat.le_refl _)) b.size hr hy hz)
  obtain ⟨cs⟩ := M
  obtain ⟨a, rfl, h1⟩ := hI
  obtain ⟨A, m, c, rfl⟩ := h1.slice
  unfold cec at *
  simp only at *
  have r0 := Rw.new w1 42 #[.slice A m c]
  have bb := (Below.refl w1.heap.size w1).alloc (Nat.le_refl _) (.cells #[.slice A m c] 42)
  have q0 := r0.one
  have R0 := Lib.hid r0
  have BB := Lib.hid bb
  have B0 := Lib.hid (b1.trans (bb.mono b1.size))
  have N1 := Lib.hid h1
  have HY := Lib.hid hy
  have HR := Lib.hid hr
  have HL := Lib.hid (show cs.length ≤ 66 from hlen)
  have hyy : (y != y) = false := by simp
  have HW1 := Lib.hid b1.size
  clear r0 bb b1 h1 hy hr hlen hz HD
  go_wp2_with fail
  obtain ⟨X, hX⟩ : ∃ X, X = w1.alloc (.cells #[.slice A m c] 42) := ⟨_, rfl⟩
  have hzX : X.heap.size = w1.heap.size + 1 := by rw [hX]; simp
  obtain ⟨gc, hgc⟩ : ∃ gc, gc = w1.heap.size := ⟨_, rfl⟩
  have HGC := Lib.hid hgc
  rw [← hX] at R0 BB B0 q0 ⊢
  rw [← hgc] at R0 q0 ⊢
  have HWG := Lib.hid (show w.heap.size ≤ gc from by rw [hgc]; exact HW1.out)
  clear hX hgc hzX
  refine (HII.out _ BB.out).mono ?_
  rintro e w2 ⟨rfl, b2⟩
  have BB2 := Lib.hid (BB.out.trans (b2.mono BB.out.size))
  have B2 := Lib.hid (B0.out.trans (b2.mono B0.out.size))
  have R2 := Lib.hid (R0.out.below b2 R0.out.lt)
  clear b2 BB B0 R0 q0
  have q0 := R2.out.one
  go_wp2_with fail
  refine (HSS.out _ BB2.out).mono ?_
  rintro e w3 ⟨rfl, b2⟩
  have B3 := Lib.hid (B2.out.trans (b2.mono B2.out.size))
  have R3 := Lib.hid (R2.out.below b2 R2.out.lt)
  have N3 := Lib.hid (N1.out.below (BB2.out.trans (b2.mono BB2.out.size)) (Nat.le_refl _))
  have Z3 := Lib.hid (show w1.heap.size ≤ w3.heap.size from (BB2.out.trans (b2.mono BB2.out.size)).size)
  clear b2 BB2 B2 R2 q0 N1
  have q0 := R3.out.one
  have hLn := N3.out.len_.1
  have HLN := Lib.hid hLn
  rcases HY.out with ⟨hn, rfl⟩ | ⟨hg, h, p, hm, h0, h1, hp, rfl⟩
  · go_wp2_with fail
    go_loop [6] (fun i => i = .int .i64 0) (fun _ => 0)
    case atStart => rfl
    case round =>
      obtain rfl := hrel
      go_wp2_with fail
      go_loop [9] (fun i => i = .int .i64 0) (fun _ => 0)
      case atStart => rfl
      case round =>
        obtain rfl := hrel
        rcases Nat.eq_zero_or_pos m with hm0 | hm0
        · subst hm0
          go_wp2
          go_ret
          exact ⟨rfl, B3.out⟩
        · have e1 : (0 : Int) < (m : Int) := by omega
          go_wp2
          go_ret
          exact ⟨rfl, B3.out⟩
  · obtain ⟨rfl, hl1', hl2'⟩ := hg
    have HOK := Lib.hid (fun (k : Nat) => quL_ok (HR.out.1 rfl) k)
    have hp4 := pass_few h1 h0 hl1' hp.1
    have HHI := Lib.hid (fun (k : Nat) (hh : Int) (hk : k < p) (hM : ∀ t, t < cs.length → (quL cs k).getD t 0 ≤ hh) => quL_high hm hl1' hp hk hM)
    have HLO := Lib.hid (fun (i : Nat) (hi : i < cs.length) => quL_low hm hl1' hp hi)
    have NX := Lib.hid (show NI w3 w3.heap.size (.slice A m c) (quL cs 0) by rw [quL_zero]; exact N3.out.wide Z3.out)
    clear hm hp N3 hLn HLN Z3 HY HR HII HSS
    go_wp2_with fail
    clear q0
    go_loopw [6, 7, 8] (fun i6 i7 i8 wr => ∃ (k : Nat) (A : Option Addr) (m c : Nat), i6 = .int .i64 (k : Int) ∧ k ≤ p ∧ Hid (Rw wr gc 42 #[.slice A m c]) ∧ Hid (NI wr wr.heap.size (.slice A m c) (quL cs k)) ∧ Hid (Below w.heap.size w wr)) (fun i _ _ _ => p - (intOf i).toNat)
    case atStart => exact ⟨0, A, m, c, rfl, by omega, R3, NX, B3⟩
    case round =>
      clear R3 NX B3
      obtain ⟨k, A1, m1, c1, rfl, hk, R4, N4, B4⟩ := hrel
      obtain ⟨wo, hwo⟩ : ∃ wo, wo = wr := ⟨_, rfl⟩
      subst hwo
      have q0 := R4.out.one
      obtain ⟨A2, n2, c2, e2, _, _, hn2, hA2⟩ := id N4.out
      injection e2 with e2 e3 e4
      subst e2; subst e3; subst e4
      rw [quL_length] at hn2
      have HA := Lib.hid hA2
      have HN := Lib.hid hn2
      have hm66 : m1 ≤ 66 := by have := HL.out; omega
      clear hA2 hn2
      by_cases hkp : k < p
      · have hki : (k : Int) < (p : Int) := by omega
        go_wp2_with fail
        go_loop [7, 8] (fun h7 i8 => ∃ (j : Nat) (hh : Int), h7 = .int .i64 hh ∧ i8 = .int .i64 (j : Int) ∧ j ≤ m1 ∧ 0 ≤ hh ∧ Hid (∀ t, t < j → (quL cs k).getD t 0 ≤ hh)) (fun _ i => m1 - (intOf i).toNat)
        case atStart => exact ⟨0, 0, rfl, rfl, by omega, by omega, Lib.hid (fun t h => by omega)⟩
        case round =>
          obtain ⟨j, hh, rfl, rfl, hj, hh0, HT⟩ := hrel
          by_cases hjm : j < m1
          · obtain ⟨pb, po, rfl, hpb, hpx⟩ := HA.out (by omega)
            have e1 := hpx j hjm
            have hji : (j : Int) < (m1 : Int) := by omega
            obtain ⟨x, hx⟩ : ∃ x, x = (quL cs k).getD j 0 := ⟨_, rfl⟩
            have HX := Lib.hid hx
            rw [← hx] at e1
            clear hpx hx HA
            go_wp2
            go_round
            case rel => exact ⟨j + 1, max hh x, by first | rfl | (congr 1; omega), by go_num, by omega, by omega, Lib.hid (fun t ht => by
                rcases (by omega : t < j ∨ t = j) with h | rfl
                · have := HT.out t h; omega
                · rw [← HX.out]; omega)⟩
            case measure => simp [intOf]; omega
          · obtain rfl : j = m1 := by omega
            have hge : ¬ hh < l := by have := HHI.out k hh hkp (fun t ht => HT.out t (by rw [← HN.out]; exact ht)); omega
            have dge : decide (hh < l) = false := by simp; omega
            have HER := Lib.hid (implEra15_any (.agg #[.slice A1 j c1]) ⟨quL cs k⟩ true wo wo.heap.size ⟨_, rfl, N4.out⟩ (Nat.le_refl _) ⟨fun _ => HOK.out k, fun _ => rfl⟩ (by unfold CeSz; rw [quL_length]; have := HL.out; omega))
            clear HT
            go_wp2_with fail
            refine HER.out.mono ?_
            rintro e w5 ⟨u5, rfl, ho, b5⟩
            obtain ⟨A5, n5, c5, rfl⟩ := ho.agg_
            have R5 := Lib.hid (R4.out.below b5 R4.out.lt)
            have HO := Lib.hid ho
            have B5 := Lib.hid (B4.out.trans (b5.mono B4.out.size))
            have f5 := R5.out.free 0
            have q5 := R5.out.one
            have hgc5 := R4.out.lt
            clear ho b5 q0 HER
            go_wp2
            go_roundw
            case rel =>
              refine ⟨k + 1, A5, n5, c5, by go_num, by omega, Lib.hid (R5.out.set_ 0 _), ?_, Lib.hid (bset B5.out HWG.out _)⟩
              obtain ⟨a9, e9, h9⟩ := (CeOwn.same HO.out (w' := w5.setCell ⟨gc, 0, none⟩ (.slice A5 n5 c5)) fun q h1 h2 => Below.heap_setCell w5 ⟨gc, 0, none⟩ _ q (by show q ≠ gc; omega)).reads
              injection e9 with e9
              have e8 : Value.slice A5 n5 c5 = a9 := by simpa [cec] using e9
              subst e8
              rw [← quL_succ]
              exact h9.wide (by simp)
            case measure => simp [intOf]; omega
      · obtain rfl : k = p := by omega
        have hp0 : (0 : Int) ≤ (k : Int) := by omega
        have dp0 : decide ((k : Int) ≥ 0) = true := by simp
        go_wp2_with fail
        go_loop [9] (fun i9 => ∃ j : Nat, i9 = .int .i64 (j : Int) ∧ j ≤ m1) (fun i => m1 - (intOf i).toNat)
        case atStart => exact ⟨0, rfl, by omega⟩
        case round =>
          obtain ⟨j, rfl, hj⟩ := hrel
          by_cases hjm : j < m1
          · obtain ⟨pb, po, rfl, hpb, hpx⟩ := HA.out (by omega)
            have e1 := hpx j hjm
            have hji : (j : Int) < (m1 : Int) := by omega
            have hlo := HLO.out j (by rw [HN.out]; exact hjm)
            obtain ⟨x, hx⟩ : ∃ x, x = (quL cs k).getD j 0 := ⟨_, rfl⟩
            rw [← hx] at e1 hlo
            have hge : ¬ l ≤ x := by omega
            have dge : decide (x ≥ l) = false := by simp; omega
            clear hpx hx HA
            go_wp2
            go_round
            case rel => exact ⟨j + 1, by go_num, by omega⟩
            case measure => simp [intOf]; omega
          · obtain rfl : j = m1 := by omega
            go_wp2
            go_ret
            exact ⟨rfl, B4.out⟩
end Go.Proofs.Ytgamoiagpglcmaa
