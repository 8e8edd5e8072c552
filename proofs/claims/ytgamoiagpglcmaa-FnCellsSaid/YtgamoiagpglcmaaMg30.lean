/- The proof's own lemmas, part 31: WkFc. -/
import Derived.Test.YtgamoiagpglcmaaProg
import Derived.Test.YtgamoiagpglcmaaMg26
import Derived.Test.YtgamoiagpglcmaaMg29
import Derived.Test.YtgamoiagpglcmaaMg14
import Derived.Test.YtgamoiagpglcmaaMg18
import Derived.Test.YtgamoiagpglcmaaMg24
import Derived.Deep.RegionHeld3
import Derived.Deep.Cut
import Derived.Laws.OwnMore
import Derived.Deep.DeepCutAuto
/- The law FnCells, walked: every call by its contract. -/
namespace Go.Proofs.Ytgamoiagpglcmaa
open Go.RowKit
set_option linter.unusedVariables false
set_option linter.unusedSimpArgs false
def sliceLen : Value → Nat
  | .slice _ n _ => n
  | _ => 0
theorem bytes_len {w : World} {B n c : Nat} {A : Option Addr} {L : List Int} (h : BytesOwn w B (.slice A n c) L) : n = L.length := by
  rcases h.shape with ⟨e, rfl⟩ | ⟨g, cap, e, _⟩
  · injection e
  · injection e
theorem bytes_slice {w : World} {B : Nat} {v : Value} {L : List Int} (h : BytesOwn w B v L) : ∃ A n c, v = .slice A n c := by
  rcases h.shape with ⟨rfl, rfl⟩ | ⟨g, cap, rfl, _⟩ <;> exact ⟨_, _, _, rfl⟩
theorem bytes_two (w : World) {B : Nat} (hB : B ≤ w.heap.size) : BytesOwn (w.alloc (.cells #[.int .u8 48, .int .u8 49] 5)) B (.slice (some ⟨w.heap.size, 0, none⟩) 2 2) [48, 49] := by
  have h := World.ownsRow_lit (base := B) (e := 5) (size := 1) w #[.int .u8 48, .int .u8 49] 2 hB (by unfold maxLen; omega) rfl
  exact h
theorem own_at {b n c j : Nat} (e : (Value.slice (some ⟨b, 0, none⟩) n c).ownBlock = some j) : j = b := by
  simp [Value.ownBlock] at e; exact e.symm
set_option maxHeartbeats 8000000 in
set_option maxRecDepth 100000 in
theorem wkFc (a0 : Option Addr) (len0 cap0 : Nat) (z0 : List Int) (w : World) (w0 : IsRow .u8 w a0 len0 cap0 z0) :
    Calls Try.prog 7 #[.slice a0 len0 cap0] w fun e w' => e = .returned (.bool true) ∧ Below w.heap.size w w' := by
  have b0 := w0.len
  by_cases hl : len0 ≤ 400
  case neg =>
    have d0 : decide ((len0 : Int) > 400) = true := by simp; omega
    have d1 : decide ((400 : Int) < (len0 : Int)) = true := by simp; omega
    have d2 : (400 : Int) < (len0 : Int) := by omega
    clear w0 hl
    go_enter Try.func7, Try.ntmps7
    go_wp2
    go_ret
    exact ⟨rfl, Below.refl _ _⟩
  have hc0 := w0.code (by omega)
  have HD := Lib.hid (drawWi_any _ w hc0)
  have HC0 := Lib.hid hc0
  have d0 : decide ((len0 : Int) > 400) = false := by simp; omega
  have d1 : decide ((400 : Int) < (len0 : Int)) = false := by simp; omega
  have d2 : ¬ (400 : Int) < (len0 : Int) := by omega
  clear w0 hc0 b0 hl
  go_enter Try.func7, Try.ntmps7
  go_wp2_with fail
  refine HD.out.mono ?_
  rintro e w1 ⟨u, M, rfl, hI, hlen, b1⟩
  obtain ⟨r, hr⟩ := prop_dec' (CeOk M)
  obtain ⟨lk, hlk⟩ := prop_dec' (Leaks M)
  have hz : CeSz M := by unfold CeSz; omega
  have HWP := Lib.hid (fun (W : World) (b : Below w1.heap.size w1 W) => implWip_any _ M r W _ (hI.below b (Nat.le_refl _)) b.size hr hz)
  have HER := Lib.hid (fun (W : World) (b : Below w1.heap.size w1 W) => implEra15_any _ M r W _ (hI.below b (Nat.le_refl _)) b.size hr hz)
  have HVI := Lib.hid (fun (W : World) (b : Below w1.heap.size w1 W) => implCeOk_any _ M r W _ (hI.below b (Nat.le_refl _)) b.size hr hz)
  have HVS := Lib.hid (fun (W : World) (b : Below w1.heap.size w1 W) => specCeOk_any _ M r W _ (hI.below b (Nat.le_refl _)) b.size hr hz)
  have HLK := Lib.hid (fun (W : World) (b : Below w1.heap.size w1 W) => implLeak_any _ M r lk W _ (hI.below b (Nat.le_refl _)) b.size hr hlk hz)
  obtain ⟨a, rfl, h1⟩ := hI
  obtain ⟨A, m, c, rfl⟩ := h1.slice
  have hm : M.c.length = m := h1.len_.1
  unfold cec at *
  have r0 := Rw.new w1 42 #[.slice A m c]
  have bb := (Below.refl w1.heap.size w1).alloc (Nat.le_refl _) (.cells #[.slice A m c] 42)
  have R0 := Lib.hid r0
  have BB := Lib.hid bb
  have B0 := Lib.hid (b1.trans (bb.mono b1.size))
  have HR := Lib.hid hr
  have HM := Lib.hid hm
  have hm66 : m ≤ 66 := by omega
  have HW1 := Lib.hid b1.size
  clear r0 bb b1 h1 hr hlk hlen hz HD hm
  go_wp2_with fail
  obtain ⟨X, hX⟩ : ∃ X, X = w1.alloc (.cells #[.slice A m c] 42) := ⟨_, rfl⟩
  obtain ⟨gc, hgc⟩ : ∃ gc, gc = w1.heap.size := ⟨_, rfl⟩
  rw [← hX] at R0 BB B0 ⊢
  rw [← hgc] at R0 ⊢
  have HWG := Lib.hid (show w.heap.size ≤ gc by rw [hgc]; exact HW1.out)
  clear hX hgc
  refine (HWP.out _ BB.out).mono ?_
  rintro e w2 ⟨ux, rfl, hox, b2⟩
  obtain ⟨A2, m2, c2, rfl⟩ := hox.agg_
  have BB2 := Lib.hid (BB.out.trans (b2.mono BB.out.size))
  have B2 := Lib.hid (B0.out.trans (b2.mono B0.out.size))
  have R2 := Lib.hid (R0.out.below b2 R0.out.lt)
  have X2 := Lib.hid hox.reads
  clear b2 BB B0 R0 hox
  have by_ := (Below.refl w2.heap.size w2).alloc (Nat.le_refl _) (.cells #[.slice A2 m2 c2] 42)
  have q0 : ∀ o, (w2.alloc o).cell? ⟨gc, 0, none⟩ = some (.slice A m c) := fun o => (R2.out.alloc o).one
  have XR := Lib.hid (Rw.new w2 42 #[.slice A2 m2 c2])
  have BB3 := Lib.hid (BB2.out.trans (by_.mono BB2.out.size))
  have B3 := Lib.hid (B2.out.trans (by_.mono B2.out.size))
  have R3 := Lib.hid (R2.out.below by_ R2.out.lt)
  have X3 := Lib.hid (X2.out.below by_ (Nat.le_refl _))
  clear by_ BB2 B2 R2 X2
  go_wp2_with fail
  obtain ⟨Y, hY⟩ : ∃ Y, Y = w2.alloc (.cells #[.slice A2 m2 c2] 42) := ⟨_, rfl⟩
  obtain ⟨gx, hgx⟩ : ∃ gx, gx = w2.heap.size := ⟨_, rfl⟩
  rw [← hY] at XR BB3 B3 R3 X3 ⊢
  rw [← hgx] at XR X3 ⊢
  have HXY := Lib.hid (show gx ≤ Y.heap.size by rw [hgx, hY]; simp)
  clear hY hgx q0
  refine (HER.out _ BB3.out).mono ?_
  rintro e w3 ⟨ue, rfl, hoe, b3⟩
  obtain ⟨A3, m3, c3, rfl⟩ := hoe.agg_
  have BB4 := Lib.hid (BB3.out.trans (b3.mono BB3.out.size))
  have B4 := Lib.hid (B3.out.trans (b3.mono B3.out.size))
  have R4 := Lib.hid (R3.out.below b3 R3.out.lt)
  have XR4 := Lib.hid (XR.out.below b3 XR.out.lt)
  have X4 := Lib.hid (X3.out.below b3 HXY.out)
  have E4 := Lib.hid hoe.reads
  have HX3 := Lib.hid (Nat.le_trans HXY.out b3.size)
  clear b3 BB3 B3 R3 XR X3 hoe HXY
  have bz := (Below.refl w3.heap.size w3).alloc (Nat.le_refl _) (.cells #[.slice A3 m3 c3] 42)
  obtain ⟨Z, hZ⟩ : ∃ Z, Z = w3.alloc (.cells #[.slice A3 m3 c3] 42) := ⟨_, rfl⟩
  obtain ⟨ge, hge⟩ : ∃ ge, ge = w3.heap.size := ⟨_, rfl⟩
  have q0 : (w3.alloc (.cells #[.slice A3 m3 c3] 42)).cell? ⟨gc, 0, none⟩ = some (.slice A m c) := (R4.out.alloc _).one
  have KP := Lib.hid (show ∀ (W : World) (b : Below Z.heap.size Z W), ((W.cell? ⟨gc, 0, none⟩ = some (.slice A m c) ∧ W.cell? ⟨gx, 0, none⟩ = some (.slice A2 m2 c2) ∧ W.cell? ⟨ge, 0, none⟩ = some (.slice A3 m3 c3)) ∧ Below w1.heap.size w1 W ∧ Below w.heap.size w W) ∧ CeIn W Z.heap.size (.agg #[.slice A2 m2 c2]) (wipE M r) ∧ CeIn W Z.heap.size (.agg #[.slice A3 m3 c3]) (eraE M r) ∧ Rw W gc 42 #[.slice A m c] from by
    intro W b
    have hsz : Z.heap.size = w3.heap.size + 1 := by rw [hZ]; simp
    have bz' : Below w3.heap.size w3 Z := by rw [hZ]; exact bz
    have bW := bz'.trans (b.mono (by omega))
    have e := (Rw.new w3 42 #[.slice A3 m3 c3])
    rw [← hZ, ← hge] at e
    exact ⟨⟨⟨(R4.out.below bW R4.out.lt).one, (XR4.out.below bW XR4.out.lt).one, (e.below b (by rw [hge]; omega)).one⟩, BB4.out.trans (bW.mono BB4.out.size), B4.out.trans (bW.mono B4.out.size)⟩, (X4.out.below bW HX3.out).wide (by have := HX3.out; omega), (E4.out.below bW (Nat.le_refl _)).wide (by omega), R4.out.below bW R4.out.lt⟩)
  have HMX := Lib.hid (show (wipE M r).c.length = m2 by obtain ⟨a, e, h⟩ := X4.out; injection e with e; injection e with e; injection e with e; subst e; exact h.len_.1)
  have HME := Lib.hid (show (eraE M r).c.length = m3 by obtain ⟨a, e, h⟩ := E4.out; injection e with e; injection e with e; injection e with e; subst e; exact h.len_.1)
  clear BB4 B4 R4 XR4 X4 E4 bz HX3
  go_upto_region 6 with fail
  rw [← hZ, ← hge]
  clear hZ hge q0
  have BZ : Below Z.heap.size Z Z := Below.refl _ _
  have kA := (KP.out _ BZ.drew).1.1.1
  go_cut [26] (fun s26 wx => s26 = .bool false ∧ Hid (Below Z.heap.size Z wx))
  case first =>
    go_region_held3 (fun W => W.cell? ⟨gc, 0, none⟩ = some (.slice A m c))
      (first
        | with_reducible exact kA
        | with_reducible exact k9
        | with_reducible exact k8)
      (first
        | (go_at_call 31
           with_reducible refine (HVI.out _ (KP.out _ BZ.drew).1.2.1).mono ?_
           rintro e w8 ⟨rfl, q⟩
           have B8 := BZ.drew.trans q
           have k8 := (KP.out _ B8).1.1.1
           clear q)
        | (go_at_call 32
           with_reducible refine (HVS.out _ (KP.out _ BZ.drew).1.2.1).mono ?_
           rintro e w8 ⟨rfl, q⟩
           have B8 := BZ.drew.trans q
           have k8 := (KP.out _ B8).1.1.1
           clear q)
        | (go_at_call 31
           with_reducible refine (HVI.out _ (KP.out _ B8).1.2.1).mono ?_
           rintro e w9 ⟨rfl, q⟩
           have B9 := B8.trans (q.mono B8.size)
           have k9 := (KP.out _ B9).1.1.1
           clear q)
        | (go_at_call 32
           with_reducible refine (HVS.out _ (KP.out _ B8).1.2.1).mono ?_
           rintro e w9 ⟨rfl, q⟩
           have B9 := B8.trans (q.mono B8.size)
           have k9 := (KP.out _ B9).1.1.1
           clear q))
    all_goals
      go_wp2_with fail
      go_meet
      case rel => exact ⟨by simp, Lib.hid B9⟩
  case rest =>
    obtain ⟨rfl, B5⟩ := hcut
    clear kA BZ
    have q0 := (KP.out _ B5.out).1.1.1
    go_wp2_with fail
    clear q0
    refine (HVS.out _ (KP.out _ B5.out).1.2.1).mono ?_
    rintro e w6 ⟨rfl, q⟩
    have B6 := Lib.hid (B5.out.trans (q.mono B5.out.size))
    clear q B5
    obtain ⟨q0, q1, q2⟩ := (KP.out _ B6.out).1.1
    rcases r with _ | _
    · have hm2 : m2 = 0 := by have := HMX.out; simpa [wipE, Ce.zero] using this.symm
      have hm3 : m3 = 0 := by have := HME.out; simpa [eraE, Ce.zero] using this.symm
      subst hm2
      subst hm3
      have HL0 := Lib.hid (by simpa using HLK.out w6 (KP.out _ B6.out).1.2.1)
      go_wp2_with fail
      refine HL0.out.mono ?_
      rintro e w7 ⟨rfl, q⟩
      have B7 := B6.out.trans (q.mono B6.out.size)
      clear q
      go_wp2
      go_ret
      exact ⟨rfl, (KP.out _ B7).1.2.2⟩
    · obtain rfl : m2 = m := by have := HMX.out; have := HM.out; rw [wip_len] at *; omega
      have hOK := HR.out.1 rfl
      have HOK := Lib.hid hOK
      have hm64 : m2 ≤ 64 := by have := hOK.1; have := HM.out; omega
      have HSX := Lib.hid (fun (W : World) (b : Below Z.heap.size Z W) => implSense_any _ (wipE M true) true W _ (KP.out W b).2.1 b.size ⟨fun _ => wip_ok HOK.out, fun _ => rfl⟩ (by unfold CeSz; rw [wip_len]; have := HM.out; omega))
      have HLX := Lib.hid (fun (W : World) (b : Below Z.heap.size Z W) => show Calls _ _ _ W (fun e w' => e = .returned (.bool false) ∧ Below W.heap.size W w') from implLeak_any _ (wipE M true) true false W _ (KP.out W b).2.1 b.size ⟨fun _ => wip_ok HOK.out, fun _ => rfl⟩ ⟨fun e => absurd e (by decide), fun h => absurd h (wip_calm M)⟩ (by unfold CeSz; rw [wip_len]; have := HM.out; omega))
      obtain ⟨sx, hsx⟩ : ∃ sx, sx = senS (wipE M true) true := ⟨_, rfl⟩
      have hss : sx.size = m2 := by rw [hsx, wip_size]; exact HM.out
      have HS1 := Lib.hid (show ∀ i, i < m2 → byteAt sx i = 49 by rw [hsx]; intro i hi; exact (wip_ones M).2 i (by rw [HM.out]; exact hi))
      rw [← hsx] at HSX
      clear hsx hOK HLK HVI HVS HER HWP
      go_wp2_with fail
      clear q0 q1 q2
      refine (HSX.out _ B6.out).mono ?_
      rintro e w7 ⟨rfl, q⟩
      have B7 := Lib.hid (B6.out.trans (q.mono B6.out.size))
      clear q B6
      obtain ⟨q0, q1, q2⟩ := (KP.out _ B7.out).1.1
      have dmm : ((m2 : Int) != (m2 : Int)) = false := by simp
      have dsm : ((sx.size : Int) != (m2 : Int)) = false := by rw [hss]; simp
      go_wp2_with fail
      clear q0 q1 q2
      refine (HLX.out _ B7.out).mono ?_
      rintro e w8 ⟨rfl, q⟩
      have B8 := Lib.hid (B7.out.trans (q.mono B7.out.size))
      clear q B7
      obtain ⟨q0, q1, q2⟩ := (KP.out _ B8.out).1.1
      have hsI : (sx.size : Int) = (m2 : Int) := by rw [hss]
      go_wp2_with fail
      go_loop [7] (fun i => ∃ k : Nat, i = .int .i64 (k : Int) ∧ k ≤ m2) (fun i => m2 - (intOf i).toNat)
      case atStart => exact ⟨0, rfl, by omega⟩
      case round =>
        obtain ⟨k, rfl, hk⟩ := hrel
        by_cases hlt : k < m2
        · have hks : k < sx.size := by omega
          have hki : (k : Int) < (sx.size : Int) := by omega
          have hkj : (k : Int) < (m2 : Int) := by omega
          have hbk := byteAt_eq hks
          rw [HS1.out k hlt] at hbk
          have d3 : (((sx[k].toNat : Nat) : Int) != 49) = false := by simp; omega
          clear hbk
          go_wp2
          go_round
          case rel => exact ⟨k + 1, by go_num, by omega⟩
          case measure => simp [intOf]; omega
        · obtain rfl : k = m2 := by omega
          have HF5 := Lib.hid (from5_any _ 705 w8 ((HC0.out.keep fun b hb => (KP.out _ B8.out).1.2.2.block b hb).wideC (KP.out _ B8.out).1.2.2.size))
          clear HS1 hss
          go_wp2_with fail
          refine HF5.out.mono ?_
          rintro e w9 ⟨s5, rfl, r5, q⟩
          obtain ⟨gd, hgd⟩ : ∃ gd, gd = w8.heap.size := ⟨_, rfl⟩
          rw [← hgd] at r5 ⊢
          have B9 := Lib.hid (B8.out.trans (q.mono B8.out.size))
          have HGD := Lib.hid (show Z.heap.size ≤ gd by rw [hgd]; exact B8.out.size)
          have R5 := Lib.hid r5
          clear q B8 hgd r5 HF5 q0 q1 q2
          obtain ⟨q0, q1, q2⟩ := (KP.out _ B9.out).1.1
          by_cases hk2 : k < 2
          · have e1 : (k : Int) < 2 := by omega
            go_wp2
            go_ret
            exact ⟨rfl, (KP.out _ B9.out).1.2.2⟩
          · have e1 : ¬ (k : Int) < 2 := by omega
            have hgd9 := R5.out.lt
            have hbb := Below.refl w9.heap.size w9
            have hzz := Nat.le_refl w9.heap.size
            go_wp2_with (refine wpList_make_ints rfl _ _ rfl k rfl rfl (by omega) hbb hzz ?_; intro w10 hown hb10; have HO := Lib.hid hown; have B10 := Lib.hid (B9.out.trans (hb10.mono B9.out.size)); have R10 := Lib.hid (R5.out.below hb10 hgd9); have h910 := hb10.size; clear hown hb10 hbb hzz)
            obtain ⟨T0, hT0⟩ : ∃ T, T = (w10.alloc (.cells #[.slice (some ⟨w9.heap.size, 0, none⟩) k k] 42)).alloc (.cells #[.int .u8 48, .int .u8 49] 5) := ⟨_, rfl⟩
            obtain ⟨gb, hgb⟩ : ∃ g, g = w10.heap.size := ⟨_, rfl⟩
            obtain ⟨gz, hgz⟩ : ∃ g, g = w9.heap.size := ⟨_, rfl⟩
            have bt : Below w10.heap.size w10 T0 := by rw [hT0]; exact ((Below.refl _ w10).alloc (Nat.le_refl _) _).alloc (by simp) _
            have hzT : T0.heap.size = gb + 2 := by rw [hT0, hgb]; simp
            have HT1 := Lib.hid (show BytesOwn T0 (gb + 1) (.slice (some ⟨gb + 1, 0, none⟩) 2 2) [48, 49] by
              have e := bytes_two (w10.alloc (.cells #[.slice (some ⟨w9.heap.size, 0, none⟩) k k] 42)) (Nat.le_refl _)
              rw [← hT0] at e
              simpa [hgb] using e)
            have HT2 := Lib.hid (show Rw T0 gb 42 #[.slice (some ⟨gz, 0, none⟩) k k] by rw [hT0, hgb, hgz]; exact (Rw.new w10 _ _).alloc _)
            have HT3 := Lib.hid (show IntsOwn T0 gz (.slice (some ⟨gz, 0, none⟩) k k) (List.replicate k 0) by rw [hgz]; exact HO.out.later bt (Nat.le_refl _))
            have HT4 := Lib.hid (R10.out.below bt R10.out.lt)
            have HT5 := Lib.hid (B10.out.trans (bt.mono B10.out.size))
            have hdz : gd < gz := by rw [hgz]; exact hgd9
            have hzb : gz ≤ gb := by rw [hgz, hgb]; exact h910
            rw [← hT0, ← hgb, ← hgz]
            clear hT0 hgb hgz bt HO B10 R10 h910 hgd9 q0 q1 q2 B9 R5
            go_loopw [10] (fun v10 wr => ∃ (L : List Int) (A9 : Option Addr) (n9 c9 : Nat) (s : Int), v10 = .slice A9 n9 c9 ∧ L.length ≤ k ∧ Hid (BytesOwn wr (gb + 1) (.slice A9 n9 c9) L) ∧ Hid (Bit2 L ∧ L.getD 0 0 = 48 ∧ L.getD 1 0 = 49 ∧ 2 ≤ L.length) ∧ Hid (Rw wr gd 115 #[.int .u64 s]) ∧ Hid (Rw wr gb 42 #[.slice (some ⟨gz, 0, none⟩) k k]) ∧ Hid (IntsOwn wr gz (.slice (some ⟨gz, 0, none⟩) k k) (List.replicate k 0)) ∧ Hid (Below Z.heap.size Z wr) ∧ Hid (gb + 1 ≤ wr.heap.size)) (fun v10 _ => k - sliceLen v10)
            case atStart => exact ⟨[48, 49], _, _, _, _, rfl, by simp; omega, HT1, Lib.hid (show Bit2 [48, 49] ∧ _ from ⟨fun i hi => by rcases i with _ | _ | i <;> first | exact .inl rfl | exact .inr rfl | (simp at hi; omega), rfl, rfl, by simp⟩), HT4, HT2, HT3, HT5, Lib.hid (by omega)⟩
            case round =>
              clear HT1 HT2 HT3 HT4 HT5 hzT
              obtain ⟨L, A9, n9, c9, s, rfl, hLk, T1, TL, T4, T2, T3, T5, T6⟩ := hrel
              obtain rfl := bytes_len T1.out
              obtain ⟨q0, q1, q2⟩ := (KP.out _ T5.out).1.1
              by_cases hlk : L.length < k
              · have hlI : (L.length : Int) < (k : Int) := by omega
                go_wp2_with fail
                refine (below5_any gd s 2 wr T4.out (by omega) (by omega)).mono ?_
                rintro e w11 ⟨x, s1, rfl, hx0, hx1, r1, g1⟩
                have U1 := Lib.hid (T1.out.grown g1 (by omega))
                have U2 := Lib.hid (T2.out.grown g1 (by omega))
                have U3 := Lib.hid (T3.out.sames fun j e => grown_any g1 (T3.out.blockOf e).2 (by have := own_at e; omega))
                have U4 := Lib.hid r1
                have U5 := Lib.hid (T5.out.trans ((Below.refl Z.heap.size wr).grown g1 T5.out.size (fun j hj => by injection hj with hj; have := HGD.out; omega)))
                have U6 := Lib.hid (show gb + 1 ≤ w11.heap.size by have := g1.size; have := T6.out; omega)
                have hU1 := U1.out
                have hbU := Below.refl (gb + 1) w11
                have hU6 := U6.out
                have HX := Lib.hid (show x = 0 ∨ x = 1 by omega)
                clear r1 g1 T1 T2 T3 T4 T5 T6 q0 q1 q2 hx0 hx1
                rcases HX.out with rfl | rfl
                all_goals
                  go_wp2_with (at_builtin; refine wpList_append_byte rfl _ _ rfl _ _ rfl hU1 hbU hU6 _ _ rfl (by omega) ?_; intro v' w12 ho2 hb2; have HO2 := Lib.hid ho2; have HB2 := Lib.hid hb2; clear ho2 hb2 hU1 hbU hU6)
                  obtain ⟨A8, n8, c8, rfl⟩ := bytes_slice HO2.out
                  have hn8 := bytes_len HO2.out
                  go_roundw
                  case rel =>
                    refine ⟨_, A8, n8, c8, _, rfl, by simp; omega, HO2, Lib.hid ⟨bit2_app TL.out.1 (by omega), ?_, ?_, ?_⟩, Lib.hid (U4.out.below HB2.out (by omega)), Lib.hid (U2.out.below HB2.out (by omega)), Lib.hid (U3.out.sames fun j e => HB2.out.block j (by have := own_at e; omega)), Lib.hid (U5.out.trans (HB2.out.mono (by have := HGD.out; omega))), Lib.hid (by have := HB2.out.size; have := U6.out; omega)⟩
                    · have := TL.out; rw [List.getD_eq_getElem?_getD, List.getElem?_append_left (by omega), ← List.getD_eq_getElem?_getD]; exact this.2.1
                    · have := TL.out; rw [List.getD_eq_getElem?_getD, List.getElem?_append_left (by omega), ← List.getD_eq_getElem?_getD]; exact this.2.2.1
                    · have := TL.out; simp; omega
                  case measure => simp at hn8; simp [sliceLen]; omega
              · obtain rfl : k = L.length := by omega
                have hcv := bytes_str T1.out
                have q3 := T2.out.one
                have HPR := Lib.hid (cePost_spell (implPrg_any (.agg #[.slice (some ⟨gz, 0, none⟩) L.length L.length]) (zeroC L.length) (strOfNums L) true true (prgC (zeroC L.length) (strOfNums L)) 0 wr wr.heap.size ⟨_, rfl, IO.reads ⟨T3.out, fun j e => (T3.out.blockOf e).2⟩⟩ (Nat.le_refl _) ⟨fun _ => zero_ok (by omega), fun _ => rfl⟩ ⟨fun _ => bits_nums TL.out.1, fun _ => rfl⟩ (.inr (.inr ⟨⟨rfl, rfl⟩, by rw [sz_nums]; simp [zeroC], rfl, rfl⟩)) (by rw [sz_nums]; omega) (by unfold CeSz; simp [zeroC]; omega)))
                go_wp2_with fail
                refine HPR.out.mono ?_
                rintro e w13 ⟨A4, n4, c4, rfl, ho, q⟩
                have hL64 : L.length ≤ 64 := hm64
                obtain ⟨Pm, hPm⟩ : ∃ P, P = prgC (zeroC L.length) (strOfNums L) := ⟨_, rfl⟩
                obtain ⟨P0, hP0⟩ : ∃ P, P = w13.alloc (.cells #[.slice A4 n4 c4] 42) := ⟨_, rfl⟩
                obtain ⟨gp, hgp⟩ : ∃ g, g = w13.heap.size := ⟨_, rfl⟩
                have PC := Lib.hid (show CeOk Pm ∧ Pm.c.length = L.length ∧ Leaks (eraE Pm true) from by rw [hPm]; exact ⟨prgZ_ok TL.out.1 hL64, prgZ_len L, prgZ_leaks TL.out.1 TL.out.2.1 TL.out.2.2.1 TL.out.2.2.2⟩)
                have PS := Lib.hid (show senS Pm true = strOfNums L by rw [hPm]; exact prgZ_sense TL.out.1)
                rw [← hPm] at ho
                have bp : Below w13.heap.size w13 P0 := by rw [hP0]; exact (Below.refl _ w13).alloc (Nat.le_refl _) _
                have PK := Lib.hid (show ∀ (W : World) (b : Below P0.heap.size P0 W), W.cell? ⟨gp, 0, none⟩ = some (.slice A4 n4 c4) ∧ CeIn W W.heap.size (.agg #[.slice A4 n4 c4]) Pm ∧ Below w.heap.size w W ∧ (Go.convert 40 9 (.slice A9 L.length c9)).run Try.prog W = .ok (.string (strOfNums L)) W from by
                  intro W b
                  have hsz : P0.heap.size = w13.heap.size + 1 := by rw [hP0]; simp
                  have e := Rw.new w13 42 #[.slice A4 n4 c4]
                  rw [← hP0, ← hgp] at e
                  have b2 := bp.trans (b.mono (by omega))
                  exact ⟨(e.below b (by rw [hgp]; omega)).one, ⟨_, rfl, ((IO.reads ho).below b2 (Nat.le_refl _)).wide b2.size⟩, ((KP.out _ T5.out).1.2.2.trans (q.mono (KP.out _ T5.out).1.2.2.size)).trans (b2.mono (by have := (KP.out _ T5.out).1.2.2.size; have := q.size; omega)), bytes_str ((T1.out.laterB q (Nat.le_refl _)).laterB b2 (Nat.le_refl _))⟩)
                clear hPm bp ho q T1 T2 T3 T4 T5 T6 TL HPR hcv q0 q1 q2 q3
                generalize strOfNums L = st at *
                have HSE := Lib.hid (fun (W : World) (b : Below P0.heap.size P0 W) => show Calls Try.prog 34 #[.agg #[.slice A4 n4 c4]] W (fun e w' => e = .returned (.string st) ∧ Below W.heap.size W w') from by
                  have h := implSense_any (.agg #[.slice A4 n4 c4]) Pm true W W.heap.size (PK.out W b).2.1 (Nat.le_refl _) ⟨fun _ => PC.out.1, fun _ => rfl⟩ (by unfold CeSz; have := PC.out.2.1; omega)
                  rw [PS.out] at h; exact h)
                have HEE := Lib.hid (fun (W : World) (b : Below P0.heap.size P0 W) => implEra15_any (.agg #[.slice A4 n4 c4]) Pm true W W.heap.size (PK.out W b).2.1 (Nat.le_refl _) ⟨fun _ => PC.out.1, fun _ => rfl⟩ (by unfold CeSz; have := PC.out.2.1; omega))
                have HWW := Lib.hid (fun (W : World) (b : Below P0.heap.size P0 W) => implWip_any (.agg #[.slice A4 n4 c4]) Pm true W W.heap.size (PK.out W b).2.1 (Nat.le_refl _) ⟨fun _ => PC.out.1, fun _ => rfl⟩ (by unfold CeSz; have := PC.out.2.1; omega))
                have HLE := Lib.hid (fun (W : World) (u : Value) (h : CeIn W W.heap.size u (eraE Pm true)) => show Calls Try.prog 33 #[u] W (fun e w' => e = .returned (.bool true) ∧ Below W.heap.size W w') from implLeak_any u (eraE Pm true) true true W W.heap.size h (Nat.le_refl _) ⟨fun _ => eraE_ok PC.out.1, fun _ => rfl⟩ ⟨fun _ => PC.out.2.2, fun _ => rfl⟩ (eraE_sz (by unfold CeSz; have := PC.out.2.1; omega)))
                have HLW := Lib.hid (fun (W : World) (u : Value) (h : CeIn W W.heap.size u (wipE Pm true)) => show Calls Try.prog 33 #[u] W (fun e w' => e = .returned (.bool false) ∧ Below W.heap.size W w') from implLeak_any u (wipE Pm true) true false W W.heap.size h (Nat.le_refl _) ⟨fun _ => wip_ok PC.out.1, fun _ => rfl⟩ ⟨fun e => absurd e (by decide), fun h => absurd h (wip_calm Pm)⟩ (wipE_sz (by unfold CeSz; have := PC.out.2.1; omega)))
                have BP : Below P0.heap.size P0 P0.drew := (Below.refl _ _).drew
                have kA := And.intro (PK.out _ BP).1 (PK.out _ BP).2.2.2
                go_upto_region 26 with fail
                rw [← hP0, ← hgp]
                clear hP0 hgp
                go_region_held3 (fun W => W.cell? ⟨gp, 0, none⟩ = some (.slice A4 n4 c4) ∧ (Go.convert 40 9 (.slice A9 L.length c9)).run Try.prog W = .ok (.string st) W)
                  (first
                    | with_reducible exact kA
                    | with_reducible exact k14
                    | with_reducible exact k15
                    | with_reducible exact k16
                    | with_reducible exact k17
                    | with_reducible exact k18)
                  (first
                    | (go_at_call 34
                       with_reducible refine (HSE.out _ BP).mono ?_
                       rintro e w14 ⟨rfl, q⟩
                       have B14 := BP.trans q
                       have k14 := And.intro (PK.out _ B14).1 (PK.out _ B14).2.2.2
                       clear q)
                    | (go_at_call 30
                       with_reducible refine (HEE.out _ B14).mono ?_
                       rintro e w15 ⟨u15, rfl, ho, q⟩
                       have B15 := B14.trans (q.mono B14.size)
                       have O15 := Lib.hid ho.reads
                       have k15 := And.intro (PK.out _ B15).1 (PK.out _ B15).2.2.2
                       clear q ho)
                    | (go_at_call 33
                       with_reducible refine (HLE.out _ _ O15.out).mono ?_
                       rintro e w16 ⟨rfl, q⟩
                       have B16 := B15.trans (q.mono B15.size)
                       have k16 := And.intro (PK.out _ B16).1 (PK.out _ B16).2.2.2
                       clear q)
                    | (go_at_call 29
                       with_reducible refine (HWW.out _ B16).mono ?_
                       rintro e w17 ⟨u17, rfl, ho, q⟩
                       have B17 := B16.trans (q.mono B16.size)
                       have O17 := Lib.hid ho.reads
                       have k17 := And.intro (PK.out _ B17).1 (PK.out _ B17).2.2.2
                       clear q ho)
                    | (go_at_call 33
                       with_reducible refine (HLW.out _ _ O17.out).mono ?_
                       rintro e w18 ⟨rfl, q⟩
                       have B18 := B17.trans (q.mono B17.size)
                       have k18 := And.intro (PK.out _ B18).1 (PK.out _ B18).2.2.2
                       clear q))
                all_goals
                  go_wp2
                  go_ret
                  exact ⟨rfl, (PK.out _ B18).2.2.1⟩
end Go.Proofs.Ytgamoiagpglcmaa
