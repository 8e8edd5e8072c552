/- The proof's own lemmas, part 7: WkTe. -/
import Derived.Test.YteigdjocjcjkiaaMg5
import Derived.Deep.DeepCutAuto
import Derived.Deep.RegionHeld3
/- An interrupted erase: the walk. -/
namespace Go.Proofs.Yteigdjocjcjkiaa
open Go.RowKit
set_option linter.unusedVariables false
/-- A block's pages, as they lie in memory. -/
theorem FlIn.pages {w : World} {lo hi : Nat} {F : Fl} {d b p fu ke op : Int} {off : Bool} {A : Option Addr} {n c : Nat} (h : FlIn w lo hi (.agg #[.int .i64 d, .int .i64 b, .int .i64 p, .slice A n c, .int .i64 fu, .int .i64 ke, .bool off, .int .i64 op]) F) :
    ∀ k, k < n → ∃ g o Ap m cp, A = some ⟨g, o, none⟩ ∧ g < hi ∧ w.cell? ⟨g, o + k * 4 + 3, none⟩ = some (.slice Ap m cp) ∧ (F.blk k).pg.length = m ∧
      ∀ t, t < m → ∃ b' off', Ap = some ⟨b', off', none⟩ ∧ b' < hi ∧ w.cell? ⟨b', off' + t, none⟩ = some (.string ((F.blk k).pg.getD t ByteArray.empty)) := by
  obtain ⟨u, e, A', n', c', rfl, h1, h2, h3, h4⟩ := h
  unfold flc at e
  injection e with e
  simp only [Array.mk.injEq, List.cons.injEq, Value.slice.injEq] at e
  obtain ⟨-, -, -, ⟨rfl, rfl, rfl⟩, -⟩ := e
  intro k hk
  obtain ⟨g, o, rfl, _, h5, h6⟩ := h4 (by omega)
  obtain ⟨pv, h7, Ap, m, cp, rfl, q1, q2, q3, q4, q5⟩ := h6 k hk
  refine ⟨g, o, Ap, m, cp, rfl, h5, h7.2.2.2, q3, fun t ht => ?_⟩
  obtain ⟨b', off', rfl, _, q6, q7⟩ := q5 (by omega)
  exact ⟨b', off', rfl, q6, q7 t ht⟩
set_option maxHeartbeats 4000000 in
set_option maxRecDepth 100000 in
theorem te_any (a0 : Option Addr) (len0 cap0 : Nat) (z0 : List Int) (a1 : Option Addr) (len1 cap1 : Nat) (z1 : List Int) (w : World) (w0 : IsRow .u8 w a0 len0 cap0 z0) (w1 : IsRow .u8 w a1 len1 cap1 z1) :
    Calls Try.prog 7 #[.slice a0 len0 cap0, .slice a1 len1 cap1] w fun e w' => e = .returned (.bool true) ∧ Below w.heap.size w w' := by
  have b0 := w0.len
  have b1 := w1.len
  by_cases hl : len0 ≤ 1048576 ∧ len1 ≤ 1048576
  · obtain ⟨hl0, hl1⟩ := hl
    have hc0 := w0.code hl0
    have hc1 := w1.code hl1
    have HL := Lib.hid (show Calls Try.prog 19 #[.slice a0 len0 cap0, .slice a1 len1 cap1] w fun e w' => e = .returned (.bool false) ∧ w = w' from long_no _ _ _ _ _ _ _ hl0 hl1)
    have HD := Lib.hid (drawEr_any w _ hc0)
    have HA := Lib.hid (fun (W : World) (hb : Below w.heap.size w W) => b10At_any w.heap.size (.slice a1 len1 cap1) 0 20 W (hc1.keep hb.block) (by omega) (by omega) (by omega))
    clear w0 w1 hc0 hc1 hl0 hl1 b0 b1
    go_enter Try.func7, Try.ntmps7
    go_wp2_with fail
    refine HL.out.mono ?_
    rintro e w' ⟨rfl, rfl⟩
    go_wp2_with fail
    refine HD.out.mono ?_
    rintro e w1 ⟨v, F, block, rfl, ⟨u, rfl, hb⟩, hbent, b1⟩
    obtain ⟨A, nb, cb, rfl⟩ := hb.slice
    unfold flc
    have hz1 := b1.size
    have f1 : FlIn (w1.alloc (.cells #[.int .i64 F.d, .int .i64 F.b, .int .i64 F.p, .slice A nb cb, .int .i64 F.fu, .int .i64 F.ke, .bool F.off, .int .i64 F.op] 31)) 0 (w1.alloc (.cells #[.int .i64 F.d, .int .i64 F.b, .int .i64 F.p, .slice A nb cb, .int .i64 F.fu, .int .i64 F.ke, .bool F.off, .int .i64 F.op] 31)).heap.size (.agg #[.int .i64 F.d, .int .i64 F.b, .int .i64 F.p, .slice A nb cb, .int .i64 F.fu, .int .i64 F.ke, .bool F.off, .int .i64 F.op]) F := ⟨_, rfl, (hb.same (sm ((Below.refl w1.heap.size _).alloc (Nat.le_refl _) (.cells #[.int .i64 F.d, .int .i64 F.b, .int .i64 F.p, .slice A nb cb, .int .i64 F.fu, .int .i64 F.ke, .bool F.off, .int .i64 F.op] 31)) _ (Nat.le_refl _))).wide (Nat.zero_le _) (by simp)⟩
    have r1 := Rw.new w1 31 #[.int .i64 F.d, .int .i64 F.b, .int .i64 F.p, .slice A nb cb, .int .i64 F.fu, .int .i64 F.ke, .bool F.off, .int .i64 F.op]
    have S1 := Lib.hid (show FoSt F F A nb cb A nb cb w1.heap.size w1.heap.size w (w1.alloc (.cells #[.int .i64 F.d, .int .i64 F.b, .int .i64 F.p, .slice A nb cb, .int .i64 F.fu, .int .i64 F.ke, .bool F.off, .int .i64 F.op] 31)) from ⟨r1, r1, f1, f1, b1.alloc hz1 _⟩)
    have BENT := Lib.hid hbent
    have hnb : F.bs.length = nb := (f1.heads).1
    have hnb36 : nb ≤ 36 := by have := hbent.1; omega
    have HNB := Lib.hid hnb
    clear HL HD hb hbent b1 f1 r1 hnb
    go_wp2_with fail
    obtain ⟨f, hf⟩ : ∃ f, f = w1.heap.size := ⟨_, rfl⟩
    rw [← hf] at S1 ⊢
    clear hf hz1
    refine (HA.out _ S1.out.2.2.2.2).mono ?_
    rintro e w' ⟨ke, rfl, hk0, hk1, rfl⟩
    clear HA
    obtain ⟨wa, hwa⟩ : ∃ x, x = w1.alloc (.cells #[.int .i64 F.d, .int .i64 F.b, .int .i64 F.p, .slice A nb cb, .int .i64 F.fu, .int .i64 F.ke, .bool F.off, .int .i64 F.op] 31) := ⟨_, rfl⟩
    rw [← hwa] at S1 ⊢
    clear hwa
    obtain ⟨G, c, hG⟩ := armEnds F 0 ke
    have HAR := Lib.hid (implArm_any _ 0 ke F G c wa _ _ S1.out.2.2.1 (Nat.le_refl _) hG BENT.out.lens)
    have HG := Lib.hid hG
    obtain ⟨d0, d1, d2, d3, d4, d5, d6, d7⟩ := S1.out.1.eight
    clear hG
    go_wp2_with fail
    clear d0 d1 d2 d3 d4 d5 d6 d7
    refine HAR.out.mono ?_
    rintro e w2 ⟨y, rfl, ⟨uy, rfl, hby⟩, b2⟩
    obtain ⟨Ag, ng, cg, rfl⟩ := hby.slice
    unfold flc
    have S2 := Lib.hid ((S1.out.below b2).alloc (.cells #[.int .i64 G.d, .int .i64 G.b, .int .i64 G.p, .slice Ag ng cg, .int .i64 G.fu, .int .i64 G.ke, .bool G.off, .int .i64 G.op] 31))
    have G2 := Lib.hid (show FlIn (w2.alloc (.cells #[.int .i64 G.d, .int .i64 G.b, .int .i64 G.p, .slice Ag ng cg, .int .i64 G.fu, .int .i64 G.ke, .bool G.off, .int .i64 G.op] 31)) 0 (w2.alloc (.cells #[.int .i64 G.d, .int .i64 G.b, .int .i64 G.p, .slice Ag ng cg, .int .i64 G.fu, .int .i64 G.ke, .bool G.off, .int .i64 G.op] 31)).heap.size (.agg #[.int .i64 G.d, .int .i64 G.b, .int .i64 G.p, .slice Ag ng cg, .int .i64 G.fu, .int .i64 G.ke, .bool G.off, .int .i64 G.op]) G from ⟨_, rfl, (hby.reads.same (sm ((Below.refl w2.heap.size _).alloc (Nat.le_refl _) (.cells #[.int .i64 G.d, .int .i64 G.b, .int .i64 G.p, .slice Ag ng cg, .int .i64 G.fu, .int .i64 G.ke, .bool G.off, .int .i64 G.op] 31)) _ (Nat.le_refl _))).wide (Nat.zero_le _) (by simp)⟩)
    have R2 := Lib.hid (Rw.new w2 31 #[.int .i64 G.d, .int .i64 G.b, .int .i64 G.p, .slice Ag ng cg, .int .i64 G.fu, .int .i64 G.ke, .bool G.off, .int .i64 G.op])
    clear S1 HAR b2 hby
    rcases arm_codes HG.out ⟨hk0, by omega⟩ with ⟨rfl, hok, hoff, hGe⟩ | hc
    case inr =>
      have e0 : (c != 0) = true := by simp; omega
      clear hc HG
      go_wp2
      go_ret
      exact ⟨rfl, S2.out.2.2.2.2⟩
    case inl =>
      have hga : FlOk G := by rw [hGe]; exact hok.arm0 ⟨hk0, by omega⟩
      obtain ⟨X, c, hX⟩ := eraEnds G block
      have HER := Lib.hid (implEra_any _ block G X c _ _ _ G2.out (Nat.le_refl _) hX hga.lens)
      have hcut := cut_codes hX hga (by rw [hGe]; exact hoff) (by rw [hGe]; rfl)
      have HCUT := Lib.hid hcut
      have HOK := Lib.hid (show FlOk F ∧ F.off = false ∧ G = F.arm 0 ke from ⟨hok, hoff, hGe⟩)
      obtain ⟨d0, d1, d2, d3, d4, d5, d6, d7⟩ := R2.out.eight
      clear hga hX hcut hok hoff hGe HG
      go_wp2_with fail
      clear d0 d1 d2 d3 d4 d5 d6 d7
      refine HER.out.mono ?_
      rintro e w3 ⟨y, rfl, ⟨ux, rfl, hbx⟩, b3⟩
      obtain ⟨Ax, nx, cx, rfl⟩ := hbx.slice
      unfold flc
      have S3 := Lib.hid ((S2.out.below b3).alloc (.cells #[.int .i64 X.d, .int .i64 X.b, .int .i64 X.p, .slice Ax nx cx, .int .i64 X.fu, .int .i64 X.ke, .bool X.off, .int .i64 X.op] 31))
      have X3 := Lib.hid (show FlIn (w3.alloc (.cells #[.int .i64 X.d, .int .i64 X.b, .int .i64 X.p, .slice Ax nx cx, .int .i64 X.fu, .int .i64 X.ke, .bool X.off, .int .i64 X.op] 31)) 0 (w3.alloc (.cells #[.int .i64 X.d, .int .i64 X.b, .int .i64 X.p, .slice Ax nx cx, .int .i64 X.fu, .int .i64 X.ke, .bool X.off, .int .i64 X.op] 31)).heap.size (.agg #[.int .i64 X.d, .int .i64 X.b, .int .i64 X.p, .slice Ax nx cx, .int .i64 X.fu, .int .i64 X.ke, .bool X.off, .int .i64 X.op]) X from ⟨_, rfl, (hbx.reads.same (sm ((Below.refl w3.heap.size _).alloc (Nat.le_refl _) (.cells #[.int .i64 X.d, .int .i64 X.b, .int .i64 X.p, .slice Ax nx cx, .int .i64 X.fu, .int .i64 X.ke, .bool X.off, .int .i64 X.op] 31)) _ (Nat.le_refl _))).wide (Nat.zero_le _) (by simp)⟩)
      have R3 := Lib.hid (Rw.new w3 31 #[.int .i64 X.d, .int .i64 X.b, .int .i64 X.p, .slice Ax nx cx, .int .i64 X.fu, .int .i64 X.ke, .bool X.off, .int .i64 X.op])
      clear S2 HER b3 hbx G2 R2
      rcases HCUT.out with ⟨rfl, k, rfl, hkl, hbad, her, hXe⟩ | ⟨hc8, hc0⟩
      case inr =>
        have e0 : (c != 0) = true := by simp; omega
        have e8 : (c != 8) = true := by simp; omega
        clear hc8 hc0 HCUT
        go_wp2
        go_ret
        exact ⟨rfl, S3.out.2.2.2.2⟩
      case inl =>
        obtain ⟨hok, hoff, hGe⟩ := HOK.out
        subst hGe
        have hop := hok.2.2.2.2.2
        have hkb : k < nb := by have := HNB.out; have : ((F.arm 0 ke).bs.length) = F.bs.length := rfl; omega
        have hki : (k : Int) < (nb : Int) := by omega
        have hkj : ¬ (nb : Int) ≤ (k : Int) := by omega
        have cf := cut_facts (F := F) (k := k) (ke := ke) hok ⟨hop, by have := BENT.out.2.2; omega⟩ ⟨hk0, by omega⟩ (by have := HNB.out; omega) hbad her
        obtain ⟨Y, hY⟩ : ∃ Y, Y = ((F.arm 0 ke).erase k).on := ⟨_, rfl⟩
        simp only [← hY] at cf
        obtain ⟨g0, g1, g2, g3, g4, g5, g6, g7, g8, g9, g10, g11⟩ := cf
        rw [← hXe] at g0 hY
        have HON := Lib.hid (implOn_any _ X Y _ _ _ X3.out (Nat.le_refl _) (.inl ⟨g0, hY⟩) g0.lens)
        have HY := Lib.hid g1
        have HOE := Lib.hid g2
        have HYF := Lib.hid (show Y.bs.length = F.bs.length ∧ Y.p = F.p ∧ Y.off = false ∧ Y.fu = -1 ∧ (Y.blk k).bad = false ∧ (Y.blk k).er = (F.blk k).er + 1 ∧ (Y.blk k).nx = (if ke < F.p then F.p else 0) from ⟨g3, g4, g5, g6, g8, g9, g10⟩)
        have HEM := Lib.hid g11
        have HFP := Lib.hid (show 8 ≤ F.p ∧ F.p ≤ 16 from hok.1.p16)
        obtain ⟨d0, d1, d2, d3, d4, d5, d6, d7⟩ := R3.out.eight
        obtain ⟨e0, e1, e2, e3, e4, e5, e6, e7⟩ := S3.out.1.eight
        clear HCUT HOK hop g0 g1 g2 g3 g4 g5 g6 g7 g8 g9 g10 g11 hY hXe hok hoff her hbad hkl
        have hwk : IntKind.i64.wrap (ke - 1) = ke - 1 := IntWalk.i64_in _ (by omega)
        go_wp2_with fail
        clear d0 d1 d2 d3 d4 d5 d6 d7 e0 e1 e2 e3 e4 e5 e6 e7 hkj
        refine HON.out.mono ?_
        rintro e w4 ⟨y, rfl, ⟨uy, rfl, hby⟩, b4⟩
        obtain ⟨Ay, ny, cy, rfl⟩ := hby.slice
        unfold flc
        have s4 := (S3.out.below b4).alloc (.cells #[.int .i64 Y.d, .int .i64 Y.b, .int .i64 Y.p, .slice Ay ny cy, .int .i64 Y.fu, .int .i64 Y.ke, .bool Y.off, .int .i64 Y.op] 31)
        have S4 := Lib.hid (show FoSt F Y A nb cb Ay ny cy f w4.heap.size w (w4.alloc (.cells #[.int .i64 Y.d, .int .i64 Y.b, .int .i64 Y.p, .slice Ay ny cy, .int .i64 Y.fu, .int .i64 Y.ke, .bool Y.off, .int .i64 Y.op] 31)) from ⟨s4.1, Rw.new _ _ _, s4.2.2.1, ⟨_, rfl, (hby.reads.same (sm ((Below.refl w4.heap.size _).alloc (Nat.le_refl _) _) _ (Nat.le_refl _))).wide (Nat.zero_le _) (by simp)⟩, s4.2.2.2.2⟩)
        clear S3 X3 R3 HON b4 hby s4
        obtain ⟨d0, d1, d2, d3, d4, d5, d6, d7⟩ := S4.out.2.1.eight
        go_wp2_with fail
        clear d0 d1 d2 d3 d4 d5 d6 d7
        obtain ⟨y, hy⟩ : ∃ y, y = w4.heap.size := ⟨_, rfl⟩
        rw [← hy] at S4 ⊢
        clear hy
        have HVA := Lib.hid (fun (W : World) (S : FoSt F Y A nb cb Ay ny cy f y w W) => specValid_any _ Y true W _ _ S.2.2.2.1 (Nat.le_refl _) (by simp [HY.out]) HY.out.lens)
        have HOT := Lib.hid (fun (W : World) (S : FoSt F Y A nb cb Ay ny cy f y w W) => others_any _ _ Y F (k : Int) 0 (ke - 1) W _ _ _ _ S.2.2.2.1 S.2.2.1 (Nat.le_refl _) (Nat.le_refl _) HOE.out HY.out.lens)
        refine (HVA.out _ S4.out).mono ?_
        rintro e w5 ⟨rfl, b5⟩
        have S5 := Lib.hid (S4.out.below b5)
        clear S4 b5 HVA
        obtain ⟨d0, d1, d2, d3, d4, d5, d6, d7⟩ := S5.out.2.1.eight
        obtain ⟨e0, e1, e2, e3, e4, e5, e6, e7⟩ := S5.out.1.eight
        go_wp2_with fail
        clear d0 d1 d2 d3 d4 d5 d6 d7 e0 e1 e2 e3 e4 e5 e6 e7
        refine (HOT.out _ S5.out).mono ?_
        rintro e w6 ⟨rfl, b6⟩
        have S6 := Lib.hid (S5.out.below b6)
        have hny : ny = nb := by have := (S5.out.2.2.2.1.heads).1; have := HYF.out.1; have := HNB.out; omega
        clear S5 b6 HOT HOE hwk
        subst hny
        go_wp2
        go_loopw [13] (fun i wr => ∃ t : Nat, t ≤ 19 ∧ i = .int .i64 t ∧ Hid (FoSt F Y A ny cb Ay ny cy f y w wr)) (fun i _ => 20 - (intOf i).toNat)
        case atStart => exact ⟨0, by omega, rfl, S6⟩
        case round =>
          clear S6
          obtain ⟨t, ht, rfl, S6⟩ := hrel
          obtain ⟨d0, d1, d2, d3, d4, d5, d6, d7⟩ := S6.out.2.1.eight
          obtain ⟨e0, e1, e2, e3, e4, e5, e6, e7⟩ := S6.out.1.eight
          have hp16 := HFP.out
          by_cases hc : (t : Int) < ke ∧ (t : Int) < F.p
          · obtain ⟨hc1, hc2⟩ := hc
            obtain ⟨gy, oy, Ap, m, cp, rfl, hgy, x3, hm, hpg⟩ := S6.out.2.2.2.1.pages k hkb
            have hmp : (m : Int) = F.p := by have := (HY.out.plen (i := k) (by have := HYF.out.1; have := HNB.out; omega)).2.2; have := HYF.out.2.1; omega
            have htm : t < m := by omega
            have hti : (t : Int) < (m : Int) := by omega
            obtain ⟨b', off', rfl, _, x4⟩ := hpg t htm
            rw [HEM.out t hc1 (by omega)] at x4
            have hes := str_same (rfl : ByteArray.empty = ByteArray.empty)
            clear hpg hm hmp d0 d1 d2 d4 d5 d6 d7 e0 e1 e3 e4 e5 e6 e7
            go_wp2
            go_roundw
            case rel => exact ⟨t + 1, by omega, by go_num, S6⟩
            case measure => simp [intOf]; omega
          · have hkY : k < Y.bs.length := by have := HYF.out.1; have := HNB.out; omega
            obtain ⟨PX, cx, hPX, hcx, hcn⟩ := after_prog (raw := destB) HY.out HYF.out.2.2.1 HYF.out.2.2.2.1 hkY HYF.out.2.2.2.2.1 destB_size
            have hcn2 : (cx = 0 ↔ ¬ ke < F.p) := by
              rw [hcn, HYF.out.2.2.2.2.2.2]
              split <;> constructor <;> intro _ <;> omega
            obtain ⟨EX, ce, hEX, hce⟩ := after_erase HY.out HYF.out.2.2.1 HYF.out.2.2.2.1 hkY HYF.out.2.2.2.2.1
            have HPR := Lib.hid (fun (W : World) (S : FoSt F Y A ny cb Ay ny cy f y w W) => implProg_any _ (k : Int) 0 destB Y PX cx W _ _ S.2.2.2.1 (Nat.le_refl _) hPX HY.out.lens (by rw [destB_size]; omega))
            have HER := Lib.hid (fun (W : World) (S : FoSt F Y A ny cb Ay ny cy f y w W) => implEra_any _ (k : Int) Y EX ce W _ _ S.2.2.2.1 (Nat.le_refl _) hEX HY.out.lens)
            have HDS := Lib.hid (fun (W : World) => (show Calls Try.prog 29 #[] W fun e w' => e = .returned (.string destB) ∧ Below W.heap.size W w' from implDestroyed_any W))
            have HCE := Lib.hid hce
            have HCX := Lib.hid hcx
            have HCN := Lib.hid hcn2
            have KP := Lib.hid (fun (W : World) (B : Below wr.heap.size wr W) => (show FoSt F Y A ny cb Ay ny cy f y w W ∧ W.cell? ⟨y, 0, none⟩ = some (.int .i64 Y.d) ∧ W.cell? ⟨y, 1, none⟩ = some (.int .i64 Y.b) ∧ W.cell? ⟨y, 2, none⟩ = some (.int .i64 Y.p) ∧ W.cell? ⟨y, 3, none⟩ = some (.slice Ay ny cy) ∧ W.cell? ⟨y, 4, none⟩ = some (.int .i64 Y.fu) ∧ W.cell? ⟨y, 5, none⟩ = some (.int .i64 Y.ke) ∧ W.cell? ⟨y, 6, none⟩ = some (.bool Y.off) ∧ W.cell? ⟨y, 7, none⟩ = some (.int .i64 Y.op) from ⟨S6.out.below B, (S6.out.below B).2.1.eight⟩))
            clear d0 d1 d2 d3 d4 d5 d6 d7 e0 e1 e3 e4 e5 e6 e7 hPX hcx hcn hcn2 hEX hce hkY
            generalize destB = dst at *
            rcases (by omega : ¬ (t : Int) < ke ∨ ((t : Int) < ke ∧ ¬ (t : Int) < F.p)) with h1 | ⟨h1, h2⟩
            all_goals
              clear hc
              go_upto_region 19 with fail
              go_cut [14, 15] (fun p14 c15 wx => (∃ g : Nat, p14 = .pointer (some ⟨g, 0, none⟩)) ∧ c15 = .int .i64 cx ∧ Hid (Below wr.heap.size wr wx))
              case first =>
                go_region_held3 (fun W => FoSt F Y A ny cb Ay ny cy f y w W ∧ W.cell? ⟨y, 0, none⟩ = some (.int .i64 Y.d) ∧ W.cell? ⟨y, 1, none⟩ = some (.int .i64 Y.b) ∧ W.cell? ⟨y, 2, none⟩ = some (.int .i64 Y.p) ∧ W.cell? ⟨y, 3, none⟩ = some (.slice Ay ny cy) ∧ W.cell? ⟨y, 4, none⟩ = some (.int .i64 Y.fu) ∧ W.cell? ⟨y, 5, none⟩ = some (.int .i64 Y.ke) ∧ W.cell? ⟨y, 6, none⟩ = some (.bool Y.off) ∧ W.cell? ⟨y, 7, none⟩ = some (.int .i64 Y.op))
                  (first
                    | with_reducible exact KP.out _ ((((((((hbP.setCell hzq _).setCell hzq _).setCell hzq _).setCell hzq _).setCell hzq _).setCell hzq _).setCell hzq _).setCell hzq _)
                    | with_reducible exact KP.out _ hbP
                    | with_reducible exact KP.out _ (hbP.alloc hbP.size _)
                    | with_reducible exact KP.out _ hbD
                    | with_reducible exact KP.out _ (hbD.alloc hbD.size _)
                    | with_reducible exact KP.out _ (Below.refl _ _).drew
                    | with_reducible exact KP.out _ ((Below.refl wr.heap.size wr).alloc (Nat.le_refl _) _).drew)
                  (first
                    | (go_at_call 29
                       refine (HDS.out wr.drew).mono ?_
                       rintro e wD ⟨rfl, hD⟩
                       have hbD : Below wr.heap.size wr wD := (Below.refl wr.heap.size wr).drew.trans hD)
                    | (go_at_call 29
                       refine (HDS.out _).mono ?_
                       rintro e wD ⟨rfl, hD⟩
                       have hbD : Below wr.heap.size wr wD := (((Below.refl wr.heap.size wr).alloc (Nat.le_refl _) (.cells #[.int .i64 0, .int .i64 0, .int .i64 0, .slice none 0 0, .int .i64 0, .int .i64 0, .bool false, .int .i64 0] 31)).drew).trans (hD.mono (by simp))
                       have hzq : wr.heap.size ≤ wr.heap.size := Nat.le_refl _
                       have rz := (show Rw (wr.alloc (.cells #[.int .i64 0, .int .i64 0, .int .i64 0, .slice none 0 0, .int .i64 0, .int .i64 0, .bool false, .int .i64 0] 31)).drew wr.heap.size _ _ from Rw.new wr 31 #[.int .i64 0, .int .i64 0, .int .i64 0, .slice none 0 0, .int .i64 0, .int .i64 0, .bool false, .int .i64 0]).below hD (by simp))
                    | (go_at_call 11
                       refine (HPR.out wD (KP.out _ hbD).1).mono ?_
                       rintro e wP ⟨p, rfl, ⟨up, rfl, hbp⟩, hP⟩
                       obtain ⟨Ap, np, cp, rfl⟩ := hbp.slice
                       unfold flc
                       have hbP : Below wr.heap.size wr wP := hbD.trans (hP.mono hbD.size)
                       obtain ⟨z0, z1, z2, z3, z4, z5, z6, z7⟩ := (rz.below hP rz.lt).eight
                       obtain ⟨y0, y1, y2, y3, y4, y5, y6, y7⟩ := (rz.below hP rz.lt).frees)
                    | (go_at_call 11
                       refine (HPR.out wD (KP.out _ hbD).1).mono ?_
                       rintro e wP ⟨p, rfl, ⟨up, rfl, hbp⟩, hP⟩
                       obtain ⟨Ap, np, cp, rfl⟩ := hbp.slice
                       unfold flc
                       have hbP : Below wr.heap.size wr wP := hbD.trans (hP.mono hbD.size))
                    | (go_at_call 11
                       refine (HPR.out _ (KP.out _ (hbD.alloc hbD.size _)).1).mono ?_
                       rintro e wP ⟨p, rfl, ⟨up, rfl, hbp⟩, hP⟩
                       obtain ⟨Ap, np, cp, rfl⟩ := hbp.slice
                       unfold flc
                       have hbP : Below wr.heap.size wr wP := (hbD.alloc hbD.size _).trans (hP.mono (hbD.alloc hbD.size _).size)
                       have hzq : wr.heap.size ≤ wD.heap.size := hbD.size
                       have rp := (Rw.new wD 31 #[.int .i64 0, .int .i64 0, .int .i64 0, .slice none 0 0, .int .i64 0, .int .i64 0, .bool false, .int .i64 0]).below hP (by simp)
                       obtain ⟨z0, z1, z2, z3, z4, z5, z6, z7⟩ := rp.eight
                       obtain ⟨y0, y1, y2, y3, y4, y5, y6, y7⟩ := rp.frees))
                all_goals (go_wp2_with fail; go_meet)
                all_goals (refine ⟨⟨_, rfl⟩, rfl, Lib.hid ?_⟩; first | with_reducible exact hbP.alloc hbP.size _ | with_reducible exact ((((((((hbP.setCell hzq _).setCell hzq _).setCell hzq _).setCell hzq _).setCell hzq _).setCell hzq _).setCell hzq _).setCell hzq _))
              case rest =>
                obtain ⟨⟨gx, rfl⟩, rfl, B7⟩ := hcut
                have S7 := Lib.hid (S6.out.below B7.out)
                clear S6 B7 KP HDS HPR
                obtain ⟨e0, e1, e2, e3, e4, e5, e6, e7⟩ := S7.out.1.eight
                obtain ⟨d0, d1, d2, d3, d4, d5, d6, d7⟩ := S7.out.2.1.eight
                have hcc : (cx = 0 ∧ F.p ≤ ke) ∨ (cx = 5 ∧ ke < F.p) := by
                  have h1 := HCX.out
                  have h2 := HCN.out
                  by_cases h3 : ke < F.p
                  · exact .inr ⟨h1.resolve_left (fun h => (h2.1 h) h3), h3⟩
                  · exact .inl ⟨h2.2 h3, by omega⟩
                clear HCX HCN
                rcases hcc with ⟨rfl, h3⟩ | ⟨rfl, h3⟩
                all_goals (try (exfalso; omega))
                all_goals
                  go_wp2_with fail
                  refine (HER.out _ S7.out).mono ?_
                  rintro e w8 ⟨z, rfl, ⟨uz, rfl, hz⟩, b8⟩
                  obtain ⟨Az, nz, cz, rfl⟩ := hz.slice
                  unfold flc
                  have s8 := (S7.out.below b8).alloc (.cells #[.int .i64 EX.d, .int .i64 EX.b, .int .i64 EX.p, .slice Az nz cz, .int .i64 EX.fu, .int .i64 EX.ke, .bool EX.off, .int .i64 EX.op] 31)
                  have T8 := Lib.hid (show FoSt Y EX Ay ny cy Az nz cz y w8.heap.size w (w8.alloc (.cells #[.int .i64 EX.d, .int .i64 EX.b, .int .i64 EX.p, .slice Az nz cz, .int .i64 EX.fu, .int .i64 EX.ke, .bool EX.off, .int .i64 EX.op] 31)) from ⟨s8.2.1, Rw.new _ _ _, s8.2.2.2.1, ⟨_, rfl, (hz.reads.same (sm ((Below.refl w8.heap.size _).alloc (Nat.le_refl _) _) _ (Nat.le_refl _))).wide (Nat.zero_le _) (by simp)⟩, s8.2.2.2.2⟩)
                  clear S7 b8 hz HER s8 d0 d1 d2 d3 d4 d5 d6 d7 e0 e1 e2 e3 e4 e5 e6 e7 h3
                  obtain ⟨e0, e1, e2, e3, e4, e5, e6, e7⟩ := T8.out.1.eight
                  obtain ⟨d0, d1, d2, d3, d4, d5, d6, d7⟩ := T8.out.2.1.eight
                  rcases HCE.out with ⟨rfl, her⟩ | ⟨rfl, hel, hnx⟩
                  · obtain ⟨gy, oy, rfl, hgy, r0, -⟩ := (T8.out.2.2.1.heads).2 k hkb
                    rw [her] at r0
                    go_wp2_with fail
                    go_ret
                    exact ⟨rfl, T8.out.2.2.2.2⟩
                  · have hnz : nz = ny := by have := (T8.out.2.2.2.1.heads).1; have := (T8.out.2.2.1.heads).1; omega
                    subst hnz
                    obtain ⟨gz, oz, rfl, hgz, -, r0⟩ := (T8.out.2.2.2.1.heads).2 k hkb
                    rw [hnx] at r0
                    go_wp2_with fail
                    go_ret
                    exact ⟨rfl, T8.out.2.2.2.2⟩
  · clear w0 w1
    go_enter Try.func7, Try.ntmps7
    go_wp2_with (go_at_call 19; refine (long_yes _ _ _ _ _ _ _ b0 b1 (by omega)).mono ?_; rintro e w' ⟨rfl, rfl⟩)
    go_ret
    exact ⟨rfl, Below.refl _ _⟩
end Go.Proofs.Yteigdjocjcjkiaa
