/- The proof's own lemmas, part 34: WkTp. -/
import Derived.Test.YthenilomgbnpeaaGreatDoorMg29
import Derived.Test.YthenilomgbnpeaaGreatDoorMg32
import Derived.Deep.DeepCutAuto
import Derived.Deep.RegionHeld3
/- An interrupted program operation: the walk. -/
namespace Go.Proofs.YthenilomgbnpeaaGreatDoor
open Go.RowKit
set_option linter.unusedVariables false
/-- The array after its fuse was armed: in a variable's block, and its code. -/
def ArmSt (F : Fl) (w : World) (p9 c10 : Value) (wx : World) : Prop := ∃ (ke : Int) (G : Fl) (c : Int) (Ag : Option Addr) (ng cg g : Nat), (0 ≤ ke ∧ ke ≤ 91) ∧ ArmEnds F 0 ke G c ∧ p9 = .pointer (some ⟨g, 0, none⟩) ∧ c10 = .int .i64 c ∧
  FoSt G G Ag ng cg Ag ng cg g g w wx
theorem ArmSt.alloc {F G : Fl} {w wa wP : World} {ke c : Int} {Ag : Option Addr} {ng cg lo : Nat} (hk : 0 ≤ ke ∧ ke ≤ 91) (hG : ArmEnds F 0 ke G c) (h : BksOwn wP lo wP.heap.size (.slice Ag ng cg) G.bs) (b : Below w.heap.size w wP) :
    ArmSt F w (.pointer (some ⟨wP.heap.size, 0, none⟩)) (.int .i64 c) (wP.alloc (.cells #[.int .i64 G.d, .int .i64 G.b, .int .i64 G.p, .slice Ag ng cg, .int .i64 G.fu, .int .i64 G.ke, .bool G.off, .int .i64 G.op] 28)) := by
  have f : FlIn (wP.alloc (.cells #[.int .i64 G.d, .int .i64 G.b, .int .i64 G.p, .slice Ag ng cg, .int .i64 G.fu, .int .i64 G.ke, .bool G.off, .int .i64 G.op] 28)) 0 (wP.alloc (.cells #[.int .i64 G.d, .int .i64 G.b, .int .i64 G.p, .slice Ag ng cg, .int .i64 G.fu, .int .i64 G.ke, .bool G.off, .int .i64 G.op] 28)).heap.size (.agg #[.int .i64 G.d, .int .i64 G.b, .int .i64 G.p, .slice Ag ng cg, .int .i64 G.fu, .int .i64 G.ke, .bool G.off, .int .i64 G.op]) G := ⟨_, rfl, (h.reads.same (sm ((Below.refl wP.heap.size _).alloc (Nat.le_refl _) (.cells #[.int .i64 G.d, .int .i64 G.b, .int .i64 G.p, .slice Ag ng cg, .int .i64 G.fu, .int .i64 G.ke, .bool G.off, .int .i64 G.op] 28)) _ (Nat.le_refl _))).wide (Nat.zero_le _) (by simp)⟩
  exact ⟨ke, G, c, Ag, ng, cg, _, hk, hG, rfl, rfl, Rw.new _ _ _, Rw.new _ _ _, f, f, b.alloc b.size _⟩
theorem ArmSt.store {F G : Fl} {w wP : World} {ke c : Int} {Ag : Option Addr} {ng cg lo g : Nat} (hk : 0 ≤ ke ∧ ke ≤ 91) (hG : ArmEnds F 0 ke G c) (h : BksOwn wP lo wP.heap.size (.slice Ag ng cg) G.bs) (b : Below w.heap.size w wP)
    (r : Rw wP g 28 #[.int .i64 0, .int .i64 0, .int .i64 0, .slice none 0 0, .int .i64 0, .int .i64 0, .bool false, .int .i64 0]) (h1 : w.heap.size ≤ g) (h2 : g < lo) :
    ArmSt F w (.pointer (some ⟨g, 0, none⟩)) (.int .i64 c) ((((((((wP.setCell ⟨g, 0, none⟩ (.int .i64 G.d)).setCell ⟨g, 1, none⟩ (.int .i64 G.b)).setCell ⟨g, 2, none⟩ (.int .i64 G.p)).setCell ⟨g, 3, none⟩ (.slice Ag ng cg)).setCell ⟨g, 4, none⟩ (.int .i64 G.fu)).setCell ⟨g, 5, none⟩ (.int .i64 G.ke)).setCell ⟨g, 6, none⟩ (.bool G.off)).setCell ⟨g, 7, none⟩ (.int .i64 G.op)) := by
  have f : FlIn ((((((((wP.setCell ⟨g, 0, none⟩ (.int .i64 G.d)).setCell ⟨g, 1, none⟩ (.int .i64 G.b)).setCell ⟨g, 2, none⟩ (.int .i64 G.p)).setCell ⟨g, 3, none⟩ (.slice Ag ng cg)).setCell ⟨g, 4, none⟩ (.int .i64 G.fu)).setCell ⟨g, 5, none⟩ (.int .i64 G.ke)).setCell ⟨g, 6, none⟩ (.bool G.off)).setCell ⟨g, 7, none⟩ (.int .i64 G.op)) 0 ((((((((wP.setCell ⟨g, 0, none⟩ (.int .i64 G.d)).setCell ⟨g, 1, none⟩ (.int .i64 G.b)).setCell ⟨g, 2, none⟩ (.int .i64 G.p)).setCell ⟨g, 3, none⟩ (.slice Ag ng cg)).setCell ⟨g, 4, none⟩ (.int .i64 G.fu)).setCell ⟨g, 5, none⟩ (.int .i64 G.ke)).setCell ⟨g, 6, none⟩ (.bool G.off)).setCell ⟨g, 7, none⟩ (.int .i64 G.op)).heap.size (.agg #[.int .i64 G.d, .int .i64 G.b, .int .i64 G.p, .slice Ag ng cg, .int .i64 G.fu, .int .i64 G.ke, .bool G.off, .int .i64 G.op]) G :=
    ⟨_, rfl, (h.reads.same (by (repeat refine sset ?_ (by omega) _); exact Same.refl _ _ _)).wide (Nat.zero_le _) (by simp)⟩
  have bb : Below w.heap.size w ((((((((wP.setCell ⟨g, 0, none⟩ (.int .i64 G.d)).setCell ⟨g, 1, none⟩ (.int .i64 G.b)).setCell ⟨g, 2, none⟩ (.int .i64 G.p)).setCell ⟨g, 3, none⟩ (.slice Ag ng cg)).setCell ⟨g, 4, none⟩ (.int .i64 G.fu)).setCell ⟨g, 5, none⟩ (.int .i64 G.ke)).setCell ⟨g, 6, none⟩ (.bool G.off)).setCell ⟨g, 7, none⟩ (.int .i64 G.op)) := by
    repeat refine bset ?_ h1 _
    exact b
  exact ⟨ke, G, c, Ag, ng, cg, _, hk, hG, rfl, rfl, r.put8 _ _ _ _ _ _ _ _, r.put8 _ _ _ _ _ _ _ _, f, f, bb⟩
set_option maxHeartbeats 4000000 in
set_option maxRecDepth 100000 in
theorem tp_any (a0 : Option Addr) (len0 cap0 : Nat) (z0 : List Int) (a1 : Option Addr) (len1 cap1 : Nat) (z1 : List Int) (w : World) (w0 : IsRow .u8 w a0 len0 cap0 z0) (w1 : IsRow .u8 w a1 len1 cap1 z1) (hT0 : MaskTab w) :
    Calls Tryz.prog 3 #[.slice a0 len0 cap0, .slice a1 len1 cap1] w fun e w' => e = .returned (.bool true) ∧ Below w.heap.size w w' := by
  have b0 := w0.len
  have b1 := w1.len
  have HT := Lib.hid hT0
  clear hT0
  by_cases hl : len0 ≤ 1048576 ∧ len1 ≤ 1048576
  · obtain ⟨hl0, hl1⟩ := hl
    have hc0 := w0.code hl0
    have hc1 := w1.code hl1
    have HL := Lib.hid (show Calls Tryz.prog 4 #[.slice a0 len0 cap0, .slice a1 len1 cap1] w fun e w' => e = .returned (.bool false) ∧ w = w' from long_no _ _ _ _ _ _ _ hl0 hl1)
    have HD := Lib.hid (drawPg_any w _ hc0)
    have HA := Lib.hid (fun (W : World) (hb : Below w.heap.size w W) => b10At_any w.heap.size (.slice a1 len1 cap1) 0 92 W (hc1.keep hb.block) (by omega) (by omega) (by omega))
    have HB := Lib.hid (fun (W : World) (hb : Below w.heap.size w W) (i n : Nat) (h1 : i ≤ 100) (h2 : n ≤ 100) => b10Data_any w.heap.size (.slice a1 len1 cap1) i n W (hc1.keep hb.block) hb.size (by omega) (by omega))
    clear w0 w1 hc0 hc1 hl0 hl1 b0 b1
    go_enter Tryz.func3, Tryz.ntmps3
    go_wp2_with fail
    refine HL.out.mono ?_
    rintro e w' ⟨rfl, rfl⟩
    go_wp2_with fail
    refine HD.out.mono ?_
    rintro e w1 ⟨v, F, block, page, raw, rfl, ⟨u, rfl, hb⟩, hbent, hraw, b1⟩
    obtain ⟨A, nb, cb, rfl⟩ := hb.slice
    unfold flc
    have hz1 := b1.size
    have f1 : FlIn (w1.alloc (.cells #[.int .i64 F.d, .int .i64 F.b, .int .i64 F.p, .slice A nb cb, .int .i64 F.fu, .int .i64 F.ke, .bool F.off, .int .i64 F.op] 28)) 0 (w1.alloc (.cells #[.int .i64 F.d, .int .i64 F.b, .int .i64 F.p, .slice A nb cb, .int .i64 F.fu, .int .i64 F.ke, .bool F.off, .int .i64 F.op] 28)).heap.size (.agg #[.int .i64 F.d, .int .i64 F.b, .int .i64 F.p, .slice A nb cb, .int .i64 F.fu, .int .i64 F.ke, .bool F.off, .int .i64 F.op]) F := ⟨_, rfl, (hb.same (sm ((Below.refl w1.heap.size _).alloc (Nat.le_refl _) (.cells #[.int .i64 F.d, .int .i64 F.b, .int .i64 F.p, .slice A nb cb, .int .i64 F.fu, .int .i64 F.ke, .bool F.off, .int .i64 F.op] 28)) _ (Nat.le_refl _))).wide (Nat.zero_le _) (by simp)⟩
    have r1 := Rw.new w1 28 #[.int .i64 F.d, .int .i64 F.b, .int .i64 F.p, .slice A nb cb, .int .i64 F.fu, .int .i64 F.ke, .bool F.off, .int .i64 F.op]
    have S1 := Lib.hid (show FoSt F F A nb cb A nb cb w1.heap.size w1.heap.size w (w1.alloc (.cells #[.int .i64 F.d, .int .i64 F.b, .int .i64 F.p, .slice A nb cb, .int .i64 F.fu, .int .i64 F.ke, .bool F.off, .int .i64 F.op] 28)) from ⟨r1, r1, f1, f1, b1.alloc hz1 _⟩)
    have BENT := Lib.hid hbent
    clear HL HD hb hbent b1 f1 r1 hraw
    obtain ⟨f, hf⟩ : ∃ f, f = w1.heap.size := ⟨_, rfl⟩
    obtain ⟨wa, hwa⟩ : ∃ x, x = w1.alloc (.cells #[.int .i64 F.d, .int .i64 F.b, .int .i64 F.p, .slice A nb cb, .int .i64 F.fu, .int .i64 F.ke, .bool F.off, .int .i64 F.op] 28) := ⟨_, rfl⟩
    go_upto_region 4 with fail
    rw [← hf, ← hwa] at S1 ⊢
    clear hf hwa hz1
    have KP := Lib.hid (fun (W : World) (B : Below wa.heap.size wa W) => (show FoSt F F A nb cb A nb cb f f w W ∧ W.cell? ⟨f, 0, none⟩ = some (.int .i64 F.d) ∧ W.cell? ⟨f, 1, none⟩ = some (.int .i64 F.b) ∧ W.cell? ⟨f, 2, none⟩ = some (.int .i64 F.p) ∧ W.cell? ⟨f, 3, none⟩ = some (.slice A nb cb) ∧ W.cell? ⟨f, 4, none⟩ = some (.int .i64 F.fu) ∧ W.cell? ⟨f, 5, none⟩ = some (.int .i64 F.ke) ∧ W.cell? ⟨f, 6, none⟩ = some (.bool F.off) ∧ W.cell? ⟨f, 7, none⟩ = some (.int .i64 F.op) from ⟨S1.out.below B, (S1.out.below B).1.eight⟩))
    go_cut [9, 10] (fun p9 c10 wx => Hid (ArmSt F w p9 c10 wx))
    case first =>
      have hsa := S1.out.2.2.2.2.size
      go_region_held3 (fun W => FoSt F F A nb cb A nb cb f f w W ∧ W.cell? ⟨f, 0, none⟩ = some (.int .i64 F.d) ∧ W.cell? ⟨f, 1, none⟩ = some (.int .i64 F.b) ∧ W.cell? ⟨f, 2, none⟩ = some (.int .i64 F.p) ∧ W.cell? ⟨f, 3, none⟩ = some (.slice A nb cb) ∧ W.cell? ⟨f, 4, none⟩ = some (.int .i64 F.fu) ∧ W.cell? ⟨f, 5, none⟩ = some (.int .i64 F.ke) ∧ W.cell? ⟨f, 6, none⟩ = some (.bool F.off) ∧ W.cell? ⟨f, 7, none⟩ = some (.int .i64 F.op))
        (first
          | with_reducible exact KP.out _ ((((((((hbP.setCell hzq _).setCell hzq _).setCell hzq _).setCell hzq _).setCell hzq _).setCell hzq _).setCell hzq _).setCell hzq _)
          | with_reducible exact KP.out _ hbP
          | with_reducible exact KP.out _ (hbP.alloc hbP.size _)
          | with_reducible exact KP.out _ (Below.refl wa.heap.size wa).drew
          | with_reducible exact KP.out _ ((Below.refl wa.heap.size wa).alloc (Nat.le_refl _) _).drew)
        (first
          | (go_at_call 7
             refine (HA.out wa.drew (S1.out.2.2.2.2.drew)).mono ?_
             rintro e w' ⟨ke, rfl, hk0, hk1, rfl⟩
             obtain ⟨G, c, hG⟩ := armEnds F 0 ke)
          | (go_at_call 7
             refine (HA.out _ ((S1.out.2.2.2.2.alloc hsa _).drew)).mono ?_
             rintro e w' ⟨ke, rfl, hk0, hk1, rfl⟩
             obtain ⟨G, c, hG⟩ := armEnds F 0 ke)
          | (go_at_call 6
             refine (implArm_any _ 0 ke F G c wa.drew _ _ (KP.out _ (Below.refl wa.heap.size wa).drew).1.2.2.1 (Nat.le_refl _) hG BENT.out.lens).mono ?_
             rintro e wP ⟨y, rfl, ⟨uy, rfl, hby⟩, b2⟩
             obtain ⟨Ag, ng, cg, rfl⟩ := hby.slice
             unfold flc
             have hbP : Below wa.heap.size wa wP := (Below.refl wa.heap.size wa).drew.trans b2)
          | (go_at_call 6
             refine (implArm_any _ 0 ke F G c _ _ _ (KP.out _ ((Below.refl wa.heap.size wa).alloc (Nat.le_refl _) (.cells #[.int .i64 0, .int .i64 0, .int .i64 0, .slice none 0 0, .int .i64 0, .int .i64 0, .bool false, .int .i64 0] 28)).drew).1.2.2.1 (Nat.le_refl _) hG BENT.out.lens).mono ?_
             rintro e wP ⟨y, rfl, ⟨uy, rfl, hby⟩, b2⟩
             obtain ⟨Ag, ng, cg, rfl⟩ := hby.slice
             unfold flc
             have hbP : Below wa.heap.size wa wP := ((Below.refl wa.heap.size wa).alloc (Nat.le_refl _) (.cells #[.int .i64 0, .int .i64 0, .int .i64 0, .slice none 0 0, .int .i64 0, .int .i64 0, .bool false, .int .i64 0] 28)).drew.trans (b2.mono (by simp))
             have hzq : wa.heap.size ≤ wa.heap.size := Nat.le_refl _
             have rz := (show Rw (wa.alloc (.cells #[.int .i64 0, .int .i64 0, .int .i64 0, .slice none 0 0, .int .i64 0, .int .i64 0, .bool false, .int .i64 0] 28)).drew wa.heap.size _ _ from Rw.new wa 28 #[.int .i64 0, .int .i64 0, .int .i64 0, .slice none 0 0, .int .i64 0, .int .i64 0, .bool false, .int .i64 0]).below b2 (by simp)
             obtain ⟨z0, z1, z2, z3, z4, z5, z6, z7⟩ := rz.eight
             obtain ⟨y0, y1, y2, y3, y4, y5, y6, y7⟩ := rz.frees))
      all_goals (go_wp2_with fail; go_meet)
      all_goals
        refine Lib.hid ?_
        have hke : 0 ≤ ke ∧ ke ≤ 91 := ⟨hk0, by omega⟩
        have hbW := S1.out.2.2.2.2.trans (hbP.mono hsa)
        clear hk0 hk1 KP HA S1 BENT
        first
          | (with_reducible refine ArmSt.alloc (wa := wa) hke hG hby hbW)
          | (with_reducible refine ArmSt.store hke hG hby hbW rz hsa ?_
             simp)
    case rest =>
      obtain ⟨ke, G, c, Ag, ng, cg, g, hke, hG, rfl, rfl, S2⟩ := hcut.out
      have S2 := Lib.hid S2
      have HG := Lib.hid hG
      clear hcut S1 KP HA hG
      go_wp2_with fail
      refine (HB.out _ S2.out.2.2.2.2 1 64 (by omega) (by omega)).mono ?_
      rintro e w3 ⟨D, rfl, hD, b3⟩
      have S3 := Lib.hid (S2.out.below b3)
      clear S2 b3
      go_wp2_with fail
      refine (HB.out _ S3.out.2.2.2.2 65 16 (by omega) (by omega)).mono ?_
      rintro e w4 ⟨Sp, rfl, hS, b4⟩
      have S4 := Lib.hid (S3.out.below b4)
      clear S3 b4 HB
      have HSL := Lib.hid (fun (W : World) (hT : MaskTab W) => implSeal_any D Sp 7 (sealB D Sp 7) 0 W (.done ⟨hD, hS⟩ 7 rfl (by decide)) (by omega) (by omega) hT)
      have HR := Lib.hid (sealB_size (p := 7) hD hS)
      have HOP := Lib.hid (fun (W : World) (hT : MaskTab W) => implOpen_any (sealB D Sp 7) 7 D Sp (cntE (fun _ => none) 12 : Nat) 0 W (seal_opens (n := 7) hD hS (by decide) (FlS.start _) (fun _ _ h => by cases h) rfl (fun _ h => by cases h)) (by rw [HR.out]; omega) hT)
      have HOS := Lib.hid (fun (T : ByteArray) (h : Shut T) (W : World) (hT : MaskTab W) => implOpen_any T 7 ⟨#[]⟩ ⟨#[]⟩ 0 6 W (h.ends ⟨by omega, by omega⟩) (by have := h.1; omega) hT)
      generalize sealB D Sp 7 = R at *
      generalize ((cntE (fun _ => none) 12 : Nat) : Int) = cn at *
      clear hD hS
      go_wp2_with fail
      refine (HSL.out _ (HT.out.below S4.out.2.2.2.2 (Nat.le_refl _))).mono ?_
      rintro e w5 ⟨rfl, b5⟩
      have S5 := Lib.hid (S4.out.below b5)
      clear S4 b5 HSL
      rcases arm_codes HG.out hke with ⟨rfl, hok, hoff, hGe⟩ | hc
      case inr =>
        have e0 : (c != 0) = true := by simp; omega
        clear hc HG
        go_wp2
        go_ret
        exact ⟨rfl, S5.out.2.2.2.2⟩
      case inl =>
        have hga : FlOk G := by rw [hGe]; exact hok.arm0 hke
        obtain ⟨X, c, hX⟩ := progEnds G block page R
        have HPG := Lib.hid (fun (W : World) (S : FoSt G G Ag ng cg Ag ng cg g g w W) => implProg_any _ block page R G X c W _ _ S.2.2.1 (Nat.le_refl _) hX hga.lens (by rw [HR.out]; omega))
        have HCUT := Lib.hid (cutp_codes hX hga (by rw [hGe]; exact hoff) (by rw [hGe]; rfl) HR.out)
        have HOK := Lib.hid (show FlOk F ∧ F.off = false ∧ G = F.arm 0 ke from ⟨hok, hoff, hGe⟩)
        obtain ⟨d0, d1, d2, d3, d4, d5, d6, d7⟩ := S5.out.1.eight
        clear hga hX hok hoff hGe HG
        go_wp2_with fail
        clear d0 d1 d2 d3 d4 d5 d6 d7
        refine (HPG.out _ S5.out).mono ?_
        rintro e w6 ⟨y, rfl, ⟨ux, rfl, hbx⟩, b6⟩
        obtain ⟨Ax, nx, cx, rfl⟩ := hbx.slice
        unfold flc
        have s6 := (S5.out.below b6).alloc (.cells #[.int .i64 X.d, .int .i64 X.b, .int .i64 X.p, .slice Ax nx cx, .int .i64 X.fu, .int .i64 X.ke, .bool X.off, .int .i64 X.op] 28)
        have S6 := Lib.hid (show FoSt G X Ag ng cg Ax nx cx g w6.heap.size w (w6.alloc (.cells #[.int .i64 X.d, .int .i64 X.b, .int .i64 X.p, .slice Ax nx cx, .int .i64 X.fu, .int .i64 X.ke, .bool X.off, .int .i64 X.op] 28)) from ⟨s6.1, Rw.new _ _ _, s6.2.2.1, ⟨_, rfl, (hbx.reads.same (sm ((Below.refl w6.heap.size _).alloc (Nat.le_refl _) (.cells #[.int .i64 X.d, .int .i64 X.b, .int .i64 X.p, .slice Ax nx cx, .int .i64 X.fu, .int .i64 X.ke, .bool X.off, .int .i64 X.op] 28)) _ (Nat.le_refl _))).wide (Nat.zero_le _) (by simp)⟩, s6.2.2.2.2⟩)
        clear S5 b6 hbx HPG s6
        rcases HCUT.out with ⟨rfl, k, n, rfl, rfl, hkl, hnp, hbad, hnx, hXe⟩ | ⟨hc8, hc0⟩
        case inr =>
          have e0 : (c != 0) = true := by simp; omega
          have e8 : (c != 8) = true := by simp; omega
          clear hc8 hc0 HCUT
          go_wp2
          go_ret
          exact ⟨rfl, S6.out.2.2.2.2⟩
        case inl =>
          obtain ⟨hok, hoff, hGe⟩ := HOK.out
          have hop := hok.2.2.2.2.2
          have hGl : G.bs.length = F.bs.length := by rw [hGe]; rfl
          have hGk : G.ke = ke := by rw [hGe]; rfl
          have hGb : G.blk k = F.blk k := by rw [hGe]; rfl
          have hGp : G.p = F.p := by rw [hGe]; rfl
          have cf := cutp_facts (F := F) (k := k) (n := n) (ke := ke) (raw := R) hok ⟨hop, by have := BENT.out.2.2; omega⟩ hoff hke (by omega) (by omega) (by rw [← hGb]; exact hnx) (by rw [← hGb]; exact hbad) HR.out
          dsimp only at cf
          rw [← hGe, ← hXe] at cf
          obtain ⟨g0, g1, g2, g3, g4, g5, g6, g7, g8⟩ := cf
          obtain ⟨Y, hY⟩ : ∃ Y, Y = X.on := ⟨_, rfl⟩
          rw [← hY] at g4 g6 g8
          have hp16 : 8 ≤ F.p ∧ F.p ≤ 16 := hok.1.p16
          have hn16 : (n : Int) < 16 := by omega
          obtain ⟨P, hP⟩ : ∃ P, P = cutPage R ke := ⟨_, rfl⟩
          have HP : Hid ((ke = 91 ∧ P = R) ∨ (ke ≤ 90 ∧ Shut P)) := Lib.hid (by
            rw [hP]
            by_cases h : ke = 91
            · exact .inl ⟨h, by rw [h]; exact cutPage_all HR.out⟩
            · exact .inr ⟨by omega, cutPage_shut HR.out ⟨hke.1, by omega⟩⟩)
          rw [← hP] at g6
          have HVA := Lib.hid (fun (W : World) (S : FoSt G X Ag ng cg Ax nx cx g w6.heap.size w W) => specValid_any _ X true W _ _ S.2.2.2.1 (Nat.le_refl _) (by simp [g0]) g0.lens)
          have HON := Lib.hid (fun (W : World) (S : FoSt G X Ag ng cg Ax nx cx g w6.heap.size w W) => implOn_any _ X Y W _ _ S.2.2.2.1 (Nat.le_refl _) (.inl ⟨g0, hY⟩) g0.lens)
          have HRX := Lib.hid (fun (W : World) (S : FoSt G X Ag ng cg Ax nx cx g w6.heap.size w W) => implRead_any _ (k : Int) (n : Int) X ⟨#[]⟩ 8 W _ _ S.2.2.2.1 (Nat.le_refl _) g7 g0.lens)
          have HRY := Lib.hid (fun (W : World) (Ay : Option Addr) (ny cy y : Nat) (S : FoSt X Y Ax nx cx Ay ny cy w6.heap.size y w W) => implRead_any _ (k : Int) (n : Int) Y P 0 W _ _ S.2.2.2.1 (Nat.le_refl _) g6 g4.lens)
          have HOT0 := Lib.hid (fun (low : Int) (hlow : ((pairLow n : Nat) : Int) = low) (W : World) (S : FoSt G X Ag ng cg Ax nx cx g w6.heap.size w W) => others_any _ _ X G (k : Int) low (n : Int) W _ _ _ _ S.2.2.2.1 S.2.2.1 (Nat.le_refl _) (Nat.le_refl _) (hlow ▸ g5) g0.lens)
          have HGK := Lib.hid hGk
          have HXO := Lib.hid g1
          have HYO := Lib.hid g8
          clear HCUT HOK hop hok hoff hGe hGl hGk hGb hGp g0 g1 g2 g3 g4 g5 g6 g7 g8 hY hP hXe hkl hnp hbad hnx BENT hp16
          have hwn : IntKind.i64.wrap ((n : Int) - 1) = (n : Int) - 1 := IntWalk.i64_in _ (by omega)
          obtain ⟨low, hlow, hpar⟩ : ∃ low : Int, ((pairLow n : Nat) : Int) = low ∧ ((n % 2 = 1 ∧ low = (n : Int) - 1) ∨ (n % 2 = 0 ∧ low = (n : Int))) := by
            refine ⟨_, rfl, ?_⟩
            unfold pairLow
            split
            · exact .inl ⟨by omega, by omega⟩
            · exact .inr ⟨by omega, rfl⟩
          have HOT := Lib.hid (HOT0.out low hlow)
          clear HOT0 hlow
          rcases hpar with ⟨hod, rfl⟩ | ⟨hod, rfl⟩
          all_goals
            first
              | have hm : (n : Int) % 2 = 1 := by omega
              | have hm : ((n : Int) % 2 == 1) = false := by simp; omega
            obtain ⟨d0, d1, d2, d3, d4, d5, d6, d7⟩ := S6.out.2.1.eight
            have hno : (!X.off) = false := by rw [HXO.out]; rfl
            clear hod
            go_wp2_with fail
            clear d0 d1 d2 d3 d4 d5 d6 d7 hm hno
            obtain ⟨x, hx⟩ : ∃ x, x = w6.heap.size := ⟨_, rfl⟩
            rw [← hx] at S6 HVA HON HRX HRY HOT ⊢
            clear hx
            refine (HVA.out _ S6.out).mono ?_
            rintro e w7 ⟨rfl, b7⟩
            have S7 := Lib.hid (S6.out.below b7)
            clear S6 b7 HVA
            obtain ⟨d0, d1, d2, d3, d4, d5, d6, d7⟩ := S7.out.2.1.eight
            obtain ⟨e0, e1, e2, e3, e4, e5, e6, e7⟩ := S7.out.1.eight
            go_wp2_with fail
            clear d0 d1 d2 d3 d4 d5 d6 d7 e0 e1 e2 e3 e4 e5 e6 e7
            refine (HOT.out _ S7.out).mono ?_
            rintro e w8 ⟨rfl, b8⟩
            have S8 := Lib.hid (S7.out.below b8)
            clear S7 b8 HOT hwn
            obtain ⟨d0, d1, d2, d3, d4, d5, d6, d7⟩ := S8.out.2.1.eight
            go_wp2_with fail
            clear d0 d1 d2 d3 d4 d5 d6 d7
            refine (HON.out _ S8.out).mono ?_
            rintro e w9 ⟨yv, rfl, ⟨uy, rfl, hby⟩, b9⟩
            obtain ⟨Ay, ny, cy, rfl⟩ := hby.slice
            unfold flc
            have s9 := (S8.out.below b9).alloc (.cells #[.int .i64 Y.d, .int .i64 Y.b, .int .i64 Y.p, .slice Ay ny cy, .int .i64 Y.fu, .int .i64 Y.ke, .bool Y.off, .int .i64 Y.op] 28)
            have S9 := Lib.hid s9
            have T9 := Lib.hid (show FoSt X Y Ax nx cx Ay ny cy x w9.heap.size w (w9.alloc (.cells #[.int .i64 Y.d, .int .i64 Y.b, .int .i64 Y.p, .slice Ay ny cy, .int .i64 Y.fu, .int .i64 Y.ke, .bool Y.off, .int .i64 Y.op] 28)) from ⟨s9.2.1, Rw.new _ _ _, s9.2.2.2.1, ⟨_, rfl, (hby.reads.same (sm ((Below.refl w9.heap.size _).alloc (Nat.le_refl _) _) _ (Nat.le_refl _))).wide (Nat.zero_le _) (by simp)⟩, s9.2.2.2.2⟩)
            clear S8 b9 hby HON s9
            obtain ⟨d0, d1, d2, d3, d4, d5, d6, d7⟩ := T9.out.2.1.eight
            go_wp2_with fail
            clear d0 d1 d2 d3 d4 d5 d6 d7
            obtain ⟨y, hy⟩ : ∃ y, y = w9.heap.size := ⟨_, rfl⟩
            rw [← hy] at T9 ⊢
            clear hy
            refine (HRY.out _ _ _ _ _ T9.out).mono ?_
            rintro e w10 ⟨rfl, b10⟩
            have S10 := Lib.hid (S9.out.below b10)
            have T10 := Lib.hid (T9.out.below b10)
            clear S9 T9 b10 HRY
            have HTw := Lib.hid (HT.out.below S10.out.2.2.2.2 (Nat.le_refl _))
            rcases HP.out with ⟨hk91, rfl⟩ | ⟨hk90, hsh⟩
            case inl =>
              have HGE := Lib.hid (HGK.out.trans hk91)
              have HO := Lib.hid (HOP.out w10 HTw.out)
              clear hk91 HOP HOS HTw HP
              go_wp2_with fail
              refine HO.out.mono ?_
              rintro e w11 ⟨rfl, b11⟩
              have S11 := Lib.hid (S10.out.below b11)
              have T11 := Lib.hid (T10.out.below b11)
              clear S10 T10 b11 HO
              obtain ⟨d0, d1, d2, d3, d4, d5, d6, d7⟩ := S11.out.2.1.eight
              go_wp2_with fail
              clear d0 d1 d2 d3 d4 d5 d6 d7
              refine (HRX.out _ S11.out).mono ?_
              rintro e w12 ⟨rfl, b12⟩
              have S12 := Lib.hid (S11.out.below b12)
              have T12 := Lib.hid (T11.out.below b12)
              clear S11 T11 b12
              obtain ⟨d0, d1, d2, d3, d4, d5, d6, d7⟩ := T12.out.2.1.eight
              obtain ⟨e0, e1, e2, e3, e4, e5, e6, e7⟩ := S12.out.1.eight
              rw [HYO.out] at d6
              rw [HGE.out] at e5
              go_wp2
              go_ret
              exact ⟨rfl, S12.out.2.2.2.2⟩
            case inr =>
              have hkb : (ke == 91) = false := by simp; omega
              have HGE := Lib.hid HGK.out
              have HO := Lib.hid (HOS.out P hsh w10 HTw.out)
              clear HOP HOS HTw HP hsh
              go_wp2_with fail
              refine HO.out.mono ?_
              rintro e w11 ⟨rfl, b11⟩
              have S11 := Lib.hid (S10.out.below b11)
              have T11 := Lib.hid (T10.out.below b11)
              clear S10 T10 b11 HO
              obtain ⟨d0, d1, d2, d3, d4, d5, d6, d7⟩ := S11.out.2.1.eight
              go_wp2_with fail
              clear d0 d1 d2 d3 d4 d5 d6 d7
              refine (HRX.out _ S11.out).mono ?_
              rintro e w12 ⟨rfl, b12⟩
              have S12 := Lib.hid (S11.out.below b12)
              have T12 := Lib.hid (T11.out.below b12)
              clear S11 T11 b12
              obtain ⟨d0, d1, d2, d3, d4, d5, d6, d7⟩ := T12.out.2.1.eight
              obtain ⟨e0, e1, e2, e3, e4, e5, e6, e7⟩ := S12.out.1.eight
              rw [HYO.out] at d6
              rw [HGE.out] at e5
              go_wp2
              go_ret
              exact ⟨rfl, S12.out.2.2.2.2⟩
  · clear w0 w1
    go_enter Tryz.func3, Tryz.ntmps3
    go_wp2_with (go_at_call 4; refine (long_yes _ _ _ _ _ _ _ b0 b1 (by omega)).mono ?_; rintro e w' ⟨rfl, rfl⟩)
    go_ret
    exact ⟨rfl, Below.refl _ _⟩
end Go.Proofs.YthenilomgbnpeaaGreatDoor
