/- The law FnExactValidWipe, walked: every call by its contract. -/
import Derived.Test.YtgamoiagpglcmaaProg
import Derived.Test.YtgamoiagpglcmaaRwX
import Derived.Test.YtgamoiagpglcmaaLu
import Derived.Test.YtgamoiagpglcmaaFlU_
import Derived.Test.YtgamoiagpglcmaaFlO
import Derived.Test.YtgamoiagpglcmaaWpM
import Derived.Test.YtgamoiagpglcmaaWpO
import Derived.Test.YtgamoiagpglcmaaWqS
import Derived.Test.YtgamoiagpglcmaaWqI
namespace Go.Proofs.Ytgamoiagpglcmaa
open Go.RowKit
set_option linter.unusedVariables false
set_option linter.unusedSimpArgs false
set_option maxHeartbeats 4000000 in
set_option maxRecDepth 100000 in
theorem wkVwp (vA : Value) (FA : Fl) (vB : Value) (FB : Wp) (w : World) (hFA : FxIn w w.heap.size vA FA) (hWA : FxW FA) (hFB : WpIn w w.heap.size vB FB) (hWB : WpW FB) :
    Calls Try.prog 13 #[vA, vB] w fun e w' => e = .returned (.bool true) ∧ Below w.heap.size w w' := by
  obtain ⟨cA0, cA1, cA2, cA3, cA4, cA5, cA6, cA7, rfl⟩ : ∃ cA0 cA1 cA2 cA3 cA4 cA5 cA6 cA7, vA = .agg #[cA0, cA1, cA2, cA3, cA4, cA5, cA6, cA7] := by
    obtain ⟨kA0, kA1, kA2, kA3, kA4, kA5, kA6, kA7, kA8, kA9, e⟩ := hFA.agg8
    exact ⟨_, _, _, _, _, _, _, _, e⟩
  obtain ⟨cB0, cB1, rfl⟩ : ∃ cB0 cB1, vB = .agg #[cB0, cB1] := by
    obtain ⟨kB0, kB1, kB2, kB3, e⟩ := hFB.agg_
    exact ⟨_, _, e⟩
  have AA := Lib.hid hFA
  have HZA := Lib.hid (fun (W : World) (m : Int) (a : FxIn W w.heap.size (.agg #[cA0, cA1, cA2, cA3, cA4, cA5, cA6, cA7]) FA) (c : w.heap.size ≤ W.heap.size) (h0 : 0 ≤ m) (h1 : m ≤ 1048576) => szFxM_any _ FA W w.heap.size m a c h0 h1)
  have HTA := Lib.hid (fun (W : World) (a : FxIn W w.heap.size (.agg #[cA0, cA1, cA2, cA3, cA4, cA5, cA6, cA7]) FA) (c : w.heap.size ≤ W.heap.size) (z : FxSz FA) => toFx_any _ FA W w.heap.size a c z)
  have AB := Lib.hid hFB
  have HZB := Lib.hid (fun (W : World) (m : Int) (a : WpIn W w.heap.size (.agg #[cB0, cB1]) FB) (c : w.heap.size ≤ W.heap.size) (h0 : 0 ≤ m) (h1 : m ≤ 1048576) => szWpM_any _ FB W w.heap.size m a c h0 h1)
  have HTB := Lib.hid (fun (W : World) (a : WpIn W w.heap.size (.agg #[cB0, cB1]) FB) (c : w.heap.size ≤ W.heap.size) (z : WpSz FB) => toWp_any _ FB W w.heap.size a c z)
  obtain ⟨r, hr⟩ := prop_dec' (FlOk FA)
  obtain ⟨q, hq⟩ := prop_dec' (VwIs FA r FB)
  have HS : Hid (∀ (W : World) (uA : Value) (hiA : Nat) (aA : FxIn W hiA uA FA) (cA : hiA ≤ W.heap.size) (zA : FxSz FA) (uB : Value) (hiB : Nat) (aB : WpIn W hiB uB FB) (cB : hiB ≤ W.heap.size) (zB : WpSz FB), Calls Try.prog 61 #[uA, uB] W (fun e w' => e = .returned (.bool q) ∧ Below W.heap.size W w')) := Lib.hid (fun W uA hiA aA cA zA uB hiB aB cB zB => specVw_any uA uB FA FB r q W hiA hiB aA aB cA cB hr hq (FlSz.lens zA) zB)
  have HI : Hid (∀ (W : World) (uA : Value) (hiA : Nat) (aA : FxIn W hiA uA FA) (cA : hiA ≤ W.heap.size) (zA : FxSz FA) (uB : Value) (hiB : Nat) (aB : WpIn W hiB uB FB) (cB : hiB ≤ W.heap.size) (zB : WpSz FB), Calls Try.prog 63 #[uA, uB] W (fun e w' => e = .returned (.bool q) ∧ Below W.heap.size W w')) := Lib.hid (fun W uA hiA aA cA zA uB hiB aB cB zB => implVw_any uA uB FA FB r q W hiA hiB aA aB cA cB hr hq (FlSz.lens zA) zB)
  have hxx0 : ((q : Bool) != q) = false := by simp
  clear hFA hWA hFB hWB
  clear hr hq
  have BB := Lib.hid (Below.refl w.heap.size w)
  have AL := Lib.hid (((Below.refl w.heap.size w).alloc (Nat.le_refl _) (.cells #[cA0, cA1, cA2, cA3, cA4, cA5, cA6, cA7] 73)).alloc (by simp) (.cells #[cB0, cB1] 84))
  have hz : ((w.alloc (.cells #[cA0, cA1, cA2, cA3, cA4, cA5, cA6, cA7] 73)).alloc (.cells #[cB0, cB1] 84)).heap.size = w.heap.size + 2 := by simp
  obtain ⟨hRA, hRB, _⟩ := Rw.two_new w 73 84 #[cA0, cA1, cA2, cA3, cA4, cA5, cA6, cA7] #[cB0, cB1]
  have RA := Lib.hid hRA
  clear hRA
  have RB := Lib.hid hRB
  clear hRB
  go_enter Try.func13, Try.ntmps13
  go_wp2_with fail
  refine (HZA.out _ 1048576 (AA.out.same (sm AL.out _ (by omega))) (by omega) (by omega) (by omega)).mono ?_
  rintro e w1 ⟨yA, rfl, hy, b⟩
  by_cases hneg : yA < 0
  · go_wp2
    go_ret
    exact ⟨rfl, BB.out.trans ((AL.out.trans (b.mono (by omega))).mono (by omega))⟩
  have hnA : ¬ yA < 0 := hneg
  have HSA := Lib.hid (show FxSz FA by unfold FxSz; rcases hy with hy | hy <;> omega)
  have hyaA : 0 ≤ yA := by omega
  have hybA : yA ≤ 1048576 := by rcases hy with hy | hy <;> omega
  clear hneg hy
  have s1 := b.size
  rw [hz] at s1
  have b0 := b
  have b := AL.out.trans (b0.mono (by omega))
  have RA := Lib.hid (RA.out.below b0 (by omega))
  have RB := Lib.hid (RB.out.below b0 (by omega))
  clear b0
  have AA' := Lib.hid (AA.out.same (sm b _ (by omega)))
  clear AA
  have AA := AA'
  clear AA'
  have AB' := Lib.hid (AB.out.same (sm b _ (by omega)))
  clear AB
  have AB := AB'
  clear AB'
  have BB' := Lib.hid (BB.out.trans (b.mono (by omega)))
  clear BB b
  have BB := BB'
  clear BB'
  clear AL hz
  obtain ⟨q00, q01⟩ := RB.out.two_
  go_wp2_with fail
  refine (HZB.out _ yA AB.out (by omega) hyaA hybA).mono ?_
  rintro e w2 ⟨yB, rfl, hy, b⟩
  clear q00 q01
  by_cases hneg : yB < 0
  · go_wp2
    go_ret
    exact ⟨rfl, BB.out.trans (b.mono (by omega))⟩
  have hnB : ¬ yB < 0 := hneg
  have HSB := Lib.hid (show WpSz FB by unfold WpSz; rcases hy with hy | hy <;> omega)
  have hyaB : 0 ≤ yB := by omega
  have hybB : yB ≤ 1048576 := by rcases hy with hy | hy <;> omega
  clear hneg hy
  have s2 := b.size
  have AA' := Lib.hid (AA.out.same (sm b _ (by omega)))
  clear AA
  have AA := AA'
  clear AA'
  have AB' := Lib.hid (AB.out.same (sm b _ (by omega)))
  clear AB
  have AB := AB'
  clear AB'
  have RA := Lib.hid (RA.out.below b (by omega))
  have RB := Lib.hid (RB.out.below b (by omega))
  have BB' := Lib.hid (BB.out.trans (b.mono (by omega)))
  clear BB b
  have BB := BB'
  clear BB'
  clear hyaA hybA
  clear hyaB hybB
  go_wp2_with fail
  refine wp_region_held_drew (S := fun W => Rw W _ 73 #[cA0, cA1, cA2, cA3, cA4, cA5, cA6, cA7] ∧ Rw W _ 84 #[cB0, cB1]) (by kernel_rfl) ⟨show Rw w2.drew _ _ _ from RA.out, show Rw w2.drew _ _ _ from RB.out⟩ (fun hHeld => ?_)
  refine wpAnyH_take (i := 0) (oi := _) (v := .agg #[cA0, cA1, cA2, cA3, cA4, cA5, cA6, cA7]) rfl (by kernel_rfl) (by kernel_rfl) (by kernel_rfl) (fun _ _ _ h => h) (Or.inl ⟨by rfl, fun W hSw => by
    obtain ⟨q0, q1, q2, q3, q4, q5, q6, q7⟩ := hSw.1.eight
    go_simp⟩) hHeld ?_
  refine wpAnyH_take (i := 2) (oi := _) (v := .agg #[cB0, cB1]) rfl (by kernel_rfl) (by kernel_rfl) (by kernel_rfl) (fun _ _ _ h => h) (Or.inl ⟨by rfl, fun W hSw => by
    obtain ⟨q0, q1⟩ := hSw.2.two_
    go_simp⟩) hHeld ?_
  refine wpAnyH_ready (rs := [1]) (by kernel_rfl) (by simp) ?_
  refine AllReadyH.cons (o := _) rfl (fun K hK => ?_) AllReadyH.nil
  go_simp
  refine (HTA.out w2.drew (show FxIn w2.drew _ _ _ from AA.out) (by simp; omega) HSA.out).mono ?_
  rintro e w3 ⟨vt, rfl, ho, b0⟩
  have b := (Below.refl w2.heap.size w2).drew.trans b0
  have hrA := RA.out.below b (by omega)
  have hrB := RB.out.below b (by omega)
  refine hK.out _ _ ⟨hrA, hrB⟩ (fun hHeld => ?_)
  clear hK K hrA hrB b0 hHeld
  have s3 := b.size
  have AA' := Lib.hid (AA.out.same (sm b _ (by omega)))
  clear AA
  have AA := AA'
  clear AA'
  have AB' := Lib.hid (AB.out.same (sm b _ (by omega)))
  clear AB
  have AB := AB'
  clear AB'
  have RA := Lib.hid (RA.out.below b (by omega))
  have RB := Lib.hid (RB.out.below b (by omega))
  have BB' := Lib.hid (BB.out.trans (b.mono (by omega)))
  clear BB b
  have BB := BB'
  clear BB'
  have T := Lib.hid ho
  clear ho
  refine wpAnyH_ready (rs := [3]) (by kernel_rfl) (by simp) ?_
  refine AllReadyH.cons (o := _) rfl (fun K hK => ?_) AllReadyH.nil
  go_simp
  refine (HTB.out w3 AB.out (by omega) HSB.out).mono ?_
  rintro e w4 ⟨vu, rfl, ho, b0⟩
  have b := b0
  have hrA := RA.out.below b (by omega)
  have hrB := RB.out.below b (by omega)
  refine hK.out _ _ ⟨hrA, hrB⟩ (fun hHeld => ?_)
  clear hK K hrA hrB b0 hHeld
  have s4 := b.size
  have AA' := Lib.hid (AA.out.same (sm b _ (by omega)))
  clear AA
  have AA := AA'
  clear AA'
  have AB' := Lib.hid (AB.out.same (sm b _ (by omega)))
  clear AB
  have AB := AB'
  clear AB'
  have T' := Lib.hid (T.out.same (sm b _ (by omega)))
  clear T
  have T := T'
  clear T'
  have RA := Lib.hid (RA.out.below b (by omega))
  have RB := Lib.hid (RB.out.below b (by omega))
  have BB' := Lib.hid (BB.out.trans (b.mono (by omega)))
  clear BB b
  have BB := BB'
  clear BB'
  have U := Lib.hid ho
  clear ho
  refine wpAnyH_ready (rs := [4]) (by kernel_rfl) (by simp) ?_
  refine AllReadyH.cons (o := _) rfl (fun K hK => ?_) AllReadyH.nil
  go_simp
  refine (HS.out _ _ _ T.out.reads (by omega) HSA.out _ _ U.out.reads (by omega) HSB.out).mono ?_
  rintro e w5 ⟨rfl, b⟩
  have hrA := RA.out.below b (by omega)
  have hrB := RB.out.below b (by omega)
  refine hK.out _ _ ⟨hrA, hrB⟩ (fun hHeld => ?_)
  clear hK K hrA hrB
  clear T
  clear U
  have s5 := b.size
  have AA' := Lib.hid (AA.out.same (sm b _ (by omega)))
  clear AA
  have AA := AA'
  clear AA'
  have AB' := Lib.hid (AB.out.same (sm b _ (by omega)))
  clear AB
  have AB := AB'
  clear AB'
  have RA := Lib.hid (RA.out.below b (by omega))
  have RB := Lib.hid (RB.out.below b (by omega))
  have BB' := Lib.hid (BB.out.trans (b.mono (by omega)))
  clear BB b
  have BB := BB'
  clear BB'
  refine wpAnyH_ready (rs := [5]) (by kernel_rfl) (by simp) ?_
  refine AllReadyH.cons (o := _) rfl (fun K hK => ?_) AllReadyH.nil
  go_simp
  refine hK.out _ _ ⟨RA.out, RB.out⟩ (fun hHeld => ?_)
  clear hK K
  refine wpAnyH_done (by kernel_rfl) ?_ _
  clear hHeld
  obtain ⟨q00, q01, q02, q03, q04, q05, q06, q07⟩ := RA.out.eight
  go_wp2_with fail
  refine (HTA.out _ AA.out (by omega) HSA.out).mono ?_
  rintro e w6 ⟨vxa, rfl, ho, b⟩
  clear q00 q01 q02 q03 q04 q05 q06 q07
  have s6 := b.size
  have AA' := Lib.hid (AA.out.same (sm b _ (by omega)))
  clear AA
  have AA := AA'
  clear AA'
  have AB' := Lib.hid (AB.out.same (sm b _ (by omega)))
  clear AB
  have AB := AB'
  clear AB'
  have RA := Lib.hid (RA.out.below b (by omega))
  have RB := Lib.hid (RB.out.below b (by omega))
  have BB' := Lib.hid (BB.out.trans (b.mono (by omega)))
  clear BB b
  have BB := BB'
  clear BB'
  obtain ⟨vxa0, vxa1, vxa2, vxa3, vxa4, vxa5, vxa6, vxa7, vxa8, vxa9, rfl⟩ := ho.agg8
  have XA := Lib.hid ho
  clear ho
  have AL := Lib.hid ((Below.refl w6.heap.size w6).alloc (Nat.le_refl _) (.cells #[.int .i64 vxa0, .int .i64 vxa1, .int .i64 vxa2, .slice vxa3 vxa4 vxa5, .int .i64 vxa6, .int .i64 vxa7, .bool vxa8, .int .i64 vxa9] 79))
  have hz : (w6.alloc (.cells #[.int .i64 vxa0, .int .i64 vxa1, .int .i64 vxa2, .slice vxa3 vxa4 vxa5, .int .i64 vxa6, .int .i64 vxa7, .bool vxa8, .int .i64 vxa9] 79)).heap.size = w6.heap.size + 1 := by simp
  have RXA := Lib.hid (Rw.new w6 79 #[.int .i64 vxa0, .int .i64 vxa1, .int .i64 vxa2, .slice vxa3 vxa4 vxa5, .int .i64 vxa6, .int .i64 vxa7, .bool vxa8, .int .i64 vxa9])
  obtain ⟨q00, q01⟩ := (Lib.hid (Rw.below RB.out AL.out (by omega))).out.two_
  go_wp2_with fail
  refine (HTB.out _ (AB.out.same (sm AL.out _ (by omega))) (by omega) HSB.out).mono ?_
  rintro e w7 ⟨vxb, rfl, ho, b⟩
  clear q00 q01
  have s7 := b.size
  rw [hz] at ho
  rw [hz] at s7
  have b0 := b
  have b := AL.out.trans (b0.mono (by omega))
  have RXA := Lib.hid (RXA.out.below b0 (by omega))
  clear b0
  have AA' := Lib.hid (AA.out.same (sm b _ (by omega)))
  clear AA
  have AA := AA'
  clear AA'
  have AB' := Lib.hid (AB.out.same (sm b _ (by omega)))
  clear AB
  have AB := AB'
  clear AB'
  have XA' := Lib.hid (XA.out.same (sm b _ (by omega)))
  clear XA
  have XA := XA'
  clear XA'
  have RA := Lib.hid (RA.out.below b (by omega))
  have RB := Lib.hid (RB.out.below b (by omega))
  have BB' := Lib.hid (BB.out.trans (b.mono (by omega)))
  clear BB b
  have BB := BB'
  clear BB'
  clear AL hz
  obtain ⟨vxb0, vxb1, vxb2, vxb3, rfl⟩ := ho.agg_
  have XB := Lib.hid ho
  clear ho
  have AL := Lib.hid ((Below.refl w7.heap.size w7).alloc (Nat.le_refl _) (.cells #[.slice vxb0 vxb1 vxb2, .int .i64 vxb3] 87))
  have hz : (w7.alloc (.cells #[.slice vxb0 vxb1 vxb2, .int .i64 vxb3] 87)).heap.size = w7.heap.size + 1 := by simp
  have RXB := Lib.hid (Rw.new w7 87 #[.slice vxb0 vxb1 vxb2, .int .i64 vxb3])
  obtain ⟨q00, q01, q02, q03, q04, q05, q06, q07⟩ := (Lib.hid (Rw.below RXA.out AL.out (by omega))).out.eight
  go_wp2_with fail
  refine (HI.out _ _ _ (XA.out.same (sm AL.out _ (by omega))).reads (by omega) HSA.out _ _ (XB.out.same (sm AL.out _ (by omega))).reads (by omega) HSB.out).mono ?_
  rintro e w8 ⟨rfl, b⟩
  clear q00 q01 q02 q03 q04 q05 q06 q07
  have s8 := b.size
  rw [hz] at s8
  have b0 := b
  have b := AL.out.trans (b0.mono (by omega))
  have RXB := Lib.hid (RXB.out.below b0 (by omega))
  clear b0
  have AA' := Lib.hid (AA.out.same (sm b _ (by omega)))
  clear AA
  have AA := AA'
  clear AA'
  have AB' := Lib.hid (AB.out.same (sm b _ (by omega)))
  clear AB
  have AB := AB'
  clear AB'
  have XA' := Lib.hid (XA.out.same (sm b _ (by omega)))
  clear XA
  have XA := XA'
  clear XA'
  have XB' := Lib.hid (XB.out.same (sm b _ (by omega)))
  clear XB
  have XB := XB'
  clear XB'
  have RA := Lib.hid (RA.out.below b (by omega))
  have RB := Lib.hid (RB.out.below b (by omega))
  have RXA := Lib.hid (RXA.out.below b (by omega))
  have BB' := Lib.hid (BB.out.trans (b.mono (by omega)))
  clear BB b
  have BB := BB'
  clear BB'
  clear AL hz
  go_wp2_with fail
  refine wp_region_held_drew (S := fun W => Rw W _ 79 #[.int .i64 vxa0, .int .i64 vxa1, .int .i64 vxa2, .slice vxa3 vxa4 vxa5, .int .i64 vxa6, .int .i64 vxa7, .bool vxa8, .int .i64 vxa9] ∧ Rw W _ 73 #[cA0, cA1, cA2, cA3, cA4, cA5, cA6, cA7]) (by kernel_rfl) ⟨show Rw w8.drew _ _ _ from RXA.out, show Rw w8.drew _ _ _ from RA.out⟩ (fun hHeld => ?_)
  refine wpAnyH_take (i := 0) (oi := _) (v := .agg #[.int .i64 vxa0, .int .i64 vxa1, .int .i64 vxa2, .slice vxa3 vxa4 vxa5, .int .i64 vxa6, .int .i64 vxa7, .bool vxa8, .int .i64 vxa9]) rfl (by kernel_rfl) (by kernel_rfl) (by kernel_rfl) (fun _ _ _ h => h) (Or.inl ⟨by rfl, fun W hSw => by
    obtain ⟨q0, q1, q2, q3, q4, q5, q6, q7⟩ := hSw.1.eight
    go_simp⟩) hHeld ?_
  refine wpAnyH_take (i := 1) (oi := _) (v := .agg #[cA0, cA1, cA2, cA3, cA4, cA5, cA6, cA7]) rfl (by kernel_rfl) (by kernel_rfl) (by kernel_rfl) (fun _ _ _ h => h) (Or.inl ⟨by rfl, fun W hSw => by
    obtain ⟨q0, q1, q2, q3, q4, q5, q6, q7⟩ := hSw.2.eight
    go_simp⟩) hHeld ?_
  refine wpAnyH_ready (rs := [2]) (by kernel_rfl) (by simp) ?_
  refine AllReadyH.cons (o := _) rfl (fun K hK => ?_) AllReadyH.nil
  go_simp
  refine (HTA.out w8.drew (show FxIn w8.drew _ _ _ from AA.out) (by simp; omega) HSA.out).mono ?_
  rintro e w9 ⟨vy, rfl, ho, b0⟩
  have b := (Below.refl w8.heap.size w8).drew.trans b0
  have hr1 := RXA.out.below b (by omega)
  have hr2 := RA.out.below b (by omega)
  refine hK.out _ _ ⟨hr1, hr2⟩ (fun hHeld => ?_)
  clear hK K hr1 hr2 b0 hHeld
  have s9 := b.size
  have AA' := Lib.hid (AA.out.same (sm b _ (by omega)))
  clear AA
  have AA := AA'
  clear AA'
  have AB' := Lib.hid (AB.out.same (sm b _ (by omega)))
  clear AB
  have AB := AB'
  clear AB'
  have XA' := Lib.hid (XA.out.same (sm b _ (by omega)))
  clear XA
  have XA := XA'
  clear XA'
  have XB' := Lib.hid (XB.out.same (sm b _ (by omega)))
  clear XB
  have XB := XB'
  clear XB'
  have RA := Lib.hid (RA.out.below b (by omega))
  have RB := Lib.hid (RB.out.below b (by omega))
  have RXA := Lib.hid (RXA.out.below b (by omega))
  have RXB := Lib.hid (RXB.out.below b (by omega))
  have BB' := Lib.hid (BB.out.trans (b.mono (by omega)))
  clear BB b
  have BB := BB'
  clear BB'
  have Y := Lib.hid ho
  clear ho
  refine wpAnyH_ready (rs := [3]) (by kernel_rfl) (by simp) ?_
  refine AllReadyH.cons (o := _) rfl (fun K hK => ?_) AllReadyH.nil
  go_simp
  refine (eqFx_any _ _ _ w9 _ _ XA.out.reads Y.out.reads (by omega) (by omega) HSA.out).mono ?_
  rintro e w10 ⟨rfl, b⟩
  have hr1 := RXA.out.below b (by omega)
  have hr2 := RA.out.below b (by omega)
  refine hK.out _ _ ⟨hr1, hr2⟩ (fun hHeld => ?_)
  clear hK K hr1 hr2
  clear Y
  have s10 := b.size
  have AA' := Lib.hid (AA.out.same (sm b _ (by omega)))
  clear AA
  have AA := AA'
  clear AA'
  have AB' := Lib.hid (AB.out.same (sm b _ (by omega)))
  clear AB
  have AB := AB'
  clear AB'
  have XA' := Lib.hid (XA.out.same (sm b _ (by omega)))
  clear XA
  have XA := XA'
  clear XA'
  have XB' := Lib.hid (XB.out.same (sm b _ (by omega)))
  clear XB
  have XB := XB'
  clear XB'
  have RA := Lib.hid (RA.out.below b (by omega))
  have RB := Lib.hid (RB.out.below b (by omega))
  have RXA := Lib.hid (RXA.out.below b (by omega))
  have RXB := Lib.hid (RXB.out.below b (by omega))
  have BB' := Lib.hid (BB.out.trans (b.mono (by omega)))
  clear BB b
  have BB := BB'
  clear BB'
  refine wpAnyH_ready (rs := [4]) (by kernel_rfl) (by simp) ?_
  refine AllReadyH.cons (o := _) rfl (fun K hK => ?_) AllReadyH.nil
  go_simp
  refine hK.out _ _ ⟨RXA.out, RA.out⟩ (fun hHeld => ?_)
  clear hK K
  refine wpAnyH_done (by kernel_rfl) ?_ _
  clear hHeld
  go_wp2_with fail
  refine wp_region_held_drew (S := fun W => Rw W _ 87 #[.slice vxb0 vxb1 vxb2, .int .i64 vxb3] ∧ Rw W _ 84 #[cB0, cB1]) (by kernel_rfl) ⟨show Rw w10.drew _ _ _ from RXB.out, show Rw w10.drew _ _ _ from RB.out⟩ (fun hHeld => ?_)
  refine wpAnyH_take (i := 0) (oi := _) (v := .agg #[.slice vxb0 vxb1 vxb2, .int .i64 vxb3]) rfl (by kernel_rfl) (by kernel_rfl) (by kernel_rfl) (fun _ _ _ h => h) (Or.inl ⟨by rfl, fun W hSw => by
    obtain ⟨q0, q1⟩ := hSw.1.two_
    go_simp⟩) hHeld ?_
  refine wpAnyH_take (i := 1) (oi := _) (v := .agg #[cB0, cB1]) rfl (by kernel_rfl) (by kernel_rfl) (by kernel_rfl) (fun _ _ _ h => h) (Or.inl ⟨by rfl, fun W hSw => by
    obtain ⟨q0, q1⟩ := hSw.2.two_
    go_simp⟩) hHeld ?_
  refine wpAnyH_ready (rs := [2]) (by kernel_rfl) (by simp) ?_
  refine AllReadyH.cons (o := _) rfl (fun K hK => ?_) AllReadyH.nil
  go_simp
  refine (HTB.out w10.drew (show WpIn w10.drew _ _ _ from AB.out) (by simp; omega) HSB.out).mono ?_
  rintro e w11 ⟨vy, rfl, ho, b0⟩
  have b := (Below.refl w10.heap.size w10).drew.trans b0
  have hr1 := RXB.out.below b (by omega)
  have hr2 := RB.out.below b (by omega)
  refine hK.out _ _ ⟨hr1, hr2⟩ (fun hHeld => ?_)
  clear hK K hr1 hr2 b0 hHeld
  have s11 := b.size
  have AA' := Lib.hid (AA.out.same (sm b _ (by omega)))
  clear AA
  have AA := AA'
  clear AA'
  have AB' := Lib.hid (AB.out.same (sm b _ (by omega)))
  clear AB
  have AB := AB'
  clear AB'
  have XA' := Lib.hid (XA.out.same (sm b _ (by omega)))
  clear XA
  have XA := XA'
  clear XA'
  have XB' := Lib.hid (XB.out.same (sm b _ (by omega)))
  clear XB
  have XB := XB'
  clear XB'
  have RA := Lib.hid (RA.out.below b (by omega))
  have RB := Lib.hid (RB.out.below b (by omega))
  have RXA := Lib.hid (RXA.out.below b (by omega))
  have RXB := Lib.hid (RXB.out.below b (by omega))
  have BB' := Lib.hid (BB.out.trans (b.mono (by omega)))
  clear BB b
  have BB := BB'
  clear BB'
  have Y := Lib.hid ho
  clear ho
  refine wpAnyH_ready (rs := [3]) (by kernel_rfl) (by simp) ?_
  refine AllReadyH.cons (o := _) rfl (fun K hK => ?_) AllReadyH.nil
  go_simp
  refine (eqWp_any _ _ _ w11 _ _ XB.out.reads Y.out.reads (by omega) (by omega) HSB.out).mono ?_
  rintro e w12 ⟨rfl, b⟩
  have hr1 := RXB.out.below b (by omega)
  have hr2 := RB.out.below b (by omega)
  refine hK.out _ _ ⟨hr1, hr2⟩ (fun hHeld => ?_)
  clear hK K hr1 hr2
  clear Y
  have s12 := b.size
  have AA' := Lib.hid (AA.out.same (sm b _ (by omega)))
  clear AA
  have AA := AA'
  clear AA'
  have AB' := Lib.hid (AB.out.same (sm b _ (by omega)))
  clear AB
  have AB := AB'
  clear AB'
  have XA' := Lib.hid (XA.out.same (sm b _ (by omega)))
  clear XA
  have XA := XA'
  clear XA'
  have XB' := Lib.hid (XB.out.same (sm b _ (by omega)))
  clear XB
  have XB := XB'
  clear XB'
  have RA := Lib.hid (RA.out.below b (by omega))
  have RB := Lib.hid (RB.out.below b (by omega))
  have RXA := Lib.hid (RXA.out.below b (by omega))
  have RXB := Lib.hid (RXB.out.below b (by omega))
  have BB' := Lib.hid (BB.out.trans (b.mono (by omega)))
  clear BB b
  have BB := BB'
  clear BB'
  refine wpAnyH_ready (rs := [4]) (by kernel_rfl) (by simp) ?_
  refine AllReadyH.cons (o := _) rfl (fun K hK => ?_) AllReadyH.nil
  go_simp
  refine hK.out _ _ ⟨RXB.out, RB.out⟩ (fun hHeld => ?_)
  clear hK K
  refine wpAnyH_done (by kernel_rfl) ?_ _
  clear hHeld
  go_wp2
  go_ret
  exact ⟨rfl, BB.out⟩
end Go.Proofs.Ytgamoiagpglcmaa
