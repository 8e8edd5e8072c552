/- The law FnExactIsWiped, walked: every call by its contract. -/
import Derived.Test.YtgamoiagpglcmaaProg
import Derived.Test.YtgamoiagpglcmaaRwX
import Derived.Test.YtgamoiagpglcmaaLu
import Derived.Test.YtgamoiagpglcmaaFlU_
import Derived.Test.YtgamoiagpglcmaaFlO
import Derived.Test.YtgamoiagpglcmaaWqS
import Derived.Test.YtgamoiagpglcmaaWqI
namespace Go.Proofs.Ytgamoiagpglcmaa
open Go.RowKit
set_option linter.unusedVariables false
set_option linter.unusedSimpArgs false
set_option maxHeartbeats 4000000 in
set_option maxRecDepth 100000 in
theorem wkIwp (vA : Value) (FA : Fl) (bk : Int) (w : World) (hFA : FxIn w w.heap.size vA FA) (hWA : FxW FA) (hwB : (Lit.int .i64 bk).wf = true) :
    Calls Try.prog 12 #[vA, .int .i64 bk] w fun e w' => e = .returned (.bool true) ∧ Below w.heap.size w w' := by
  obtain ⟨cA0, cA1, cA2, cA3, cA4, cA5, cA6, cA7, rfl⟩ : ∃ cA0 cA1 cA2 cA3 cA4 cA5 cA6 cA7, vA = .agg #[cA0, cA1, cA2, cA3, cA4, cA5, cA6, cA7] := by
    obtain ⟨kA0, kA1, kA2, kA3, kA4, kA5, kA6, kA7, kA8, kA9, e⟩ := hFA.agg8
    exact ⟨_, _, _, _, _, _, _, _, e⟩
  have AA := Lib.hid hFA
  have HZA := Lib.hid (fun (W : World) (m : Int) (a : FxIn W w.heap.size (.agg #[cA0, cA1, cA2, cA3, cA4, cA5, cA6, cA7]) FA) (c : w.heap.size ≤ W.heap.size) (h0 : 0 ≤ m) (h1 : m ≤ 1048576) => szFxM_any _ FA W w.heap.size m a c h0 h1)
  have HTA := Lib.hid (fun (W : World) (a : FxIn W w.heap.size (.agg #[cA0, cA1, cA2, cA3, cA4, cA5, cA6, cA7]) FA) (c : w.heap.size ≤ W.heap.size) (z : FxSz FA) => toFx_any _ FA W w.heap.size a c z)
  obtain ⟨r, hr⟩ := prop_dec' (FlOk FA)
  obtain ⟨q, hq⟩ := prop_dec' (WipedIs FA r bk)
  have HS : Hid (∀ (W : World) (uA : Value) (hiA : Nat) (aA : FxIn W hiA uA FA) (cA : hiA ≤ W.heap.size) (zA : FxSz FA), Calls Try.prog 56 #[uA, .int .i64 bk] W (fun e w' => e = .returned (.bool q) ∧ Below W.heap.size W w')) := Lib.hid (fun W uA hiA aA cA zA => specIw_any uA FA bk r q W hiA aA cA hr hq (FlSz.lens zA))
  have HI : Hid (∀ (W : World) (uA : Value) (hiA : Nat) (aA : FxIn W hiA uA FA) (cA : hiA ≤ W.heap.size) (zA : FxSz FA), Calls Try.prog 58 #[uA, .int .i64 bk] W (fun e w' => e = .returned (.bool q) ∧ Below W.heap.size W w')) := Lib.hid (fun W uA hiA aA cA zA => implIw_any uA FA bk r q W hiA aA cA hr hq (FlSz.lens zA))
  have hxx0 : ((q : Bool) != q) = false := by simp
  clear hFA hWA hwB
  clear hr hq
  have BB := Lib.hid (Below.refl w.heap.size w)
  have AL := Lib.hid ((Below.refl w.heap.size w).alloc (Nat.le_refl _) (.cells #[cA0, cA1, cA2, cA3, cA4, cA5, cA6, cA7] 73))
  have hz : (w.alloc (.cells #[cA0, cA1, cA2, cA3, cA4, cA5, cA6, cA7] 73)).heap.size = w.heap.size + 1 := by simp
  have RA := Lib.hid (Rw.new w 73 #[cA0, cA1, cA2, cA3, cA4, cA5, cA6, cA7])
  go_enter Try.func12, Try.ntmps12
  go_wp2_with fail
  refine (HZA.out _ 1048576 (AA.out.same (sm AL.out _ (by omega))) (by omega) (by omega) (by omega)).mono ?_
  rintro e w1 ⟨yA, rfl, hy, b⟩
  by_cases hneg : yA < 0
  · go_wp2
    go_ret
    exact ⟨rfl, BB.out.trans ((AL.out.trans (b.mono (by omega))).mono (by omega))⟩
  have hnA : ¬ yA < 0 := hneg
  have HSA := Lib.hid (show FxSz FA by unfold FxSz; rcases hy with hy | hy <;> omega)
  have hyaA : 0 ≤ yA := by omega
  have hybA : yA ≤ 1048576 := by rcases hy with hy | hy <;> omega
  clear hneg hy
  have s1 := b.size
  rw [hz] at s1
  have b0 := b
  have b := AL.out.trans (b0.mono (by omega))
  have RA := Lib.hid (RA.out.below b0 (by omega))
  clear b0
  have AA' := Lib.hid (AA.out.same (sm b _ (by omega)))
  clear AA
  have AA := AA'
  clear AA'
  have BB' := Lib.hid (BB.out.trans (b.mono (by omega)))
  clear BB b
  have BB := BB'
  clear BB'
  clear AL hz
  clear hyaA hybA
  obtain ⟨q00, q01, q02, q03, q04, q05, q06, q07⟩ := RA.out.eight
  go_wp2_with fail
  refine (HTA.out _ AA.out (by omega) HSA.out).mono ?_
  rintro e w2 ⟨vta, rfl, ho, b⟩
  clear q00 q01 q02 q03 q04 q05 q06 q07
  have s2 := b.size
  have AA' := Lib.hid (AA.out.same (sm b _ (by omega)))
  clear AA
  have AA := AA'
  clear AA'
  have RA := Lib.hid (RA.out.below b (by omega))
  have BB' := Lib.hid (BB.out.trans (b.mono (by omega)))
  clear BB b
  have BB := BB'
  clear BB'
  obtain ⟨vta0, vta1, vta2, vta3, vta4, vta5, vta6, vta7, vta8, vta9, rfl⟩ := ho.agg8
  have TA := Lib.hid ho
  clear ho
  go_wp2_with fail
  refine (HS.out _ _ _ TA.out.reads (by omega) HSA.out).mono ?_
  rintro e w3 ⟨rfl, b⟩
  have s3 := b.size
  have AA' := Lib.hid (AA.out.same (sm b _ (by omega)))
  clear AA
  have AA := AA'
  clear AA'
  have TA' := Lib.hid (TA.out.same (sm b _ (by omega)))
  clear TA
  have TA := TA'
  clear TA'
  have RA := Lib.hid (RA.out.below b (by omega))
  have BB' := Lib.hid (BB.out.trans (b.mono (by omega)))
  clear BB b
  have BB := BB'
  clear BB'
  clear TA
  obtain ⟨q00, q01, q02, q03, q04, q05, q06, q07⟩ := RA.out.eight
  go_wp2_with fail
  refine (HTA.out _ AA.out (by omega) HSA.out).mono ?_
  rintro e w4 ⟨vxa, rfl, ho, b⟩
  clear q00 q01 q02 q03 q04 q05 q06 q07
  have s4 := b.size
  have AA' := Lib.hid (AA.out.same (sm b _ (by omega)))
  clear AA
  have AA := AA'
  clear AA'
  have RA := Lib.hid (RA.out.below b (by omega))
  have BB' := Lib.hid (BB.out.trans (b.mono (by omega)))
  clear BB b
  have BB := BB'
  clear BB'
  obtain ⟨vxa0, vxa1, vxa2, vxa3, vxa4, vxa5, vxa6, vxa7, vxa8, vxa9, rfl⟩ := ho.agg8
  have XA := Lib.hid ho
  clear ho
  have AL := Lib.hid ((Below.refl w4.heap.size w4).alloc (Nat.le_refl _) (.cells #[.int .i64 vxa0, .int .i64 vxa1, .int .i64 vxa2, .slice vxa3 vxa4 vxa5, .int .i64 vxa6, .int .i64 vxa7, .bool vxa8, .int .i64 vxa9] 79))
  have hz : (w4.alloc (.cells #[.int .i64 vxa0, .int .i64 vxa1, .int .i64 vxa2, .slice vxa3 vxa4 vxa5, .int .i64 vxa6, .int .i64 vxa7, .bool vxa8, .int .i64 vxa9] 79)).heap.size = w4.heap.size + 1 := by simp
  have RXA := Lib.hid (Rw.new w4 79 #[.int .i64 vxa0, .int .i64 vxa1, .int .i64 vxa2, .slice vxa3 vxa4 vxa5, .int .i64 vxa6, .int .i64 vxa7, .bool vxa8, .int .i64 vxa9])
  go_wp2_with fail
  refine (HI.out _ _ _ (XA.out.same (sm AL.out _ (by omega))).reads (by omega) HSA.out).mono ?_
  rintro e w5 ⟨rfl, b⟩
  have s5 := b.size
  rw [hz] at s5
  have b0 := b
  have b := AL.out.trans (b0.mono (by omega))
  have RXA := Lib.hid (RXA.out.below b0 (by omega))
  clear b0
  have AA' := Lib.hid (AA.out.same (sm b _ (by omega)))
  clear AA
  have AA := AA'
  clear AA'
  have XA' := Lib.hid (XA.out.same (sm b _ (by omega)))
  clear XA
  have XA := XA'
  clear XA'
  have RA := Lib.hid (RA.out.below b (by omega))
  have BB' := Lib.hid (BB.out.trans (b.mono (by omega)))
  clear BB b
  have BB := BB'
  clear BB'
  clear AL hz
  go_wp2_with fail
  refine wp_region_held_drew (S := fun W => Rw W _ 79 #[.int .i64 vxa0, .int .i64 vxa1, .int .i64 vxa2, .slice vxa3 vxa4 vxa5, .int .i64 vxa6, .int .i64 vxa7, .bool vxa8, .int .i64 vxa9] ∧ Rw W _ 73 #[cA0, cA1, cA2, cA3, cA4, cA5, cA6, cA7]) (by kernel_rfl) ⟨show Rw w5.drew _ _ _ from RXA.out, show Rw w5.drew _ _ _ from RA.out⟩ (fun hHeld => ?_)
  refine wpAnyH_take (i := 0) (oi := _) (v := .agg #[.int .i64 vxa0, .int .i64 vxa1, .int .i64 vxa2, .slice vxa3 vxa4 vxa5, .int .i64 vxa6, .int .i64 vxa7, .bool vxa8, .int .i64 vxa9]) rfl (by kernel_rfl) (by kernel_rfl) (by kernel_rfl) (fun _ _ _ h => h) (Or.inl ⟨by rfl, fun W hSw => by
    obtain ⟨q0, q1, q2, q3, q4, q5, q6, q7⟩ := hSw.1.eight
    go_simp⟩) hHeld ?_
  refine wpAnyH_take (i := 1) (oi := _) (v := .agg #[cA0, cA1, cA2, cA3, cA4, cA5, cA6, cA7]) rfl (by kernel_rfl) (by kernel_rfl) (by kernel_rfl) (fun _ _ _ h => h) (Or.inl ⟨by rfl, fun W hSw => by
    obtain ⟨q0, q1, q2, q3, q4, q5, q6, q7⟩ := hSw.2.eight
    go_simp⟩) hHeld ?_
  refine wpAnyH_ready (rs := [2]) (by kernel_rfl) (by simp) ?_
  refine AllReadyH.cons (o := _) rfl (fun K hK => ?_) AllReadyH.nil
  go_simp
  refine (HTA.out w5.drew (show FxIn w5.drew _ _ _ from AA.out) (by simp; omega) HSA.out).mono ?_
  rintro e w6 ⟨vy, rfl, ho, b0⟩
  have b := (Below.refl w5.heap.size w5).drew.trans b0
  have hr1 := RXA.out.below b (by omega)
  have hr2 := RA.out.below b (by omega)
  refine hK.out _ _ ⟨hr1, hr2⟩ (fun hHeld => ?_)
  clear hK K hr1 hr2 b0 hHeld
  have s6 := b.size
  have AA' := Lib.hid (AA.out.same (sm b _ (by omega)))
  clear AA
  have AA := AA'
  clear AA'
  have XA' := Lib.hid (XA.out.same (sm b _ (by omega)))
  clear XA
  have XA := XA'
  clear XA'
  have RA := Lib.hid (RA.out.below b (by omega))
  have RXA := Lib.hid (RXA.out.below b (by omega))
  have BB' := Lib.hid (BB.out.trans (b.mono (by omega)))
  clear BB b
  have BB := BB'
  clear BB'
  have Y := Lib.hid ho
  clear ho
  refine wpAnyH_ready (rs := [3]) (by kernel_rfl) (by simp) ?_
  refine AllReadyH.cons (o := _) rfl (fun K hK => ?_) AllReadyH.nil
  go_simp
  refine (eqFx_any _ _ _ w6 _ _ XA.out.reads Y.out.reads (by omega) (by omega) HSA.out).mono ?_
  rintro e w7 ⟨rfl, b⟩
  have hr1 := RXA.out.below b (by omega)
  have hr2 := RA.out.below b (by omega)
  refine hK.out _ _ ⟨hr1, hr2⟩ (fun hHeld => ?_)
  clear hK K hr1 hr2
  clear Y
  have s7 := b.size
  have AA' := Lib.hid (AA.out.same (sm b _ (by omega)))
  clear AA
  have AA := AA'
  clear AA'
  have XA' := Lib.hid (XA.out.same (sm b _ (by omega)))
  clear XA
  have XA := XA'
  clear XA'
  have RA := Lib.hid (RA.out.below b (by omega))
  have RXA := Lib.hid (RXA.out.below b (by omega))
  have BB' := Lib.hid (BB.out.trans (b.mono (by omega)))
  clear BB b
  have BB := BB'
  clear BB'
  refine wpAnyH_ready (rs := [4]) (by kernel_rfl) (by simp) ?_
  refine AllReadyH.cons (o := _) rfl (fun K hK => ?_) AllReadyH.nil
  go_simp
  refine hK.out _ _ ⟨RXA.out, RA.out⟩ (fun hHeld => ?_)
  clear hK K
  refine wpAnyH_done (by kernel_rfl) ?_ _
  clear hHeld
  go_wp2
  go_ret
  exact ⟨rfl, BB.out⟩
end Go.Proofs.Ytgamoiagpglcmaa
