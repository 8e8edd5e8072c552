/- The proof's own lemmas, part 50: WkLvw. -/
import Derived.Test.YtainlanblpccjaaProg
import Derived.Test.YtainlanblpccjaaMg9
import Derived.Test.YtainlanblpccjaaMg11
import Derived.Test.YtainlanblpccjaaMg10
import Derived.Test.YtainlanblpccjaaMg12
import Derived.Test.YtainlanblpccjaaMg48
/- The law FnExactLevelWear, walked: every call by its contract. -/
namespace Go.Proofs.Ytainlanblpccjaa
open Go.RowKit
set_option linter.unusedVariables false
set_option linter.unusedSimpArgs false
set_option maxHeartbeats 4000000 in
set_option maxRecDepth 100000 in
theorem wkLvw (vA : Value) (FA : We) (w : World) (hFA : WeIn w w.heap.size vA FA) (hWA : WeW FA) :
    Calls Try.prog 5 #[vA] w fun e w' => e = .returned (.bool true) ∧ Below w.heap.size w w' := by
  obtain ⟨cA0, cA1, cA2, cA3, rfl⟩ : ∃ cA0 cA1 cA2 cA3, vA = .agg #[cA0, cA1, cA2, cA3] := by
    obtain ⟨kA0, kA1, kA2, kA3, kA4, kA5, kA6, kA7, kA8, kA9, e⟩ := hFA.agg_
    exact ⟨_, _, _, _, e⟩
  have AA := Lib.hid hFA
  have HZA := Lib.hid (fun (W : World) (m : Int) (a : WeIn W w.heap.size (.agg #[cA0, cA1, cA2, cA3]) FA) (c : w.heap.size ≤ W.heap.size) (h0 : 0 ≤ m) (h1 : m ≤ 1048576) => szWeM_any _ FA W w.heap.size m a c h0 h1)
  have HTA := Lib.hid (fun (W : World) (a : WeIn W w.heap.size (.agg #[cA0, cA1, cA2, cA3]) FA) (c : w.heap.size ≤ W.heap.size) (z : WeSz FA) => toWe_any _ FA W w.heap.size a c z)
  obtain ⟨r, hr⟩ := prop_dec' (WeOk FA)
  obtain ⟨G0, p, cd, hG⟩ := lvwIs FA r
  have HGZ := Lib.hid (show WeSz FA → WeSz G0 from fun z => lvwIs_sz hG z)
  have HS : Hid (∀ (W : World) (uA : Value) (hiA : Nat) (aA : WeIn W hiA uA FA) (cA : hiA ≤ W.heap.size) (zA : WeSz FA), Calls Try.prog 24 #[uA] W (fun e w' => ∃ r0, e = .returned (.tuple #[r0, .int .i64 p, .int .i64 cd]) ∧ WeOwn w' W.heap.size w'.heap.size r0 G0 ∧ Below W.heap.size W w')) := Lib.hid (fun W uA hiA aA cA zA => specLvw_any uA FA r G0 p cd W hiA aA cA hr hG zA)
  have HI : Hid (∀ (W : World) (uA : Value) (hiA : Nat) (aA : WeIn W hiA uA FA) (cA : hiA ≤ W.heap.size) (zA : WeSz FA), Calls Try.prog 25 #[uA] W (fun e w' => ∃ r0, e = .returned (.tuple #[r0, .int .i64 p, .int .i64 cd]) ∧ WeOwn w' W.heap.size w'.heap.size r0 G0 ∧ Below W.heap.size W w')) := Lib.hid (fun W uA hiA aA cA zA => implLvw_any uA FA r G0 p cd W hiA aA cA hr hG zA)
  have hxx1 : ((p : Int) != p) = false := by simp
  have hxx2 : ((cd : Int) != cd) = false := by simp
  clear hFA hWA
  clear hr hG
  have BB := Lib.hid (Below.refl w.heap.size w)
  have AL := Lib.hid ((Below.refl w.heap.size w).alloc (Nat.le_refl _) (.cells #[cA0, cA1, cA2, cA3] 25))
  have hz : (w.alloc (.cells #[cA0, cA1, cA2, cA3] 25)).heap.size = w.heap.size + 1 := by simp
  have RA := Lib.hid (Rw.new w 25 #[cA0, cA1, cA2, cA3])
  go_enter Try.func5, Try.ntmps5
  go_wp2_with fail
  refine (HZA.out _ 1048576 (AA.out.same (sm AL.out _ (by omega))) (by omega) (by omega) (by omega)).mono ?_
  rintro e w1 ⟨yA, rfl, hy, b⟩
  by_cases hneg : yA < 0
  · go_wp2
    go_ret
    exact ⟨rfl, BB.out.trans ((AL.out.trans (b.mono (by omega))).mono (by omega))⟩
  have hnA : ¬ yA < 0 := hneg
  have HSA := Lib.hid (show WeSz FA by unfold WeSz; rcases hy with hy | hy <;> omega)
  have hyaA : 0 ≤ yA := by omega
  have hybA : yA ≤ 1048576 := by rcases hy with hy | hy <;> omega
  clear hneg hy
  have s1 := b.size
  rw [hz] at s1
  have b0 := b
  have b := AL.out.trans (b0.mono (by omega))
  have RA := Lib.hid (RA.out.below b0 (by omega))
  clear b0
  have AA' := Lib.hid (AA.out.same (sm b _ (by omega)))
  clear AA
  have AA := AA'
  clear AA'
  have BB' := Lib.hid (BB.out.trans (b.mono (by omega)))
  clear BB b
  have BB := BB'
  clear BB'
  clear AL hz
  clear hyaA hybA
  have HSG := Lib.hid (HGZ.out HSA.out)
  obtain ⟨q00, q01, q02, q03⟩ := RA.out.four
  go_wp2_with fail
  refine (HTA.out _ AA.out (by omega) HSA.out).mono ?_
  rintro e w2 ⟨vta, rfl, ho, b⟩
  clear q00 q01 q02 q03
  have s2 := b.size
  have AA' := Lib.hid (AA.out.same (sm b _ (by omega)))
  clear AA
  have AA := AA'
  clear AA'
  have RA := Lib.hid (RA.out.below b (by omega))
  have BB' := Lib.hid (BB.out.trans (b.mono (by omega)))
  clear BB b
  have BB := BB'
  clear BB'
  obtain ⟨vta0, vta1, vta2, vta3, vta4, vta5, vta6, vta7, vta8, vta9, rfl⟩ := ho.agg_
  have TA := Lib.hid ho
  clear ho
  go_wp2_with fail
  refine (HS.out _ _ _ TA.out.reads (by omega) HSA.out).mono ?_
  rintro e w3 ⟨vs, rfl, ho, b⟩
  have s3 := b.size
  have AA' := Lib.hid (AA.out.same (sm b _ (by omega)))
  clear AA
  have AA := AA'
  clear AA'
  have TA' := Lib.hid (TA.out.same (sm b _ (by omega)))
  clear TA
  have TA := TA'
  clear TA'
  have RA := Lib.hid (RA.out.below b (by omega))
  have BB' := Lib.hid (BB.out.trans (b.mono (by omega)))
  clear BB b
  have BB := BB'
  clear BB'
  obtain ⟨vs0, vs1, vs2, vs3, vs4, vs5, vs6, vs7, vs8, vs9, rfl⟩ := ho.agg_
  have S := Lib.hid ho
  clear ho
  have AL := Lib.hid ((Below.refl w3.heap.size w3).alloc (Nat.le_refl _) (.cells #[.slice vs0 vs1 vs2, .slice vs3 vs4 vs5, .slice vs6 vs7 vs8, .int .i64 vs9] 27))
  have hz : (w3.alloc (.cells #[.slice vs0 vs1 vs2, .slice vs3 vs4 vs5, .slice vs6 vs7 vs8, .int .i64 vs9] 27)).heap.size = w3.heap.size + 1 := by simp
  have RS := Lib.hid (Rw.new w3 27 #[.slice vs0 vs1 vs2, .slice vs3 vs4 vs5, .slice vs6 vs7 vs8, .int .i64 vs9])
  clear TA
  obtain ⟨q00, q01, q02, q03⟩ := (Lib.hid (Rw.below RA.out AL.out (by omega))).out.four
  go_wp2_with fail
  refine (HTA.out _ (AA.out.same (sm AL.out _ (by omega))) (by omega) HSA.out).mono ?_
  rintro e w4 ⟨vxa, rfl, ho, b⟩
  clear q00 q01 q02 q03
  have s4 := b.size
  rw [hz] at ho
  rw [hz] at s4
  have b0 := b
  have b := AL.out.trans (b0.mono (by omega))
  have RS := Lib.hid (RS.out.below b0 (by omega))
  clear b0
  have AA' := Lib.hid (AA.out.same (sm b _ (by omega)))
  clear AA
  have AA := AA'
  clear AA'
  have S' := Lib.hid (S.out.same (sm b _ (by omega)))
  clear S
  have S := S'
  clear S'
  have RA := Lib.hid (RA.out.below b (by omega))
  have BB' := Lib.hid (BB.out.trans (b.mono (by omega)))
  clear BB b
  have BB := BB'
  clear BB'
  clear AL hz
  obtain ⟨vxa0, vxa1, vxa2, vxa3, vxa4, vxa5, vxa6, vxa7, vxa8, vxa9, rfl⟩ := ho.agg_
  have XA := Lib.hid ho
  clear ho
  have AL := Lib.hid ((Below.refl w4.heap.size w4).alloc (Nat.le_refl _) (.cells #[.slice vxa0 vxa1 vxa2, .slice vxa3 vxa4 vxa5, .slice vxa6 vxa7 vxa8, .int .i64 vxa9] 27))
  have hz : (w4.alloc (.cells #[.slice vxa0 vxa1 vxa2, .slice vxa3 vxa4 vxa5, .slice vxa6 vxa7 vxa8, .int .i64 vxa9] 27)).heap.size = w4.heap.size + 1 := by simp
  have RXA := Lib.hid (Rw.new w4 27 #[.slice vxa0 vxa1 vxa2, .slice vxa3 vxa4 vxa5, .slice vxa6 vxa7 vxa8, .int .i64 vxa9])
  go_wp2_with fail
  refine (HI.out _ _ _ (XA.out.same (sm AL.out _ (by omega))).reads (by omega) HSA.out).mono ?_
  rintro e w5 ⟨vg, rfl, ho, b⟩
  have s5 := b.size
  rw [hz] at ho
  rw [hz] at s5
  have b0 := b
  have b := AL.out.trans (b0.mono (by omega))
  have RXA := Lib.hid (RXA.out.below b0 (by omega))
  clear b0
  have AA' := Lib.hid (AA.out.same (sm b _ (by omega)))
  clear AA
  have AA := AA'
  clear AA'
  have S' := Lib.hid (S.out.same (sm b _ (by omega)))
  clear S
  have S := S'
  clear S'
  have XA' := Lib.hid (XA.out.same (sm b _ (by omega)))
  clear XA
  have XA := XA'
  clear XA'
  have RA := Lib.hid (RA.out.below b (by omega))
  have RS := Lib.hid (RS.out.below b (by omega))
  have BB' := Lib.hid (BB.out.trans (b.mono (by omega)))
  clear BB b
  have BB := BB'
  clear BB'
  clear AL hz
  obtain ⟨vg0, vg1, vg2, vg3, vg4, vg5, vg6, vg7, vg8, vg9, rfl⟩ := ho.agg_
  have G := Lib.hid ho
  clear ho
  have AL := Lib.hid ((Below.refl w5.heap.size w5).alloc (Nat.le_refl _) (.cells #[.slice vg0 vg1 vg2, .slice vg3 vg4 vg5, .slice vg6 vg7 vg8, .int .i64 vg9] 27))
  have hz : (w5.alloc (.cells #[.slice vg0 vg1 vg2, .slice vg3 vg4 vg5, .slice vg6 vg7 vg8, .int .i64 vg9] 27)).heap.size = w5.heap.size + 1 := by simp
  have RG := Lib.hid (Rw.new w5 27 #[.slice vg0 vg1 vg2, .slice vg3 vg4 vg5, .slice vg6 vg7 vg8, .int .i64 vg9])
  obtain ⟨q10, q11, q12, q13⟩ := (Lib.hid (Rw.below RS.out AL.out (by omega))).out.four
  go_wp2_with fail
  refine (eqWe_any _ _ _ _ _ _ (G.out.same (sm AL.out _ (by omega))).reads (S.out.same (sm AL.out _ (by omega))).reads (by omega) (by omega) HSG.out).mono ?_
  rintro e w6 ⟨rfl, b⟩
  clear q10 q11 q12 q13
  have s6 := b.size
  rw [hz] at s6
  have b0 := b
  have b := AL.out.trans (b0.mono (by omega))
  have RG := Lib.hid (RG.out.below b0 (by omega))
  clear b0
  have AA' := Lib.hid (AA.out.same (sm b _ (by omega)))
  clear AA
  have AA := AA'
  clear AA'
  have S' := Lib.hid (S.out.same (sm b _ (by omega)))
  clear S
  have S := S'
  clear S'
  have XA' := Lib.hid (XA.out.same (sm b _ (by omega)))
  clear XA
  have XA := XA'
  clear XA'
  have G' := Lib.hid (G.out.same (sm b _ (by omega)))
  clear G
  have G := G'
  clear G'
  have RA := Lib.hid (RA.out.below b (by omega))
  have RS := Lib.hid (RS.out.below b (by omega))
  have RXA := Lib.hid (RXA.out.below b (by omega))
  have BB' := Lib.hid (BB.out.trans (b.mono (by omega)))
  clear BB b
  have BB := BB'
  clear BB'
  clear AL hz
  go_wp2_with fail
  refine wp_region_held_drew (S := fun W => Rw W _ 27 #[.slice vxa0 vxa1 vxa2, .slice vxa3 vxa4 vxa5, .slice vxa6 vxa7 vxa8, .int .i64 vxa9] ∧ Rw W _ 25 #[cA0, cA1, cA2, cA3]) (by kernel_rfl) ⟨show Rw w6.drew _ _ _ from RXA.out, show Rw w6.drew _ _ _ from RA.out⟩ (fun hHeld => ?_)
  refine wpAnyH_take (i := 0) (oi := _) (v := .agg #[.slice vxa0 vxa1 vxa2, .slice vxa3 vxa4 vxa5, .slice vxa6 vxa7 vxa8, .int .i64 vxa9]) rfl (by kernel_rfl) (by kernel_rfl) (by kernel_rfl) (fun _ _ _ h => h) (Or.inl ⟨by rfl, fun W hSw => by
    obtain ⟨q0, q1, q2, q3⟩ := hSw.1.four
    go_simp⟩) hHeld ?_
  refine wpAnyH_take (i := 1) (oi := _) (v := .agg #[cA0, cA1, cA2, cA3]) rfl (by kernel_rfl) (by kernel_rfl) (by kernel_rfl) (fun _ _ _ h => h) (Or.inl ⟨by rfl, fun W hSw => by
    obtain ⟨q0, q1, q2, q3⟩ := hSw.2.four
    go_simp⟩) hHeld ?_
  refine wpAnyH_ready (rs := [2]) (by kernel_rfl) (by simp) ?_
  refine AllReadyH.cons (o := _) rfl (fun K hK => ?_) AllReadyH.nil
  go_simp
  refine (HTA.out w6.drew (show WeIn w6.drew _ _ _ from AA.out) (by simp; omega) HSA.out).mono ?_
  rintro e w7 ⟨vy, rfl, ho, b0⟩
  have b := (Below.refl w6.heap.size w6).drew.trans b0
  have hr1 := RXA.out.below b (by omega)
  have hr2 := RA.out.below b (by omega)
  refine hK.out _ _ ⟨hr1, hr2⟩ (fun hHeld => ?_)
  clear hK K hr1 hr2 b0 hHeld
  have s7 := b.size
  have AA' := Lib.hid (AA.out.same (sm b _ (by omega)))
  clear AA
  have AA := AA'
  clear AA'
  have S' := Lib.hid (S.out.same (sm b _ (by omega)))
  clear S
  have S := S'
  clear S'
  have XA' := Lib.hid (XA.out.same (sm b _ (by omega)))
  clear XA
  have XA := XA'
  clear XA'
  have G' := Lib.hid (G.out.same (sm b _ (by omega)))
  clear G
  have G := G'
  clear G'
  have RA := Lib.hid (RA.out.below b (by omega))
  have RS := Lib.hid (RS.out.below b (by omega))
  have RXA := Lib.hid (RXA.out.below b (by omega))
  have RG := Lib.hid (RG.out.below b (by omega))
  have BB' := Lib.hid (BB.out.trans (b.mono (by omega)))
  clear BB b
  have BB := BB'
  clear BB'
  have Y := Lib.hid ho
  clear ho
  refine wpAnyH_ready (rs := [3]) (by kernel_rfl) (by simp) ?_
  refine AllReadyH.cons (o := _) rfl (fun K hK => ?_) AllReadyH.nil
  go_simp
  refine (eqWe_any _ _ _ w7 _ _ XA.out.reads Y.out.reads (by omega) (by omega) HSA.out).mono ?_
  rintro e w8 ⟨rfl, b⟩
  have hr1 := RXA.out.below b (by omega)
  have hr2 := RA.out.below b (by omega)
  refine hK.out _ _ ⟨hr1, hr2⟩ (fun hHeld => ?_)
  clear hK K hr1 hr2
  clear Y
  have s8 := b.size
  have AA' := Lib.hid (AA.out.same (sm b _ (by omega)))
  clear AA
  have AA := AA'
  clear AA'
  have S' := Lib.hid (S.out.same (sm b _ (by omega)))
  clear S
  have S := S'
  clear S'
  have XA' := Lib.hid (XA.out.same (sm b _ (by omega)))
  clear XA
  have XA := XA'
  clear XA'
  have G' := Lib.hid (G.out.same (sm b _ (by omega)))
  clear G
  have G := G'
  clear G'
  have RA := Lib.hid (RA.out.below b (by omega))
  have RS := Lib.hid (RS.out.below b (by omega))
  have RXA := Lib.hid (RXA.out.below b (by omega))
  have RG := Lib.hid (RG.out.below b (by omega))
  have BB' := Lib.hid (BB.out.trans (b.mono (by omega)))
  clear BB b
  have BB := BB'
  clear BB'
  refine wpAnyH_ready (rs := [4]) (by kernel_rfl) (by simp) ?_
  refine AllReadyH.cons (o := _) rfl (fun K hK => ?_) AllReadyH.nil
  go_simp
  refine hK.out _ _ ⟨RXA.out, RA.out⟩ (fun hHeld => ?_)
  clear hK K
  refine wpAnyH_done (by kernel_rfl) ?_ _
  clear hHeld
  obtain ⟨q00, q01, q02, q03⟩ := RXA.out.four
  go_wp2_with fail
  refine (mkWe_any _ _ 1 _ _ _ XA.out (by omega) (by omega) HSA.out (by omega)).mono ?_
  rintro e w9 ⟨rfl, _, kp⟩
  clear q00 q01 q02 q03
  have s9 := kp.size
  have AA' := Lib.hid (AA.out.same (sm kp.1 _ (by omega)))
  clear AA
  have AA := AA'
  clear AA'
  have S' := Lib.hid (S.out.same (sm kp.1 _ (by omega)))
  clear S
  have S := S'
  clear S'
  have G' := Lib.hid (G.out.same (kp.2.mono (by omega) (by omega)))
  clear G
  have G := G'
  clear G'
  have RA := Lib.hid (RA.out.below kp.1 (by omega))
  have RS := Lib.hid (RS.out.below kp.1 (by omega))
  have RXA : Hid (Rw _ _ _ _) := Lib.hid ((kp.2 _ (by omega) (by have := RXA.out.lt; omega)).trans RXA.out)
  have RG : Hid (Rw _ _ _ _) := Lib.hid ((kp.2 _ (by omega) (by have := RG.out.lt; omega)).trans RG.out)
  have BB' := Lib.hid (BB.out.trans (kp.1.mono (by omega)))
  clear BB kp
  have BB := BB'
  clear BB'
  clear XA
  obtain ⟨nk1, hnk1⟩ : ∃ q : Nat, q = 1 + nWe FA := ⟨_, rfl⟩
  rw [← hnk1]
  have hnl1 : nk1 ≤ 1048577 := by have := HSA.out; unfold WeSz at this; unfold nWe at hnk1; omega
  have hnn1 : ¬ ((nk1 : Nat) : Int) < 0 := by omega
  have hnu1 : ((nk1 : Nat) : Int) ≤ 1048577 := by omega
  clear hnk1
  obtain ⟨q00, q01, q02, q03⟩ := RG.out.four
  obtain ⟨q10, q11, q12, q13⟩ := RS.out.four
  go_wp2_with fail
  refine (eqWe_any _ _ _ _ _ _ G.out.reads S.out.reads (by omega) (by omega) HSG.out).mono ?_
  rintro e w10 ⟨rfl, b⟩
  clear q00 q01 q02 q03 q10 q11 q12 q13
  have s10 := b.size
  have AA' := Lib.hid (AA.out.same (sm b _ (by omega)))
  clear AA
  have AA := AA'
  clear AA'
  have S' := Lib.hid (S.out.same (sm b _ (by omega)))
  clear S
  have S := S'
  clear S'
  have G' := Lib.hid (G.out.same (sm b _ (by omega)))
  clear G
  have G := G'
  clear G'
  have RA := Lib.hid (RA.out.below b (by omega))
  have RS := Lib.hid (RS.out.below b (by omega))
  have RXA := Lib.hid (RXA.out.below b (by omega))
  have RG := Lib.hid (RG.out.below b (by omega))
  have BB' := Lib.hid (BB.out.trans (b.mono (by omega)))
  clear BB b
  have BB := BB'
  clear BB'
  obtain ⟨q00, q01, q02, q03⟩ := RG.out.four
  go_wp2_with fail
  refine (mkWe_any _ _ 1 _ _ _ G.out (by omega) (by omega) HSG.out (by omega)).mono ?_
  rintro e w11 ⟨rfl, ho, kp⟩
  clear q00 q01 q02 q03
  have M := Lib.hid ho
  clear G ho
  have s11 := kp.size
  have AA' := Lib.hid (AA.out.same (sm kp.1 _ (by omega)))
  clear AA
  have AA := AA'
  clear AA'
  have S' := Lib.hid (S.out.same (sm kp.1 _ (by omega)))
  clear S
  have S := S'
  clear S'
  have RA := Lib.hid (RA.out.below kp.1 (by omega))
  have RS := Lib.hid (RS.out.below kp.1 (by omega))
  have RXA := Lib.hid (RXA.out.below kp.1 (by omega))
  have RG : Hid (Rw _ _ _ _) := Lib.hid ((kp.2 _ (by omega) (by have := RG.out.lt; omega)).trans RG.out)
  have BB' := Lib.hid (BB.out.trans (kp.1.mono (by omega)))
  clear BB kp
  have BB := BB'
  clear BB'
  obtain ⟨ng, hng⟩ : ∃ q : Nat, q = 1 + nWe G0 := ⟨_, rfl⟩
  rw [← hng]
  have hnn : ¬ ((ng : Nat) : Int) < 0 := by omega
  have hne : (((ng : Nat) : Int) != ((ng : Nat) : Int)) = false := by simp
  have HNG := Lib.hid hng
  clear hng
  obtain ⟨q00, q01, q02, q03⟩ := RG.out.four
  go_wp2_with fail
  refine (show Calls _ _ _ _ (fun e w' => e = .returned (.int .i64 ((ng : Nat) : Int)) ∧ Below _ _ w') from (by rw [HNG.out]; exact hdWe_any _ _ 1 _ _ M.out.reads (by omega) HSG.out (by omega))).mono ?_
  rintro e w12 ⟨rfl, b⟩
  clear q00 q01 q02 q03
  have s12 := b.size
  have AA' := Lib.hid (AA.out.same (sm b _ (by omega)))
  clear AA
  have AA := AA'
  clear AA'
  have S' := Lib.hid (S.out.same (sm b _ (by omega)))
  clear S
  have S := S'
  clear S'
  have M' := Lib.hid (M.out.same (sm b _ (by omega)))
  clear M
  have M := M'
  clear M'
  have RA := Lib.hid (RA.out.below b (by omega))
  have RS := Lib.hid (RS.out.below b (by omega))
  have RXA := Lib.hid (RXA.out.below b (by omega))
  have RG := Lib.hid (RG.out.below b (by omega))
  have BB' := Lib.hid (BB.out.trans (b.mono (by omega)))
  clear BB b
  have BB := BB'
  clear BB'
  obtain ⟨q00, q01, q02, q03⟩ := RA.out.four
  go_wp2_with fail
  refine (HTA.out _ AA.out (by omega) HSA.out).mono ?_
  rintro e w13 ⟨vta, rfl, ho, b⟩
  clear q00 q01 q02 q03
  have s13 := b.size
  have AA' := Lib.hid (AA.out.same (sm b _ (by omega)))
  clear AA
  have AA := AA'
  clear AA'
  have S' := Lib.hid (S.out.same (sm b _ (by omega)))
  clear S
  have S := S'
  clear S'
  have M' := Lib.hid (M.out.same (sm b _ (by omega)))
  clear M
  have M := M'
  clear M'
  have RA := Lib.hid (RA.out.below b (by omega))
  have RS := Lib.hid (RS.out.below b (by omega))
  have RXA := Lib.hid (RXA.out.below b (by omega))
  have RG := Lib.hid (RG.out.below b (by omega))
  have BB' := Lib.hid (BB.out.trans (b.mono (by omega)))
  clear BB b
  have BB := BB'
  clear BB'
  obtain ⟨vta0, vta1, vta2, vta3, vta4, vta5, vta6, vta7, vta8, vta9, rfl⟩ := ho.agg_
  have TA := Lib.hid ho
  clear ho
  go_wp2_with fail
  refine (HI.out _ _ _ TA.out.reads (by omega) HSA.out).mono ?_
  rintro e w14 ⟨vh, rfl, ho, b⟩
  have s14 := b.size
  have AA' := Lib.hid (AA.out.same (sm b _ (by omega)))
  clear AA
  have AA := AA'
  clear AA'
  have S' := Lib.hid (S.out.same (sm b _ (by omega)))
  clear S
  have S := S'
  clear S'
  have M' := Lib.hid (M.out.same (sm b _ (by omega)))
  clear M
  have M := M'
  clear M'
  have TA' := Lib.hid (TA.out.same (sm b _ (by omega)))
  clear TA
  have TA := TA'
  clear TA'
  have RA := Lib.hid (RA.out.below b (by omega))
  have RS := Lib.hid (RS.out.below b (by omega))
  have RXA := Lib.hid (RXA.out.below b (by omega))
  have RG := Lib.hid (RG.out.below b (by omega))
  have BB' := Lib.hid (BB.out.trans (b.mono (by omega)))
  clear BB b
  have BB := BB'
  clear BB'
  obtain ⟨vh0, vh1, vh2, vh3, vh4, vh5, vh6, vh7, vh8, vh9, rfl⟩ := ho.agg_
  have H := Lib.hid ho
  clear ho
  have AL := Lib.hid ((Below.refl w14.heap.size w14).alloc (Nat.le_refl _) (.cells #[.slice vh0 vh1 vh2, .slice vh3 vh4 vh5, .slice vh6 vh7 vh8, .int .i64 vh9] 27))
  have hz : (w14.alloc (.cells #[.slice vh0 vh1 vh2, .slice vh3 vh4 vh5, .slice vh6 vh7 vh8, .int .i64 vh9] 27)).heap.size = w14.heap.size + 1 := by simp
  have RH := Lib.hid (Rw.new w14 27 #[.slice vh0 vh1 vh2, .slice vh3 vh4 vh5, .slice vh6 vh7 vh8, .int .i64 vh9])
  clear TA
  obtain ⟨q10, q11, q12, q13⟩ := (Lib.hid (Rw.below RS.out AL.out (by omega))).out.four
  go_wp2_with fail
  refine (eqWe_any _ _ _ _ _ _ (H.out.same (sm AL.out _ (by omega))).reads (S.out.same (sm AL.out _ (by omega))).reads (by omega) (by omega) HSG.out).mono ?_
  rintro e w15 ⟨rfl, b⟩
  clear q10 q11 q12 q13
  have s15 := b.size
  rw [hz] at s15
  have b0 := b
  have b := AL.out.trans (b0.mono (by omega))
  have RH := Lib.hid (RH.out.below b0 (by omega))
  clear b0
  have AA' := Lib.hid (AA.out.same (sm b _ (by omega)))
  clear AA
  have AA := AA'
  clear AA'
  have S' := Lib.hid (S.out.same (sm b _ (by omega)))
  clear S
  have S := S'
  clear S'
  have M' := Lib.hid (M.out.same (sm b _ (by omega)))
  clear M
  have M := M'
  clear M'
  have H' := Lib.hid (H.out.same (sm b _ (by omega)))
  clear H
  have H := H'
  clear H'
  have RA := Lib.hid (RA.out.below b (by omega))
  have RS := Lib.hid (RS.out.below b (by omega))
  have RXA := Lib.hid (RXA.out.below b (by omega))
  have RG := Lib.hid (RG.out.below b (by omega))
  have BB' := Lib.hid (BB.out.trans (b.mono (by omega)))
  clear BB b
  have BB := BB'
  clear BB'
  clear AL hz
  obtain ⟨q00, q01, q02, q03⟩ := RG.out.four
  go_wp2_with fail
  refine (show Calls _ _ _ _ (fun e w' => e = .returned (.int .i64 ((ng : Nat) : Int)) ∧ Below _ _ w') from (by rw [HNG.out]; exact hdWe_any _ _ 1 _ _ M.out.reads (by omega) HSG.out (by omega))).mono ?_
  rintro e w16 ⟨rfl, b⟩
  clear q00 q01 q02 q03
  have s16 := b.size
  have AA' := Lib.hid (AA.out.same (sm b _ (by omega)))
  clear AA
  have AA := AA'
  clear AA'
  have S' := Lib.hid (S.out.same (sm b _ (by omega)))
  clear S
  have S := S'
  clear S'
  have M' := Lib.hid (M.out.same (sm b _ (by omega)))
  clear M
  have M := M'
  clear M'
  have H' := Lib.hid (H.out.same (sm b _ (by omega)))
  clear H
  have H := H'
  clear H'
  have RA := Lib.hid (RA.out.below b (by omega))
  have RS := Lib.hid (RS.out.below b (by omega))
  have RXA := Lib.hid (RXA.out.below b (by omega))
  have RG := Lib.hid (RG.out.below b (by omega))
  have RH := Lib.hid (RH.out.below b (by omega))
  have BB' := Lib.hid (BB.out.trans (b.mono (by omega)))
  clear BB b
  have BB := BB'
  clear BB'
  go_wp2
  go_ret
  exact ⟨rfl, BB.out⟩
end Go.Proofs.Ytainlanblpccjaa
