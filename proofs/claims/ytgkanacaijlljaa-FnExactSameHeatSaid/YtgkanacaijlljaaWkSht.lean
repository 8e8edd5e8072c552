/- The law FnExactSameHeat, walked: every call by its contract. -/
import Derived.Test.YtgkanacaijlljaaProg
import Derived.Test.YtgkanacaijlljaaHtM
import Derived.Test.YtgkanacaijlljaaHtO
import Derived.Test.YtgkanacaijlljaaHtQ
namespace Go.Proofs.Ytgkanacaijlljaa
open Go.RowKit
set_option linter.unusedVariables false
set_option maxHeartbeats 4000000 in
set_option maxRecDepth 100000 in
theorem wkSht (vA vB : Value) (FA FB : Ht) (w : World) (hFA : HtIn w w.heap.size vA FA) (hFB : HtIn w w.heap.size vB FB) :
    Calls Try.prog 4 #[vA, vB] w fun e w' => e = .returned (.bool true) ∧ Below w.heap.size w w' := by
  obtain ⟨cA0, cA1, rfl⟩ : ∃ c0 c1, vA = .agg #[c0, c1] := by
    obtain ⟨a, rfl, _⟩ := hFA; exact ⟨_, _, rfl⟩
  have AA := Lib.hid hFA
  have HZA := Lib.hid (fun (W : World) (a : HtIn W w.heap.size (.agg #[cA0, cA1]) FA) (c : w.heap.size ≤ W.heap.size) => szHt_any _ FA W w.heap.size a c)
  have HTA := Lib.hid (fun (W : World) (a : HtIn W w.heap.size (.agg #[cA0, cA1]) FA) (c : w.heap.size ≤ W.heap.size) (z : HtSz FA) => toHt_any _ FA W w.heap.size a c z)
  clear hFA
  obtain ⟨cB0, cB1, rfl⟩ : ∃ c0 c1, vB = .agg #[c0, c1] := by
    obtain ⟨a, rfl, _⟩ := hFB; exact ⟨_, _, rfl⟩
  have AB := Lib.hid hFB
  have HZB := Lib.hid (fun (W : World) (a : HtIn W w.heap.size (.agg #[cB0, cB1]) FB) (c : w.heap.size ≤ W.heap.size) => szHt_any _ FB W w.heap.size a c)
  have HTB := Lib.hid (fun (W : World) (a : HtIn W w.heap.size (.agg #[cB0, cB1]) FB) (c : w.heap.size ≤ W.heap.size) (z : HtSz FB) => toHt_any _ FB W w.heap.size a c z)
  clear hFB
  obtain ⟨r, hr⟩ := prop_dec' (FA = FB)
  have HS := Lib.hid (fun (W : World) (u v : Value) (hi hi' : Nat) (a : HtIn W hi u FA) (b : HtIn W hi' v FB) (c : hi ≤ W.heap.size) (d : hi' ≤ W.heap.size) (l : HtSz FA) (l' : HtSz FB) => specSameHt_any u v FA FB r W hi hi' a b c d hr l l')
  have HI := Lib.hid (fun (W : World) (u v : Value) (hi hi' : Nat) (a : HtIn W hi u FA) (b : HtIn W hi' v FB) (c : hi ≤ W.heap.size) (d : hi' ≤ W.heap.size) (l : HtSz FA) (l' : HtSz FB) => implSameHt_any u v FA FB r W hi hi' a b c d hr l l')
  have HZM := Lib.hid (fun (W : World) (m : Int) (a : HtIn W w.heap.size (.agg #[cB0, cB1]) FB) (c : w.heap.size ≤ W.heap.size) (h0 : 0 ≤ m) (h1 : m ≤ 1048576) => szHtM_any _ FB W w.heap.size m a c h0 h1)
  have hxx : (r != r) = false := by simp
  clear hr
  have BB := Lib.hid (Below.refl w.heap.size w)
  have AL := Lib.hid (((Below.refl w.heap.size w).alloc (Nat.le_refl _) (.cells #[cA0, cA1] 24)).alloc (by simp) (.cells #[cB0, cB1] 24))
  have hz : ((w.alloc (.cells #[cA0, cA1] 24)).alloc (.cells #[cB0, cB1] 24)).heap.size = w.heap.size + 2 := by simp
  obtain ⟨hRA, hRB, _⟩ := Rw.two_new w 24 24 #[cA0, cA1] #[cB0, cB1]
  have RA := Lib.hid hRA
  clear hRA
  have RB := Lib.hid hRB
  clear hRB
  go_enter Try.func4, Try.ntmps4
  go_wp2_with fail
  refine (HZA.out _ (AA.out.same (sm AL.out _ (by omega))) (by omega)).mono ?_
  rintro e w1 ⟨y, rfl, hy, b⟩
  by_cases hneg : y < 0
  · go_wp2
    go_ret
    exact ⟨rfl, BB.out.trans ((AL.out.trans (b.mono (by omega))).mono (by omega))⟩
  have hsz := hy.htSmall hneg
  have hy0 : 0 ≤ y := by omega
  have hy1 : y ≤ 1048576 := by rcases hy with hy | hy <;> omega
  have HSA := Lib.hid hsz
  clear hsz hy
  have s1 := b.size
  rw [hz] at s1
  have b0 := b
  have b := AL.out.trans (b0.mono (by omega))
  have RA := Lib.hid (RA.out.below b0 (by omega))
  have RB := Lib.hid (RB.out.below b0 (by omega))
  clear b0
  have AA' := Lib.hid (AA.out.same (sm b _ (by omega)))
  clear AA
  have AA := AA'
  clear AA'
  have AB' := Lib.hid (AB.out.same (sm b _ (by omega)))
  clear AB
  have AB := AB'
  clear AB'
  have BB' := Lib.hid (BB.out.trans (b.mono (by omega)))
  clear BB b
  have BB := BB'
  clear BB'
  clear AL hz
  obtain ⟨q00, q01⟩ := RB.out.two
  go_wp2_with fail
  refine (HZM.out _ y AB.out (by omega) hy0 hy1).mono ?_
  rintro e w2 ⟨z, rfl, hq, b⟩
  clear q00 q01
  by_cases hnegB : z < 0
  · go_wp2
    go_ret
    exact ⟨rfl, BB.out.trans (b.mono (by omega))⟩
  have hszB : HtSz FB := by unfold HtSz; rcases hq with hq | hq <;> omega
  have HSB := Lib.hid hszB
  clear hszB hq hy0 hy1
  have s2 := b.size
  have AA' := Lib.hid (AA.out.same (sm b _ (by omega)))
  clear AA
  have AA := AA'
  clear AA'
  have AB' := Lib.hid (AB.out.same (sm b _ (by omega)))
  clear AB
  have AB := AB'
  clear AB'
  have RA := Lib.hid (RA.out.below b (by omega))
  have RB := Lib.hid (RB.out.below b (by omega))
  have BB' := Lib.hid (BB.out.trans (b.mono (by omega)))
  clear BB b
  have BB := BB'
  clear BB'
  go_wp2_with fail
  refine wp_region_held_drew (S := fun W => Rw W _ 24 #[cA0, cA1] ∧ Rw W _ 24 #[cB0, cB1]) (by kernel_rfl) ⟨show Rw w2.drew _ _ _ from RA.out, show Rw w2.drew _ _ _ from RB.out⟩ (fun hHeld => ?_)
  refine wpAnyH_take (i := 0) (oi := _) (v := .agg #[cA0, cA1]) rfl (by kernel_rfl) (by kernel_rfl) (by kernel_rfl) (fun _ _ _ h => h) (Or.inl ⟨by rfl, fun W hSw => by
    obtain ⟨q0, q1⟩ := hSw.1.two
    go_simp⟩) hHeld ?_
  refine wpAnyH_take (i := 2) (oi := _) (v := .agg #[cB0, cB1]) rfl (by kernel_rfl) (by kernel_rfl) (by kernel_rfl) (fun _ _ _ h => h) (Or.inl ⟨by rfl, fun W hSw => by
    obtain ⟨q0, q1⟩ := hSw.2.two
    go_simp⟩) hHeld ?_
  refine wpAnyH_ready (rs := [1]) (by kernel_rfl) (by simp) ?_
  refine AllReadyH.cons (o := _) rfl (fun K hK => ?_) AllReadyH.nil
  go_simp
  refine (HTA.out w2.drew (show HtIn w2.drew _ _ _ from AA.out) (by simp; omega) HSA.out).mono ?_
  rintro e w3 ⟨vt, rfl, ho, b0⟩
  have b := (Below.refl w2.heap.size w2).drew.trans b0
  have hr1 := RA.out.below b (by omega)
  have hr2 := RB.out.below b (by omega)
  refine hK.out _ _ ⟨hr1, hr2⟩ (fun hHeld => ?_)
  clear hK K hr1 hr2 b0 hHeld
  have s3 := b.size
  have AA' := Lib.hid (AA.out.same (sm b _ (by omega)))
  clear AA
  have AA := AA'
  clear AA'
  have AB' := Lib.hid (AB.out.same (sm b _ (by omega)))
  clear AB
  have AB := AB'
  clear AB'
  have RA := Lib.hid (RA.out.below b (by omega))
  have RB := Lib.hid (RB.out.below b (by omega))
  have BB' := Lib.hid (BB.out.trans (b.mono (by omega)))
  clear BB b
  have BB := BB'
  clear BB'
  have T := Lib.hid ho
  clear ho
  refine wpAnyH_ready (rs := [3]) (by kernel_rfl) (by simp) ?_
  refine AllReadyH.cons (o := _) rfl (fun K hK => ?_) AllReadyH.nil
  go_simp
  refine (HTB.out w3 AB.out (by omega) HSB.out).mono ?_
  rintro e w4 ⟨vu, rfl, ho, b0⟩
  have b := b0
  have hr1 := RA.out.below b (by omega)
  have hr2 := RB.out.below b (by omega)
  refine hK.out _ _ ⟨hr1, hr2⟩ (fun hHeld => ?_)
  clear hK K hr1 hr2 b0 hHeld
  have s4 := b.size
  have AA' := Lib.hid (AA.out.same (sm b _ (by omega)))
  clear AA
  have AA := AA'
  clear AA'
  have AB' := Lib.hid (AB.out.same (sm b _ (by omega)))
  clear AB
  have AB := AB'
  clear AB'
  have T' := Lib.hid (T.out.same (sm b _ (by omega)))
  clear T
  have T := T'
  clear T'
  have RA := Lib.hid (RA.out.below b (by omega))
  have RB := Lib.hid (RB.out.below b (by omega))
  have BB' := Lib.hid (BB.out.trans (b.mono (by omega)))
  clear BB b
  have BB := BB'
  clear BB'
  have U := Lib.hid ho
  clear ho
  refine wpAnyH_ready (rs := [4]) (by kernel_rfl) (by simp) ?_
  refine AllReadyH.cons (o := _) rfl (fun K hK => ?_) AllReadyH.nil
  go_simp
  refine (HS.out _ _ _ _ _ T.out.reads U.out.reads (by omega) (by omega) HSA.out HSB.out).mono ?_
  rintro e w5 ⟨rfl, b⟩
  have hr1 := RA.out.below b (by omega)
  have hr2 := RB.out.below b (by omega)
  refine hK.out _ _ ⟨hr1, hr2⟩ (fun hHeld => ?_)
  clear hK K hr1 hr2
  clear T
  clear U
  have s5 := b.size
  have AA' := Lib.hid (AA.out.same (sm b _ (by omega)))
  clear AA
  have AA := AA'
  clear AA'
  have AB' := Lib.hid (AB.out.same (sm b _ (by omega)))
  clear AB
  have AB := AB'
  clear AB'
  have RA := Lib.hid (RA.out.below b (by omega))
  have RB := Lib.hid (RB.out.below b (by omega))
  have BB' := Lib.hid (BB.out.trans (b.mono (by omega)))
  clear BB b
  have BB := BB'
  clear BB'
  refine wpAnyH_ready (rs := [5]) (by kernel_rfl) (by simp) ?_
  refine AllReadyH.cons (o := _) rfl (fun K hK => ?_) AllReadyH.nil
  go_simp
  refine hK.out _ _ ⟨RA.out, RB.out⟩ (fun hHeld => ?_)
  clear hK K
  refine wpAnyH_done (by kernel_rfl) ?_ _
  clear hHeld
  obtain ⟨q00, q01⟩ := RA.out.two
  go_wp2_with fail
  refine (HTA.out _ AA.out (by omega) HSA.out).mono ?_
  rintro e w6 ⟨vx, rfl, ho, b⟩
  clear q00 q01
  have s6 := b.size
  have AA' := Lib.hid (AA.out.same (sm b _ (by omega)))
  clear AA
  have AA := AA'
  clear AA'
  have AB' := Lib.hid (AB.out.same (sm b _ (by omega)))
  clear AB
  have AB := AB'
  clear AB'
  have RA := Lib.hid (RA.out.below b (by omega))
  have RB := Lib.hid (RB.out.below b (by omega))
  have BB' := Lib.hid (BB.out.trans (b.mono (by omega)))
  clear BB b
  have BB := BB'
  clear BB'
  obtain ⟨vx0, vx1, vx2, vx3, rfl⟩ := ho.agg2
  have X := Lib.hid ho
  clear ho
  have AL := Lib.hid ((Below.refl w6.heap.size w6).alloc (Nat.le_refl _) (.cells #[.slice vx0 vx1 vx2, .int .i64 vx3] 27))
  have hz : (w6.alloc (.cells #[.slice vx0 vx1 vx2, .int .i64 vx3] 27)).heap.size = w6.heap.size + 1 := by simp
  have RX := Lib.hid (Rw.new w6 27 #[.slice vx0 vx1 vx2, .int .i64 vx3])
  obtain ⟨q00, q01⟩ := (Lib.hid (Rw.below RB.out AL.out (by omega))).out.two
  go_wp2_with fail
  refine (HTB.out _ (AB.out.same (sm AL.out _ (by omega))) (by omega) HSB.out).mono ?_
  rintro e w7 ⟨vv, rfl, ho, b⟩
  clear q00 q01
  have s7 := b.size
  rw [hz] at ho
  rw [hz] at s7
  have b0 := b
  have b := AL.out.trans (b0.mono (by omega))
  have RX := Lib.hid (RX.out.below b0 (by omega))
  clear b0
  have AA' := Lib.hid (AA.out.same (sm b _ (by omega)))
  clear AA
  have AA := AA'
  clear AA'
  have AB' := Lib.hid (AB.out.same (sm b _ (by omega)))
  clear AB
  have AB := AB'
  clear AB'
  have X' := Lib.hid (X.out.same (sm b _ (by omega)))
  clear X
  have X := X'
  clear X'
  have RA := Lib.hid (RA.out.below b (by omega))
  have RB := Lib.hid (RB.out.below b (by omega))
  have BB' := Lib.hid (BB.out.trans (b.mono (by omega)))
  clear BB b
  have BB := BB'
  clear BB'
  clear AL hz
  obtain ⟨vv0, vv1, vv2, vv3, rfl⟩ := ho.agg2
  have V := Lib.hid ho
  clear ho
  have AL := Lib.hid ((Below.refl w7.heap.size w7).alloc (Nat.le_refl _) (.cells #[.slice vv0 vv1 vv2, .int .i64 vv3] 27))
  have hz : (w7.alloc (.cells #[.slice vv0 vv1 vv2, .int .i64 vv3] 27)).heap.size = w7.heap.size + 1 := by simp
  have RV := Lib.hid (Rw.new w7 27 #[.slice vv0 vv1 vv2, .int .i64 vv3])
  obtain ⟨q00, q01⟩ := (Lib.hid (Rw.below RX.out AL.out (by omega))).out.two
  go_wp2_with fail
  refine (HI.out _ _ _ _ _ (X.out.same (sm AL.out _ (by omega))).reads (V.out.same (sm AL.out _ (by omega))).reads (by omega) (by omega) HSA.out HSB.out).mono ?_
  rintro e w8 ⟨rfl, b⟩
  clear q00 q01
  have s8 := b.size
  rw [hz] at s8
  have b0 := b
  have b := AL.out.trans (b0.mono (by omega))
  have RV := Lib.hid (RV.out.below b0 (by omega))
  clear b0
  have AA' := Lib.hid (AA.out.same (sm b _ (by omega)))
  clear AA
  have AA := AA'
  clear AA'
  have AB' := Lib.hid (AB.out.same (sm b _ (by omega)))
  clear AB
  have AB := AB'
  clear AB'
  have X' := Lib.hid (X.out.same (sm b _ (by omega)))
  clear X
  have X := X'
  clear X'
  have V' := Lib.hid (V.out.same (sm b _ (by omega)))
  clear V
  have V := V'
  clear V'
  have RA := Lib.hid (RA.out.below b (by omega))
  have RB := Lib.hid (RB.out.below b (by omega))
  have RX := Lib.hid (RX.out.below b (by omega))
  have BB' := Lib.hid (BB.out.trans (b.mono (by omega)))
  clear BB b
  have BB := BB'
  clear BB'
  clear AL hz
  go_wp2_with fail
  refine wp_region_held_drew (S := fun W => Rw W _ 27 #[.slice vx0 vx1 vx2, .int .i64 vx3] ∧ Rw W _ 24 #[cA0, cA1]) (by kernel_rfl) ⟨show Rw w8.drew _ _ _ from RX.out, show Rw w8.drew _ _ _ from RA.out⟩ (fun hHeld => ?_)
  refine wpAnyH_take (i := 0) (oi := _) (v := .agg #[.slice vx0 vx1 vx2, .int .i64 vx3]) rfl (by kernel_rfl) (by kernel_rfl) (by kernel_rfl) (fun _ _ _ h => h) (Or.inl ⟨by rfl, fun W hSw => by
    obtain ⟨q0, q1⟩ := hSw.1.two
    go_simp⟩) hHeld ?_
  refine wpAnyH_take (i := 1) (oi := _) (v := .agg #[cA0, cA1]) rfl (by kernel_rfl) (by kernel_rfl) (by kernel_rfl) (fun _ _ _ h => h) (Or.inl ⟨by rfl, fun W hSw => by
    obtain ⟨q0, q1⟩ := hSw.2.two
    go_simp⟩) hHeld ?_
  refine wpAnyH_ready (rs := [2]) (by kernel_rfl) (by simp) ?_
  refine AllReadyH.cons (o := _) rfl (fun K hK => ?_) AllReadyH.nil
  go_simp
  refine (HTA.out w8.drew (show HtIn w8.drew _ _ _ from AA.out) (by simp; omega) HSA.out).mono ?_
  rintro e w9 ⟨vy, rfl, ho, b0⟩
  have b := (Below.refl w8.heap.size w8).drew.trans b0
  have hr1 := RX.out.below b (by omega)
  have hr2 := RA.out.below b (by omega)
  refine hK.out _ _ ⟨hr1, hr2⟩ (fun hHeld => ?_)
  clear hK K hr1 hr2 b0 hHeld
  have s9 := b.size
  have AA' := Lib.hid (AA.out.same (sm b _ (by omega)))
  clear AA
  have AA := AA'
  clear AA'
  have AB' := Lib.hid (AB.out.same (sm b _ (by omega)))
  clear AB
  have AB := AB'
  clear AB'
  have X' := Lib.hid (X.out.same (sm b _ (by omega)))
  clear X
  have X := X'
  clear X'
  have V' := Lib.hid (V.out.same (sm b _ (by omega)))
  clear V
  have V := V'
  clear V'
  have RA := Lib.hid (RA.out.below b (by omega))
  have RB := Lib.hid (RB.out.below b (by omega))
  have RX := Lib.hid (RX.out.below b (by omega))
  have RV := Lib.hid (RV.out.below b (by omega))
  have BB' := Lib.hid (BB.out.trans (b.mono (by omega)))
  clear BB b
  have BB := BB'
  clear BB'
  have Y := Lib.hid ho
  clear ho
  refine wpAnyH_ready (rs := [3]) (by kernel_rfl) (by simp) ?_
  refine AllReadyH.cons (o := _) rfl (fun K hK => ?_) AllReadyH.nil
  go_simp
  refine (eqHt_any _ _ _ w9 _ _ X.out.reads Y.out.reads (by omega) (by omega) HSA.out).mono ?_
  rintro e w10 ⟨rfl, b⟩
  have hr1 := RX.out.below b (by omega)
  have hr2 := RA.out.below b (by omega)
  refine hK.out _ _ ⟨hr1, hr2⟩ (fun hHeld => ?_)
  clear hK K hr1 hr2
  clear Y
  have s10 := b.size
  have AA' := Lib.hid (AA.out.same (sm b _ (by omega)))
  clear AA
  have AA := AA'
  clear AA'
  have AB' := Lib.hid (AB.out.same (sm b _ (by omega)))
  clear AB
  have AB := AB'
  clear AB'
  have X' := Lib.hid (X.out.same (sm b _ (by omega)))
  clear X
  have X := X'
  clear X'
  have V' := Lib.hid (V.out.same (sm b _ (by omega)))
  clear V
  have V := V'
  clear V'
  have RA := Lib.hid (RA.out.below b (by omega))
  have RB := Lib.hid (RB.out.below b (by omega))
  have RX := Lib.hid (RX.out.below b (by omega))
  have RV := Lib.hid (RV.out.below b (by omega))
  have BB' := Lib.hid (BB.out.trans (b.mono (by omega)))
  clear BB b
  have BB := BB'
  clear BB'
  refine wpAnyH_ready (rs := [4]) (by kernel_rfl) (by simp) ?_
  refine AllReadyH.cons (o := _) rfl (fun K hK => ?_) AllReadyH.nil
  go_simp
  refine hK.out _ _ ⟨RX.out, RA.out⟩ (fun hHeld => ?_)
  clear hK K
  refine wpAnyH_done (by kernel_rfl) ?_ _
  clear hHeld
  go_wp2_with fail
  refine wp_region_held_drew (S := fun W => Rw W _ 27 #[.slice vv0 vv1 vv2, .int .i64 vv3] ∧ Rw W _ 24 #[cB0, cB1]) (by kernel_rfl) ⟨show Rw w10.drew _ _ _ from RV.out, show Rw w10.drew _ _ _ from RB.out⟩ (fun hHeld => ?_)
  refine wpAnyH_take (i := 0) (oi := _) (v := .agg #[.slice vv0 vv1 vv2, .int .i64 vv3]) rfl (by kernel_rfl) (by kernel_rfl) (by kernel_rfl) (fun _ _ _ h => h) (Or.inl ⟨by rfl, fun W hSw => by
    obtain ⟨q0, q1⟩ := hSw.1.two
    go_simp⟩) hHeld ?_
  refine wpAnyH_take (i := 1) (oi := _) (v := .agg #[cB0, cB1]) rfl (by kernel_rfl) (by kernel_rfl) (by kernel_rfl) (fun _ _ _ h => h) (Or.inl ⟨by rfl, fun W hSw => by
    obtain ⟨q0, q1⟩ := hSw.2.two
    go_simp⟩) hHeld ?_
  refine wpAnyH_ready (rs := [2]) (by kernel_rfl) (by simp) ?_
  refine AllReadyH.cons (o := _) rfl (fun K hK => ?_) AllReadyH.nil
  go_simp
  refine (HTB.out w10.drew (show HtIn w10.drew _ _ _ from AB.out) (by simp; omega) HSB.out).mono ?_
  rintro e w11 ⟨vy, rfl, ho, b0⟩
  have b := (Below.refl w10.heap.size w10).drew.trans b0
  have hr1 := RV.out.below b (by omega)
  have hr2 := RB.out.below b (by omega)
  refine hK.out _ _ ⟨hr1, hr2⟩ (fun hHeld => ?_)
  clear hK K hr1 hr2 b0 hHeld
  have s11 := b.size
  have AA' := Lib.hid (AA.out.same (sm b _ (by omega)))
  clear AA
  have AA := AA'
  clear AA'
  have AB' := Lib.hid (AB.out.same (sm b _ (by omega)))
  clear AB
  have AB := AB'
  clear AB'
  have X' := Lib.hid (X.out.same (sm b _ (by omega)))
  clear X
  have X := X'
  clear X'
  have V' := Lib.hid (V.out.same (sm b _ (by omega)))
  clear V
  have V := V'
  clear V'
  have RA := Lib.hid (RA.out.below b (by omega))
  have RB := Lib.hid (RB.out.below b (by omega))
  have RX := Lib.hid (RX.out.below b (by omega))
  have RV := Lib.hid (RV.out.below b (by omega))
  have BB' := Lib.hid (BB.out.trans (b.mono (by omega)))
  clear BB b
  have BB := BB'
  clear BB'
  have Y := Lib.hid ho
  clear ho
  refine wpAnyH_ready (rs := [3]) (by kernel_rfl) (by simp) ?_
  refine AllReadyH.cons (o := _) rfl (fun K hK => ?_) AllReadyH.nil
  go_simp
  refine (eqHt_any _ _ _ w11 _ _ V.out.reads Y.out.reads (by omega) (by omega) HSB.out).mono ?_
  rintro e w12 ⟨rfl, b⟩
  have hr1 := RV.out.below b (by omega)
  have hr2 := RB.out.below b (by omega)
  refine hK.out _ _ ⟨hr1, hr2⟩ (fun hHeld => ?_)
  clear hK K hr1 hr2
  clear Y
  have s12 := b.size
  have AA' := Lib.hid (AA.out.same (sm b _ (by omega)))
  clear AA
  have AA := AA'
  clear AA'
  have AB' := Lib.hid (AB.out.same (sm b _ (by omega)))
  clear AB
  have AB := AB'
  clear AB'
  have X' := Lib.hid (X.out.same (sm b _ (by omega)))
  clear X
  have X := X'
  clear X'
  have V' := Lib.hid (V.out.same (sm b _ (by omega)))
  clear V
  have V := V'
  clear V'
  have RA := Lib.hid (RA.out.below b (by omega))
  have RB := Lib.hid (RB.out.below b (by omega))
  have RX := Lib.hid (RX.out.below b (by omega))
  have RV := Lib.hid (RV.out.below b (by omega))
  have BB' := Lib.hid (BB.out.trans (b.mono (by omega)))
  clear BB b
  have BB := BB'
  clear BB'
  refine wpAnyH_ready (rs := [4]) (by kernel_rfl) (by simp) ?_
  refine AllReadyH.cons (o := _) rfl (fun K hK => ?_) AllReadyH.nil
  go_simp
  refine hK.out _ _ ⟨RV.out, RB.out⟩ (fun hHeld => ?_)
  clear hK K
  refine wpAnyH_done (by kernel_rfl) ?_ _
  clear hHeld
  go_wp2
  go_ret
  exact ⟨rfl, BB.out⟩
end Go.Proofs.Ytgkanacaijlljaa
