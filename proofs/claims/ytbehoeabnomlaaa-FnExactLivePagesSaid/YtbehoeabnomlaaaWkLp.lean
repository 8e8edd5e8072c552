/- The law FnExactLivePages, walked: every call by its contract. -/
import Derived.Test.YtbehoeabnomlaaaProg
import Derived.Test.YtbehoeabnomlaaaPmM
import Derived.Test.YtbehoeabnomlaaaPmO
import Derived.Test.YtbehoeabnomlaaaPmE
namespace Go.Proofs.Ytbehoeabnomlaaa
open Go.RowKit
set_option linter.unusedVariables false
set_option maxHeartbeats 4000000 in
set_option maxRecDepth 100000 in
theorem wkLp (vA : Value) (FA : Pm) (bl : Int) (w : World) (hFA : PmIn w w.heap.size vA FA) (hWA : PmW FA)  :
    Calls Try.prog 7 #[vA, .int .i64 bl] w fun e w' => e = .returned (.bool true) ∧ Below w.heap.size w w' := by
  obtain ⟨cA0, cA1, cA2, cA3, rfl⟩ : ∃ c0 c1 c2 c3, vA = .agg #[c0, c1, c2, c3] := by
    obtain ⟨a, b, rfl, _⟩ := hFA; exact ⟨_, _, _, _, rfl⟩
  have AA := Lib.hid hFA
  have HZA := Lib.hid (fun (W : World) (a : PmIn W w.heap.size (.agg #[cA0, cA1, cA2, cA3]) FA) (c : w.heap.size ≤ W.heap.size) => szPm_any _ FA W w.heap.size a c)
  have HTA := Lib.hid (fun (W : World) (a : PmIn W w.heap.size (.agg #[cA0, cA1, cA2, cA3]) FA) (c : w.heap.size ≤ W.heap.size) (z : PmSz FA) => toPm_any _ FA W w.heap.size a c z)
  clear hFA
  obtain ⟨r, hr⟩ := prop_dec' (PmOk FA)
  have HS := Lib.hid (fun (W : World) (u : Value) (hi : Nat) (a : PmIn W hi u FA) (c : hi ≤ W.heap.size) (l : PmSz FA) => specLivePages_any u FA bl r W hi a c hr l)
  have HI := Lib.hid (fun (W : World) (u : Value) (hi : Nat) (a : PmIn W hi u FA) (c : hi ≤ W.heap.size) (l : PmSz FA) => implLivePages_any u FA bl r W hi a c hr l hWA)
  have hxx : (((liveL FA r bl).length : Int) != ((liveL FA r bl).length : Int)) = false := by simp
  generalize (liveL FA r bl).length = v1 at *
  clear hr
  have BB := Lib.hid (Below.refl w.heap.size w)
  have AL := Lib.hid ((Below.refl w.heap.size w).alloc (Nat.le_refl _) (.cells #[cA0, cA1, cA2, cA3] 25))
  have hz : (w.alloc (.cells #[cA0, cA1, cA2, cA3] 25)).heap.size = w.heap.size + 1 := by simp
  have RA := Lib.hid (Rw.new w 25 #[cA0, cA1, cA2, cA3])
  go_enter Try.func7, Try.ntmps7
  go_wp2_with fail
  refine (HZA.out _ (AA.out.same (sm AL.out _ (by omega))) (by omega)).mono ?_
  rintro e w1 ⟨y, rfl, hy, b⟩
  by_cases hneg : y < 0
  · go_wp2
    go_ret
    exact ⟨rfl, BB.out.trans ((AL.out.trans (b.mono (by omega))).mono (by omega))⟩
  have hsz := hy.pmSmall hneg
  have hnA : ¬ y < 0 := hneg
  have HSA := Lib.hid hsz
  clear hneg hy hsz
  have s1 := b.size
  rw [hz] at s1
  have b0 := b
  have b := AL.out.trans (b0.mono (by omega))
  have RA := Lib.hid (RA.out.below b0 (by omega))
  clear b0
  have AA' := Lib.hid (AA.out.same (sm b _ (by omega)))
  clear AA
  have AA := AA'
  clear AA'
  have BB' := Lib.hid (BB.out.trans (b.mono (by omega)))
  clear BB b
  have BB := BB'
  clear BB'
  clear AL hz
  obtain ⟨q00, q01, q02, q03⟩ := RA.out.four
  go_wp2_with fail
  refine (HTA.out _ AA.out (by omega) HSA.out).mono ?_
  rintro e w2 ⟨vt, rfl, ho, b⟩
  clear q00 q01 q02 q03
  have s2 := b.size
  have AA' := Lib.hid (AA.out.same (sm b _ (by omega)))
  clear AA
  have AA := AA'
  clear AA'
  have RA := Lib.hid (RA.out.below b (by omega))
  have BB' := Lib.hid (BB.out.trans (b.mono (by omega)))
  clear BB b
  have BB := BB'
  clear BB'
  obtain ⟨vt0, vt1, vt2, vt3, vt4, vt5, vt6, vt7, rfl⟩ := ho.agg4
  have T := Lib.hid ho
  clear ho
  go_wp2_with fail
  refine (HS.out _ _ _ T.out.reads (by omega) HSA.out).mono ?_
  rintro e w3 ⟨rfl, b⟩
  have s3 := b.size
  have AA' := Lib.hid (AA.out.same (sm b _ (by omega)))
  clear AA
  have AA := AA'
  clear AA'
  have T' := Lib.hid (T.out.same (sm b _ (by omega)))
  clear T
  have T := T'
  clear T'
  have RA := Lib.hid (RA.out.below b (by omega))
  have BB' := Lib.hid (BB.out.trans (b.mono (by omega)))
  clear BB b
  have BB := BB'
  clear BB'
  clear T
  obtain ⟨q00, q01, q02, q03⟩ := RA.out.four
  go_wp2_with fail
  refine (HTA.out _ AA.out (by omega) HSA.out).mono ?_
  rintro e w4 ⟨vx, rfl, ho, b⟩
  clear q00 q01 q02 q03
  have s4 := b.size
  have AA' := Lib.hid (AA.out.same (sm b _ (by omega)))
  clear AA
  have AA := AA'
  clear AA'
  have RA := Lib.hid (RA.out.below b (by omega))
  have BB' := Lib.hid (BB.out.trans (b.mono (by omega)))
  clear BB b
  have BB := BB'
  clear BB'
  obtain ⟨vx0, vx1, vx2, vx3, vx4, vx5, vx6, vx7, rfl⟩ := ho.agg4
  have X := Lib.hid ho
  clear ho
  have AL := Lib.hid ((Below.refl w4.heap.size w4).alloc (Nat.le_refl _) (.cells #[.int .i64 vx0, .int .i64 vx1, .slice vx2 vx3 vx4, .slice vx5 vx6 vx7] 28))
  have hz : (w4.alloc (.cells #[.int .i64 vx0, .int .i64 vx1, .slice vx2 vx3 vx4, .slice vx5 vx6 vx7] 28)).heap.size = w4.heap.size + 1 := by simp
  have RX := Lib.hid (Rw.new w4 28 #[.int .i64 vx0, .int .i64 vx1, .slice vx2 vx3 vx4, .slice vx5 vx6 vx7])
  go_wp2_with fail
  refine (HI.out _ _ _ (X.out.same (sm AL.out _ (by omega))).reads (by omega) HSA.out).mono ?_
  rintro e w5 ⟨rfl, b⟩
  have s5 := b.size
  rw [hz] at s5
  have b0 := b
  have b := AL.out.trans (b0.mono (by omega))
  have RX := Lib.hid (RX.out.below b0 (by omega))
  clear b0
  have AA' := Lib.hid (AA.out.same (sm b _ (by omega)))
  clear AA
  have AA := AA'
  clear AA'
  have X' := Lib.hid (X.out.same (sm b _ (by omega)))
  clear X
  have X := X'
  clear X'
  have RA := Lib.hid (RA.out.below b (by omega))
  have BB' := Lib.hid (BB.out.trans (b.mono (by omega)))
  clear BB b
  have BB := BB'
  clear BB'
  clear AL hz
  go_wp2_with fail
  refine wp_region_held_drew (S := fun W => Rw W _ 28 #[.int .i64 vx0, .int .i64 vx1, .slice vx2 vx3 vx4, .slice vx5 vx6 vx7] ∧ Rw W _ 25 #[cA0, cA1, cA2, cA3]) (by kernel_rfl) ⟨show Rw w5.drew _ _ _ from RX.out, show Rw w5.drew _ _ _ from RA.out⟩ (fun hHeld => ?_)
  refine wpAnyH_take (i := 0) (oi := _) (v := .agg #[.int .i64 vx0, .int .i64 vx1, .slice vx2 vx3 vx4, .slice vx5 vx6 vx7]) rfl (by kernel_rfl) (by kernel_rfl) (by kernel_rfl) (fun _ _ _ h => h) (Or.inl ⟨by rfl, fun W hSw => by
    obtain ⟨q0, q1, q2, q3⟩ := hSw.1.four
    go_simp⟩) hHeld ?_
  refine wpAnyH_take (i := 1) (oi := _) (v := .agg #[cA0, cA1, cA2, cA3]) rfl (by kernel_rfl) (by kernel_rfl) (by kernel_rfl) (fun _ _ _ h => h) (Or.inl ⟨by rfl, fun W hSw => by
    obtain ⟨q0, q1, q2, q3⟩ := hSw.2.four
    go_simp⟩) hHeld ?_
  refine wpAnyH_ready (rs := [2]) (by kernel_rfl) (by simp) ?_
  refine AllReadyH.cons (o := _) rfl (fun K hK => ?_) AllReadyH.nil
  go_simp
  refine (HTA.out w5.drew (show PmIn w5.drew _ _ _ from AA.out) (by simp; omega) HSA.out).mono ?_
  rintro e w6 ⟨vy, rfl, ho, b0⟩
  have b := (Below.refl w5.heap.size w5).drew.trans b0
  have hr1 := RX.out.below b (by omega)
  have hr2 := RA.out.below b (by omega)
  refine hK.out _ _ ⟨hr1, hr2⟩ (fun hHeld => ?_)
  clear hK K hr1 hr2 b0 hHeld
  have s6 := b.size
  have AA' := Lib.hid (AA.out.same (sm b _ (by omega)))
  clear AA
  have AA := AA'
  clear AA'
  have X' := Lib.hid (X.out.same (sm b _ (by omega)))
  clear X
  have X := X'
  clear X'
  have RA := Lib.hid (RA.out.below b (by omega))
  have RX := Lib.hid (RX.out.below b (by omega))
  have BB' := Lib.hid (BB.out.trans (b.mono (by omega)))
  clear BB b
  have BB := BB'
  clear BB'
  have Y := Lib.hid ho
  clear ho
  refine wpAnyH_ready (rs := [3]) (by kernel_rfl) (by simp) ?_
  refine AllReadyH.cons (o := _) rfl (fun K hK => ?_) AllReadyH.nil
  go_simp
  refine (eqPm_any _ _ _ w6 _ _ X.out.reads Y.out.reads (by omega) (by omega) HSA.out).mono ?_
  rintro e w7 ⟨rfl, b⟩
  have hr1 := RX.out.below b (by omega)
  have hr2 := RA.out.below b (by omega)
  refine hK.out _ _ ⟨hr1, hr2⟩ (fun hHeld => ?_)
  clear hK K hr1 hr2
  clear Y
  have s7 := b.size
  have AA' := Lib.hid (AA.out.same (sm b _ (by omega)))
  clear AA
  have AA := AA'
  clear AA'
  have X' := Lib.hid (X.out.same (sm b _ (by omega)))
  clear X
  have X := X'
  clear X'
  have RA := Lib.hid (RA.out.below b (by omega))
  have RX := Lib.hid (RX.out.below b (by omega))
  have BB' := Lib.hid (BB.out.trans (b.mono (by omega)))
  clear BB b
  have BB := BB'
  clear BB'
  refine wpAnyH_ready (rs := [4]) (by kernel_rfl) (by simp) ?_
  refine AllReadyH.cons (o := _) rfl (fun K hK => ?_) AllReadyH.nil
  go_simp
  refine hK.out _ _ ⟨RX.out, RA.out⟩ (fun hHeld => ?_)
  clear hK K
  refine wpAnyH_done (by kernel_rfl) ?_ _
  clear hHeld
  go_wp2
  go_ret
  exact ⟨rfl, BB.out⟩
end Go.Proofs.Ytbehoeabnomlaaa
