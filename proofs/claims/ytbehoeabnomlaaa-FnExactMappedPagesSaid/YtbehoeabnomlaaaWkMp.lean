/- The law FnExactMappedPages, walked: every call by its contract. -/
import Derived.Test.YtbehoeabnomlaaaProg
import Derived.Test.YtbehoeabnomlaaaPmM
import Derived.Test.YtbehoeabnomlaaaPmK
import Derived.Test.YtbehoeabnomlaaaPmO
import Derived.Test.YtbehoeabnomlaaaPmG
namespace Go.Proofs.Ytbehoeabnomlaaa
open Go.RowKit
set_option linter.unusedVariables false
set_option maxHeartbeats 4000000 in
set_option maxRecDepth 100000 in
theorem wkMp (vA : Value) (FA : Pm)  (w : World) (hFA : PmIn w w.heap.size vA FA) (hWA : PmW FA)  :
    Calls Try.prog 9 #[vA] w fun e w' => e = .returned (.bool true) ∧ Below w.heap.size w w' := by
  obtain ⟨cA0, cA1, cA2, cA3, rfl⟩ : ∃ c0 c1 c2 c3, vA = .agg #[c0, c1, c2, c3] := by
    obtain ⟨a, b, rfl, _⟩ := hFA; exact ⟨_, _, _, _, rfl⟩
  have AA := Lib.hid hFA
  have HZA := Lib.hid (fun (W : World) (a : PmIn W w.heap.size (.agg #[cA0, cA1, cA2, cA3]) FA) (c : w.heap.size ≤ W.heap.size) => szPm_any _ FA W w.heap.size a c)
  have HTA := Lib.hid (fun (W : World) (a : PmIn W w.heap.size (.agg #[cA0, cA1, cA2, cA3]) FA) (c : w.heap.size ≤ W.heap.size) (z : PmSz FA) => toPm_any _ FA W w.heap.size a c z)
  clear hFA
  obtain ⟨r, hr⟩ := prop_dec' (PmOk FA)
  obtain ⟨LL, hLL⟩ : ∃ L, L = mappedL FA r := ⟨_, rfl⟩
  have HS := Lib.hid (fun (W : World) (u : Value) (hi : Nat) (a : PmIn W hi u FA) (c : hi ≤ W.heap.size) (l : PmSz FA) => show Calls _ _ _ _ (CopyPostI LL W) from hLL ▸ specMapped_any u FA r W hi a c hr l)
  have HI := Lib.hid (fun (W : World) (u : Value) (hi : Nat) (a : PmIn W hi u FA) (c : hi ≤ W.heap.size) (l : PmSz FA) => show Calls _ _ _ _ (CopyPostI LL W) from hLL ▸ implMapped_any u FA r W hi a c hr l hWA)
  have HLE := Lib.hid (show PmSz FA → LL.length ≤ 1048576 from fun z => by rw [hLL]; exact mappedL_le z)
  clear hr hLL
  have BB := Lib.hid (Below.refl w.heap.size w)
  have AL := Lib.hid ((Below.refl w.heap.size w).alloc (Nat.le_refl _) (.cells #[cA0, cA1, cA2, cA3] 25))
  have hz : (w.alloc (.cells #[cA0, cA1, cA2, cA3] 25)).heap.size = w.heap.size + 1 := by simp
  have RA := Lib.hid (Rw.new w 25 #[cA0, cA1, cA2, cA3])
  go_enter Try.func9, Try.ntmps9
  go_wp2_with fail
  refine (HZA.out _ (AA.out.same (sm AL.out _ (by omega))) (by omega)).mono ?_
  rintro e w1 ⟨y, rfl, hy, b⟩
  by_cases hneg : y < 0
  · go_wp2
    go_ret
    exact ⟨rfl, BB.out.trans ((AL.out.trans (b.mono (by omega))).mono (by omega))⟩
  have hsz := hy.pmSmall hneg
  have hnA : ¬ y < 0 := hneg
  have HSA := Lib.hid hsz
  clear hneg hy hsz
  have s1 := b.size
  rw [hz] at s1
  have b0 := b
  have b := AL.out.trans (b0.mono (by omega))
  have RA := Lib.hid (RA.out.below b0 (by omega))
  clear b0
  have AA' := Lib.hid (AA.out.same (sm b _ (by omega)))
  clear AA
  have AA := AA'
  clear AA'
  have BB' := Lib.hid (BB.out.trans (b.mono (by omega)))
  clear BB b
  have BB := BB'
  clear BB'
  clear AL hz
  have HLL := Lib.hid (HLE.out HSA.out)
  obtain ⟨q00, q01, q02, q03⟩ := RA.out.four
  go_wp2_with fail
  refine (HTA.out _ AA.out (by omega) HSA.out).mono ?_
  rintro e w2 ⟨vt, rfl, ho, b⟩
  clear q00 q01 q02 q03
  have s2 := b.size
  have AA' := Lib.hid (AA.out.same (sm b _ (by omega)))
  clear AA
  have AA := AA'
  clear AA'
  have RA := Lib.hid (RA.out.below b (by omega))
  have BB' := Lib.hid (BB.out.trans (b.mono (by omega)))
  clear BB b
  have BB := BB'
  clear BB'
  obtain ⟨vt0, vt1, vt2, vt3, vt4, vt5, vt6, vt7, rfl⟩ := ho.agg4
  have T := Lib.hid ho
  clear ho
  go_wp2_with fail
  refine (HS.out _ _ _ T.out.reads (by omega) HSA.out).mono ?_
  rintro e w3 ⟨v, rfl, ho, b⟩
  obtain ⟨lS0, lS1, lS2, rfl⟩ := ho.sliceOf'
  have S := Lib.hid (IO.mk_ ho)
  clear ho
  have s3 := b.size
  have AA' := Lib.hid (AA.out.same (sm b _ (by omega)))
  clear AA
  have AA := AA'
  clear AA'
  have T' := Lib.hid (T.out.same (sm b _ (by omega)))
  clear T
  have T := T'
  clear T'
  have RA := Lib.hid (RA.out.below b (by omega))
  have BB' := Lib.hid (BB.out.trans (b.mono (by omega)))
  clear BB b
  have BB := BB'
  clear BB'
  clear T
  obtain ⟨q00, q01, q02, q03⟩ := RA.out.four
  go_wp2_with fail
  refine (HTA.out _ AA.out (by omega) HSA.out).mono ?_
  rintro e w4 ⟨vx, rfl, ho, b⟩
  clear q00 q01 q02 q03
  have s4 := b.size
  have AA' := Lib.hid (AA.out.same (sm b _ (by omega)))
  clear AA
  have AA := AA'
  clear AA'
  have S' := Lib.hid (S.out.same (sm b _ (by omega)))
  clear S
  have S := S'
  clear S'
  have RA := Lib.hid (RA.out.below b (by omega))
  have BB' := Lib.hid (BB.out.trans (b.mono (by omega)))
  clear BB b
  have BB := BB'
  clear BB'
  obtain ⟨vx0, vx1, vx2, vx3, vx4, vx5, vx6, vx7, rfl⟩ := ho.agg4
  have X := Lib.hid ho
  clear ho
  have AL := Lib.hid ((Below.refl w4.heap.size w4).alloc (Nat.le_refl _) (.cells #[.int .i64 vx0, .int .i64 vx1, .slice vx2 vx3 vx4, .slice vx5 vx6 vx7] 28))
  have hz : (w4.alloc (.cells #[.int .i64 vx0, .int .i64 vx1, .slice vx2 vx3 vx4, .slice vx5 vx6 vx7] 28)).heap.size = w4.heap.size + 1 := by simp
  have RX := Lib.hid (Rw.new w4 28 #[.int .i64 vx0, .int .i64 vx1, .slice vx2 vx3 vx4, .slice vx5 vx6 vx7])
  go_wp2_with fail
  refine (HI.out _ _ _ (X.out.same (sm AL.out _ (by omega))).reads (by omega) HSA.out).mono ?_
  rintro e w5 ⟨v, rfl, ho, b⟩
  rw [hz] at ho
  obtain ⟨lG0, lG1, lG2, rfl⟩ := ho.sliceOf'
  have G := Lib.hid (IO.mk_ ho)
  clear ho
  have s5 := b.size
  rw [hz] at s5
  have b0 := b
  have b := AL.out.trans (b0.mono (by omega))
  have RX := Lib.hid (RX.out.below b0 (by omega))
  clear b0
  have AA' := Lib.hid (AA.out.same (sm b _ (by omega)))
  clear AA
  have AA := AA'
  clear AA'
  have S' := Lib.hid (S.out.same (sm b _ (by omega)))
  clear S
  have S := S'
  clear S'
  have X' := Lib.hid (X.out.same (sm b _ (by omega)))
  clear X
  have X := X'
  clear X'
  have RA := Lib.hid (RA.out.below b (by omega))
  have BB' := Lib.hid (BB.out.trans (b.mono (by omega)))
  clear BB b
  have BB := BB'
  clear BB'
  clear AL hz
  go_wp2_with fail
  refine (eqInts_any _ _ _ _ (G.out.reads.ints (by omega)) (S.out.reads.ints (by omega)) HLL.out).mono ?_
  rintro e w6 ⟨rfl, b⟩
  have s6 := b.size
  have AA' := Lib.hid (AA.out.same (sm b _ (by omega)))
  clear AA
  have AA := AA'
  clear AA'
  have S' := Lib.hid (S.out.same (sm b _ (by omega)))
  clear S
  have S := S'
  clear S'
  have X' := Lib.hid (X.out.same (sm b _ (by omega)))
  clear X
  have X := X'
  clear X'
  have G' := Lib.hid (G.out.same (sm b _ (by omega)))
  clear G
  have G := G'
  clear G'
  have RA := Lib.hid (RA.out.below b (by omega))
  have RX := Lib.hid (RX.out.below b (by omega))
  have BB' := Lib.hid (BB.out.trans (b.mono (by omega)))
  clear BB b
  have BB := BB'
  clear BB'
  go_wp2_with fail
  refine wp_region_held_drew (S := fun W => Rw W _ 28 #[.int .i64 vx0, .int .i64 vx1, .slice vx2 vx3 vx4, .slice vx5 vx6 vx7] ∧ Rw W _ 25 #[cA0, cA1, cA2, cA3]) (by kernel_rfl) ⟨show Rw w6.drew _ _ _ from RX.out, show Rw w6.drew _ _ _ from RA.out⟩ (fun hHeld => ?_)
  refine wpAnyH_take (i := 0) (oi := _) (v := .agg #[.int .i64 vx0, .int .i64 vx1, .slice vx2 vx3 vx4, .slice vx5 vx6 vx7]) rfl (by kernel_rfl) (by kernel_rfl) (by kernel_rfl) (fun _ _ _ h => h) (Or.inl ⟨by rfl, fun W hSw => by
    obtain ⟨q0, q1, q2, q3⟩ := hSw.1.four
    go_simp⟩) hHeld ?_
  refine wpAnyH_take (i := 1) (oi := _) (v := .agg #[cA0, cA1, cA2, cA3]) rfl (by kernel_rfl) (by kernel_rfl) (by kernel_rfl) (fun _ _ _ h => h) (Or.inl ⟨by rfl, fun W hSw => by
    obtain ⟨q0, q1, q2, q3⟩ := hSw.2.four
    go_simp⟩) hHeld ?_
  refine wpAnyH_ready (rs := [2]) (by kernel_rfl) (by simp) ?_
  refine AllReadyH.cons (o := _) rfl (fun K hK => ?_) AllReadyH.nil
  go_simp
  refine (HTA.out w6.drew (show PmIn w6.drew _ _ _ from AA.out) (by simp; omega) HSA.out).mono ?_
  rintro e w7 ⟨vy, rfl, ho, b0⟩
  have b := (Below.refl w6.heap.size w6).drew.trans b0
  have hr1 := RX.out.below b (by omega)
  have hr2 := RA.out.below b (by omega)
  refine hK.out _ _ ⟨hr1, hr2⟩ (fun hHeld => ?_)
  clear hK K hr1 hr2 b0 hHeld
  have s7 := b.size
  have AA' := Lib.hid (AA.out.same (sm b _ (by omega)))
  clear AA
  have AA := AA'
  clear AA'
  have S' := Lib.hid (S.out.same (sm b _ (by omega)))
  clear S
  have S := S'
  clear S'
  have X' := Lib.hid (X.out.same (sm b _ (by omega)))
  clear X
  have X := X'
  clear X'
  have G' := Lib.hid (G.out.same (sm b _ (by omega)))
  clear G
  have G := G'
  clear G'
  have RA := Lib.hid (RA.out.below b (by omega))
  have RX := Lib.hid (RX.out.below b (by omega))
  have BB' := Lib.hid (BB.out.trans (b.mono (by omega)))
  clear BB b
  have BB := BB'
  clear BB'
  have Y := Lib.hid ho
  clear ho
  refine wpAnyH_ready (rs := [3]) (by kernel_rfl) (by simp) ?_
  refine AllReadyH.cons (o := _) rfl (fun K hK => ?_) AllReadyH.nil
  go_simp
  refine (eqPm_any _ _ _ w7 _ _ X.out.reads Y.out.reads (by omega) (by omega) HSA.out).mono ?_
  rintro e w8 ⟨rfl, b⟩
  have hr1 := RX.out.below b (by omega)
  have hr2 := RA.out.below b (by omega)
  refine hK.out _ _ ⟨hr1, hr2⟩ (fun hHeld => ?_)
  clear hK K hr1 hr2
  clear Y
  have s8 := b.size
  have AA' := Lib.hid (AA.out.same (sm b _ (by omega)))
  clear AA
  have AA := AA'
  clear AA'
  have S' := Lib.hid (S.out.same (sm b _ (by omega)))
  clear S
  have S := S'
  clear S'
  have X' := Lib.hid (X.out.same (sm b _ (by omega)))
  clear X
  have X := X'
  clear X'
  have G' := Lib.hid (G.out.same (sm b _ (by omega)))
  clear G
  have G := G'
  clear G'
  have RA := Lib.hid (RA.out.below b (by omega))
  have RX := Lib.hid (RX.out.below b (by omega))
  have BB' := Lib.hid (BB.out.trans (b.mono (by omega)))
  clear BB b
  have BB := BB'
  clear BB'
  refine wpAnyH_ready (rs := [4]) (by kernel_rfl) (by simp) ?_
  refine AllReadyH.cons (o := _) rfl (fun K hK => ?_) AllReadyH.nil
  go_simp
  refine hK.out _ _ ⟨RX.out, RA.out⟩ (fun hHeld => ?_)
  clear hK K
  refine wpAnyH_done (by kernel_rfl) ?_ _
  clear hHeld
  obtain ⟨q00, q01, q02, q03⟩ := RX.out.four
  go_wp2_with fail
  refine (markPm_any _ _ _ _ _ X.out (by omega) (by omega) HSA.out).mono ?_
  rintro e w9 ⟨rfl, _, kp⟩
  clear q00 q01 q02 q03
  have s9 := kp.size
  have AA' := Lib.hid (AA.out.same (sm kp.1 _ (by omega)))
  clear AA
  have AA := AA'
  clear AA'
  have S' := Lib.hid (S.out.same (sm kp.1 _ (by omega)))
  clear S
  have S := S'
  clear S'
  have G' := Lib.hid (G.out.same (kp.2.mono (by omega) (by omega)))
  clear G
  have G := G'
  clear G'
  have RA := Lib.hid (RA.out.below kp.1 (by omega))
  have RX : Hid (Rw _ _ _ _) := Lib.hid ((kp.2 _ (by omega) (by have := RX.out.lt; omega)).trans RX.out)
  have BB' := Lib.hid (BB.out.trans (kp.1.mono (by omega)))
  clear BB kp
  have BB := BB'
  clear BB'
  clear X
  have hnk : ¬ ((1 + FA.mp.length + FA.tr.length : Nat) : Int) < 0 := by omega
  generalize 1 + FA.mp.length + FA.tr.length = nq at *
  go_wp2_with fail
  refine (eqInts_any _ _ _ _ (G.out.reads.ints (by omega)) (S.out.reads.ints (by omega)) HLL.out).mono ?_
  rintro e w10 ⟨rfl, b⟩
  have s10 := b.size
  have AA' := Lib.hid (AA.out.same (sm b _ (by omega)))
  clear AA
  have AA := AA'
  clear AA'
  have S' := Lib.hid (S.out.same (sm b _ (by omega)))
  clear S
  have S := S'
  clear S'
  have G' := Lib.hid (G.out.same (sm b _ (by omega)))
  clear G
  have G := G'
  clear G'
  have RA := Lib.hid (RA.out.below b (by omega))
  have RX := Lib.hid (RX.out.below b (by omega))
  have BB' := Lib.hid (BB.out.trans (b.mono (by omega)))
  clear BB b
  have BB := BB'
  clear BB'
  go_wp2_with fail
  refine (markInts_any _ _ _ _ G.out.1 HLL.out).mono ?_
  rintro e w11 ⟨rfl, ho, _, b⟩
  have M := Lib.hid (show IO _ _ _ _ _ from ⟨ho, G.out.2⟩)
  clear G ho
  have s11 := b.size
  have AA' := Lib.hid (AA.out.same (sm b _ (by omega)))
  clear AA
  have AA := AA'
  clear AA'
  have S' := Lib.hid (S.out.same (sm b _ (by omega)))
  clear S
  have S := S'
  clear S'
  have RA := Lib.hid (RA.out.below b (by omega))
  have RX := Lib.hid (RX.out.below b (by omega))
  have BB' := Lib.hid (BB.out.trans (b.mono (by omega)))
  clear BB b
  have BB := BB'
  clear BB'
  go_wp2_with fail
  refine (heldIntsB_any _ _ _ (M.out.reads.ints (by omega)) HLL.out).mono ?_
  rintro e w12 ⟨rfl, b⟩
  have s12 := b.size
  have AA' := Lib.hid (AA.out.same (sm b _ (by omega)))
  clear AA
  have AA := AA'
  clear AA'
  have S' := Lib.hid (S.out.same (sm b _ (by omega)))
  clear S
  have S := S'
  clear S'
  have M' := Lib.hid (M.out.same (sm b _ (by omega)))
  clear M
  have M := M'
  clear M'
  have RA := Lib.hid (RA.out.below b (by omega))
  have RX := Lib.hid (RX.out.below b (by omega))
  have BB' := Lib.hid (BB.out.trans (b.mono (by omega)))
  clear BB b
  have BB := BB'
  clear BB'
  have hgn : ¬ (1 + (LL.length : Int)) < 0 := by omega
  have hge : ((1 + (LL.length : Int)) != (1 + (LL.length : Int))) = false := by simp
  obtain ⟨q00, q01, q02, q03⟩ := RA.out.four
  go_wp2_with fail
  refine (HTA.out _ AA.out (by omega) HSA.out).mono ?_
  rintro e w13 ⟨vt, rfl, ho, b⟩
  clear q00 q01 q02 q03
  have s13 := b.size
  have AA' := Lib.hid (AA.out.same (sm b _ (by omega)))
  clear AA
  have AA := AA'
  clear AA'
  have S' := Lib.hid (S.out.same (sm b _ (by omega)))
  clear S
  have S := S'
  clear S'
  have M' := Lib.hid (M.out.same (sm b _ (by omega)))
  clear M
  have M := M'
  clear M'
  have RA := Lib.hid (RA.out.below b (by omega))
  have RX := Lib.hid (RX.out.below b (by omega))
  have BB' := Lib.hid (BB.out.trans (b.mono (by omega)))
  clear BB b
  have BB := BB'
  clear BB'
  obtain ⟨vt0, vt1, vt2, vt3, vt4, vt5, vt6, vt7, rfl⟩ := ho.agg4
  have T := Lib.hid ho
  clear ho
  go_wp2_with fail
  refine (HI.out _ _ _ T.out.reads (by omega) HSA.out).mono ?_
  rintro e w14 ⟨v, rfl, ho, b⟩
  obtain ⟨lH0, lH1, lH2, rfl⟩ := ho.sliceOf'
  have H := Lib.hid (IO.mk_ ho)
  clear ho
  have s14 := b.size
  have AA' := Lib.hid (AA.out.same (sm b _ (by omega)))
  clear AA
  have AA := AA'
  clear AA'
  have S' := Lib.hid (S.out.same (sm b _ (by omega)))
  clear S
  have S := S'
  clear S'
  have M' := Lib.hid (M.out.same (sm b _ (by omega)))
  clear M
  have M := M'
  clear M'
  have T' := Lib.hid (T.out.same (sm b _ (by omega)))
  clear T
  have T := T'
  clear T'
  have RA := Lib.hid (RA.out.below b (by omega))
  have RX := Lib.hid (RX.out.below b (by omega))
  have BB' := Lib.hid (BB.out.trans (b.mono (by omega)))
  clear BB b
  have BB := BB'
  clear BB'
  clear T
  go_wp2_with fail
  refine (eqInts_any _ _ _ _ (H.out.reads.ints (by omega)) (S.out.reads.ints (by omega)) HLL.out).mono ?_
  rintro e w15 ⟨rfl, b⟩
  have s15 := b.size
  have AA' := Lib.hid (AA.out.same (sm b _ (by omega)))
  clear AA
  have AA := AA'
  clear AA'
  have S' := Lib.hid (S.out.same (sm b _ (by omega)))
  clear S
  have S := S'
  clear S'
  have M' := Lib.hid (M.out.same (sm b _ (by omega)))
  clear M
  have M := M'
  clear M'
  have H' := Lib.hid (H.out.same (sm b _ (by omega)))
  clear H
  have H := H'
  clear H'
  have RA := Lib.hid (RA.out.below b (by omega))
  have RX := Lib.hid (RX.out.below b (by omega))
  have BB' := Lib.hid (BB.out.trans (b.mono (by omega)))
  clear BB b
  have BB := BB'
  clear BB'
  go_wp2_with fail
  refine (heldIntsB_any _ _ _ (M.out.reads.ints (by omega)) HLL.out).mono ?_
  rintro e w16 ⟨rfl, b⟩
  have s16 := b.size
  have AA' := Lib.hid (AA.out.same (sm b _ (by omega)))
  clear AA
  have AA := AA'
  clear AA'
  have S' := Lib.hid (S.out.same (sm b _ (by omega)))
  clear S
  have S := S'
  clear S'
  have M' := Lib.hid (M.out.same (sm b _ (by omega)))
  clear M
  have M := M'
  clear M'
  have H' := Lib.hid (H.out.same (sm b _ (by omega)))
  clear H
  have H := H'
  clear H'
  have RA := Lib.hid (RA.out.below b (by omega))
  have RX := Lib.hid (RX.out.below b (by omega))
  have BB' := Lib.hid (BB.out.trans (b.mono (by omega)))
  clear BB b
  have BB := BB'
  clear BB'
  go_wp2
  go_ret
  exact ⟨rfl, BB.out⟩
end Go.Proofs.Ytbehoeabnomlaaa
