/- The law FnExactScanBadBlocks, walked: every call by its contract. -/
import Derived.Test.YtbdfdkhkamonpabProg
import Derived.Test.YtbdfdkhkamonpabFlSz
import Derived.Test.YtbdfdkhkamonpabFlA
import Derived.Test.YtbdfdkhkamonpabFlE
import Derived.Test.YtbdfdkhkamonpabFlK
import Derived.Test.YtbdfdkhkamonpabPmM
import Derived.Test.YtbdfdkhkamonpabPmK
import Derived.Test.YtbdfdkhkamonpabScan
namespace Go.Proofs.Ytbdfdkhkamonpab
open Go.RowKit
set_option linter.unusedVariables false
set_option maxHeartbeats 4000000 in
set_option maxRecDepth 100000 in
theorem wkScan (vA : Value) (FA : Fl) (lim : Int) (w : World) (hFA : FlIn w 0 w.heap.size vA FA)  :
    Calls Try.prog 11 #[vA, .int .i64 lim] w fun e w' => e = .returned (.bool true) ∧ Below w.heap.size w w' := by
  obtain ⟨cA0, cA1, cA2, cA3, cA4, cA5, cA6, cA7, rfl⟩ : ∃ c0 c1 c2 c3 c4 c5 c6 c7, vA = .agg #[c0, c1, c2, c3, c4, c5, c6, c7] := by
    obtain ⟨u, rfl, _⟩ := hFA; exact ⟨_, _, _, _, _, _, _, _, rfl⟩
  have AA := Lib.hid hFA
  have HZA := Lib.hid (fun (W : World) (a : FlIn W 0 w.heap.size (.agg #[cA0, cA1, cA2, cA3, cA4, cA5, cA6, cA7]) FA) (c : w.heap.size ≤ W.heap.size) => szFlash_any _ FA W w.heap.size a c)
  have HTA := Lib.hid (fun (W : World) (a : FlIn W 0 w.heap.size (.agg #[cA0, cA1, cA2, cA3, cA4, cA5, cA6, cA7]) FA) (c : w.heap.size ≤ W.heap.size) (z : FlSz FA) => toFlash_any _ FA W w.heap.size a c z)
  clear hFA
  obtain ⟨r, hr⟩ := prop_dec (FlOk FA)
  obtain ⟨LL, hLL⟩ : ∃ LL, LL = scanV FA lim r := ⟨_, rfl⟩
  have HLL : Hid (LL.length ≤ 1048576) := Lib.hid (by rw [hLL]; have := scanV_le (lim := lim) hr; omega)
  have HS := Lib.hid (fun (W : World) (u : Value) (lo hi : Nat) (a : FlIn W lo hi u FA) (c : hi ≤ W.heap.size) (l : FlLen FA) => show Calls _ _ _ _ (CopyPostI LL W) from hLL ▸ specScan_any u FA lim r W lo hi a c hr l)
  have HI := Lib.hid (fun (W : World) (u : Value) (lo hi : Nat) (a : FlIn W lo hi u FA) (c : hi ≤ W.heap.size) (l : FlLen FA) => show Calls _ _ _ _ (CopyPostI LL W) from hLL ▸ implScan_any u FA lim r W lo hi a c hr l)
  have hLm : (LL.length : Int) ≤ 1048576 := by have := HLL.out; omega
  clear hr hLL
  have BB := Lib.hid (Below.refl w.heap.size w)
  have AL := Lib.hid ((Below.refl w.heap.size w).alloc (Nat.le_refl _) (.cells #[cA0, cA1, cA2, cA3, cA4, cA5, cA6, cA7] 84))
  have hz : (w.alloc (.cells #[cA0, cA1, cA2, cA3, cA4, cA5, cA6, cA7] 84)).heap.size = w.heap.size + 1 := by simp
  have RA := Lib.hid (Rw.new w 84 #[cA0, cA1, cA2, cA3, cA4, cA5, cA6, cA7])
  go_enter Try.func11, Try.ntmps11
  go_wp2_with fail
  refine (HZA.out _ (AA.out.same (sm AL.out _ (by omega))) (by omega)).mono ?_
  rintro e w1 ⟨y, rfl, hy, b⟩
  by_cases hneg : y < 0
  · go_wp2
    go_ret
    exact ⟨rfl, BB.out.trans ((AL.out.trans (b.mono (by omega))).mono (by omega))⟩
  have hsz := hy.small hneg
  have hnA : ¬ y < 0 := hneg
  have HSA := Lib.hid hsz
  have HLA := Lib.hid hsz.lens
  clear hneg hy hsz
  have s1 := b.size
  rw [hz] at s1
  have b0 := b
  have b := AL.out.trans (b0.mono (by omega))
  have RA := Lib.hid (RA.out.below b0 (by omega))
  clear b0
  have AA' := Lib.hid (AA.out.same (sm b _ (by omega)))
  clear AA
  have AA := AA'
  clear AA'
  have BB' := Lib.hid (BB.out.trans (b.mono (by omega)))
  clear BB b
  have BB := BB'
  clear BB'
  clear AL hz
  obtain ⟨q00, q01, q02, q03, q04, q05, q06, q07⟩ := RA.out.eight
  go_wp2_with fail
  refine (HTA.out _ AA.out (by omega) HSA.out).mono ?_
  rintro e w2 ⟨vt, rfl, ho, b⟩
  clear q00 q01 q02 q03 q04 q05 q06 q07
  have s2 := b.size
  have AA' := Lib.hid (AA.out.same (sm b _ (by omega)))
  clear AA
  have AA := AA'
  clear AA'
  have RA := Lib.hid (RA.out.below b (by omega))
  have BB' := Lib.hid (BB.out.trans (b.mono (by omega)))
  clear BB b
  have BB := BB'
  clear BB'
  obtain ⟨vt0, vt1, vt2, vt3, vt4, vt5, vt6, vt7, vt8, vt9, rfl⟩ := ho.agg8
  have T := Lib.hid ho
  clear ho
  go_wp2_with fail
  refine (HS.out _ _ _ _ T.out.reads (by omega) HLA.out).mono ?_
  rintro e w3 ⟨v, rfl, ho, b⟩
  obtain ⟨lS0, lS1, lS2, rfl⟩ := ho.sliceOf'
  have S := Lib.hid (IO.mk_ ho)
  clear ho
  have s3 := b.size
  have AA' := Lib.hid (AA.out.same (sm b _ (by omega)))
  clear AA
  have AA := AA'
  clear AA'
  have T' := Lib.hid (T.out.same (sm b _ (by omega)))
  clear T
  have T := T'
  clear T'
  have RA := Lib.hid (RA.out.below b (by omega))
  have BB' := Lib.hid (BB.out.trans (b.mono (by omega)))
  clear BB b
  have BB := BB'
  clear BB'
  clear T
  obtain ⟨q00, q01, q02, q03, q04, q05, q06, q07⟩ := RA.out.eight
  go_wp2_with fail
  refine (HTA.out _ AA.out (by omega) HSA.out).mono ?_
  rintro e w4 ⟨vx, rfl, ho, b⟩
  clear q00 q01 q02 q03 q04 q05 q06 q07
  have s4 := b.size
  have AA' := Lib.hid (AA.out.same (sm b _ (by omega)))
  clear AA
  have AA := AA'
  clear AA'
  have S' := Lib.hid (S.out.same (sm b _ (by omega)))
  clear S
  have S := S'
  clear S'
  have RA := Lib.hid (RA.out.below b (by omega))
  have BB' := Lib.hid (BB.out.trans (b.mono (by omega)))
  clear BB b
  have BB := BB'
  clear BB'
  obtain ⟨vx0, vx1, vx2, vx3, vx4, vx5, vx6, vx7, vx8, vx9, rfl⟩ := ho.agg8
  have X := Lib.hid ho
  clear ho
  have AL := Lib.hid ((Below.refl w4.heap.size w4).alloc (Nat.le_refl _) (.cells #[.int .i64 vx0, .int .i64 vx1, .int .i64 vx2, .slice vx3 vx4 vx5, .int .i64 vx6, .int .i64 vx7, .bool vx8, .int .i64 vx9] 92))
  have hz : (w4.alloc (.cells #[.int .i64 vx0, .int .i64 vx1, .int .i64 vx2, .slice vx3 vx4 vx5, .int .i64 vx6, .int .i64 vx7, .bool vx8, .int .i64 vx9] 92)).heap.size = w4.heap.size + 1 := by simp
  have RX := Lib.hid (Rw.new w4 92 #[.int .i64 vx0, .int .i64 vx1, .int .i64 vx2, .slice vx3 vx4 vx5, .int .i64 vx6, .int .i64 vx7, .bool vx8, .int .i64 vx9])
  go_wp2_with fail
  refine (HI.out _ _ _ _ (X.out.same (sm AL.out _ (by omega))).reads (by omega) HLA.out).mono ?_
  rintro e w5 ⟨v, rfl, ho, b⟩
  rw [hz] at ho
  obtain ⟨lG0, lG1, lG2, rfl⟩ := ho.sliceOf'
  have G := Lib.hid (IO.mk_ ho)
  clear ho
  have s5 := b.size
  rw [hz] at s5
  have b0 := b
  have b := AL.out.trans (b0.mono (by omega))
  have RX := Lib.hid (RX.out.below b0 (by omega))
  clear b0
  have AA' := Lib.hid (AA.out.same (sm b _ (by omega)))
  clear AA
  have AA := AA'
  clear AA'
  have S' := Lib.hid (S.out.same (sm b _ (by omega)))
  clear S
  have S := S'
  clear S'
  have X' := Lib.hid (X.out.same (sm b _ (by omega)))
  clear X
  have X := X'
  clear X'
  have RA := Lib.hid (RA.out.below b (by omega))
  have BB' := Lib.hid (BB.out.trans (b.mono (by omega)))
  clear BB b
  have BB := BB'
  clear BB'
  clear AL hz
  go_wp2_with fail
  refine (eqInts_any _ _ _ _ (G.out.reads.ints (by omega)) (S.out.reads.ints (by omega)) HLL.out).mono ?_
  rintro e w6 ⟨rfl, b⟩
  have s6 := b.size
  have AA' := Lib.hid (AA.out.same (sm b _ (by omega)))
  clear AA
  have AA := AA'
  clear AA'
  have S' := Lib.hid (S.out.same (sm b _ (by omega)))
  clear S
  have S := S'
  clear S'
  have X' := Lib.hid (X.out.same (sm b _ (by omega)))
  clear X
  have X := X'
  clear X'
  have G' := Lib.hid (G.out.same (sm b _ (by omega)))
  clear G
  have G := G'
  clear G'
  have RA := Lib.hid (RA.out.below b (by omega))
  have RX := Lib.hid (RX.out.below b (by omega))
  have BB' := Lib.hid (BB.out.trans (b.mono (by omega)))
  clear BB b
  have BB := BB'
  clear BB'
  go_wp2_with fail
  refine wp_region_held_drew (S := fun W => Rw W _ 92 #[.int .i64 vx0, .int .i64 vx1, .int .i64 vx2, .slice vx3 vx4 vx5, .int .i64 vx6, .int .i64 vx7, .bool vx8, .int .i64 vx9] ∧ Rw W _ 84 #[cA0, cA1, cA2, cA3, cA4, cA5, cA6, cA7]) (by kernel_rfl) ⟨show Rw w6.drew _ _ _ from RX.out, show Rw w6.drew _ _ _ from RA.out⟩ (fun hHeld => ?_)
  refine wpAnyH_take (i := 0) (oi := _) (v := .agg #[.int .i64 vx0, .int .i64 vx1, .int .i64 vx2, .slice vx3 vx4 vx5, .int .i64 vx6, .int .i64 vx7, .bool vx8, .int .i64 vx9]) rfl (by kernel_rfl) (by kernel_rfl) (by kernel_rfl) (fun _ _ _ h => h) (Or.inl ⟨by rfl, fun W hSw => by
    obtain ⟨q0, q1, q2, q3, q4, q5, q6, q7⟩ := hSw.1.eight
    go_simp⟩) hHeld ?_
  refine wpAnyH_take (i := 1) (oi := _) (v := .agg #[cA0, cA1, cA2, cA3, cA4, cA5, cA6, cA7]) rfl (by kernel_rfl) (by kernel_rfl) (by kernel_rfl) (fun _ _ _ h => h) (Or.inl ⟨by rfl, fun W hSw => by
    obtain ⟨q0, q1, q2, q3, q4, q5, q6, q7⟩ := hSw.2.eight
    go_simp⟩) hHeld ?_
  refine wpAnyH_ready (rs := [2]) (by kernel_rfl) (by simp) ?_
  refine AllReadyH.cons (o := _) rfl (fun K hK => ?_) AllReadyH.nil
  go_simp
  refine (HTA.out w6.drew (show FlIn w6.drew _ _ _ _ from AA.out) (by simp; omega) HSA.out).mono ?_
  rintro e w7 ⟨vy, rfl, ho, b0⟩
  have b := (Below.refl w6.heap.size w6).drew.trans b0
  have hr1 := RX.out.below b (by omega)
  have hr2 := RA.out.below b (by omega)
  refine hK.out _ _ ⟨hr1, hr2⟩ (fun hHeld => ?_)
  clear hK K hr1 hr2 b0 hHeld
  have s7 := b.size
  have AA' := Lib.hid (AA.out.same (sm b _ (by omega)))
  clear AA
  have AA := AA'
  clear AA'
  have S' := Lib.hid (S.out.same (sm b _ (by omega)))
  clear S
  have S := S'
  clear S'
  have X' := Lib.hid (X.out.same (sm b _ (by omega)))
  clear X
  have X := X'
  clear X'
  have G' := Lib.hid (G.out.same (sm b _ (by omega)))
  clear G
  have G := G'
  clear G'
  have RA := Lib.hid (RA.out.below b (by omega))
  have RX := Lib.hid (RX.out.below b (by omega))
  have BB' := Lib.hid (BB.out.trans (b.mono (by omega)))
  clear BB b
  have BB := BB'
  clear BB'
  have Y := Lib.hid ho
  clear ho
  refine wpAnyH_ready (rs := [3]) (by kernel_rfl) (by simp) ?_
  refine AllReadyH.cons (o := _) rfl (fun K hK => ?_) AllReadyH.nil
  go_simp
  refine (eqFlash_any _ _ _ w7 _ _ _ _ X.out.reads Y.out.reads (by omega) (by omega) HSA.out).mono ?_
  rintro e w8 ⟨rfl, b⟩
  have hr1 := RX.out.below b (by omega)
  have hr2 := RA.out.below b (by omega)
  refine hK.out _ _ ⟨hr1, hr2⟩ (fun hHeld => ?_)
  clear hK K hr1 hr2
  clear Y
  have s8 := b.size
  have AA' := Lib.hid (AA.out.same (sm b _ (by omega)))
  clear AA
  have AA := AA'
  clear AA'
  have S' := Lib.hid (S.out.same (sm b _ (by omega)))
  clear S
  have S := S'
  clear S'
  have X' := Lib.hid (X.out.same (sm b _ (by omega)))
  clear X
  have X := X'
  clear X'
  have G' := Lib.hid (G.out.same (sm b _ (by omega)))
  clear G
  have G := G'
  clear G'
  have RA := Lib.hid (RA.out.below b (by omega))
  have RX := Lib.hid (RX.out.below b (by omega))
  have BB' := Lib.hid (BB.out.trans (b.mono (by omega)))
  clear BB b
  have BB := BB'
  clear BB'
  refine wpAnyH_ready (rs := [4]) (by kernel_rfl) (by simp) ?_
  refine AllReadyH.cons (o := _) rfl (fun K hK => ?_) AllReadyH.nil
  go_simp
  refine hK.out _ _ ⟨RX.out, RA.out⟩ (fun hHeld => ?_)
  clear hK K
  refine wpAnyH_done (by kernel_rfl) ?_ _
  clear hHeld
  obtain ⟨q00, q01, q02, q03, q04, q05, q06, q07⟩ := RX.out.eight
  go_wp2_with fail
  refine (markFlash_any _ _ _ _ _ X.out (by omega) (by omega) HSA.out).mono ?_
  rintro e w9 ⟨rfl, _, kp⟩
  clear q00 q01 q02 q03 q04 q05 q06 q07
  have s9 := kp.size
  have AA' := Lib.hid (AA.out.same (sm kp.1 _ (by omega)))
  clear AA
  have AA := AA'
  clear AA'
  have S' := Lib.hid (S.out.same (sm kp.1 _ (by omega)))
  clear S
  have S := S'
  clear S'
  have G' := Lib.hid (G.out.same (kp.2.mono (by omega) (by omega)))
  clear G
  have G := G'
  clear G'
  have RA := Lib.hid (RA.out.below kp.1 (by omega))
  have RX : Hid (Rw _ _ _ _) := Lib.hid ((kp.2 _ (by omega) (by have := RX.out.lt; omega)).trans RX.out)
  have BB' := Lib.hid (BB.out.trans (kp.1.mono (by omega)))
  clear BB kp
  have BB := BB'
  clear BB'
  clear X
  have hnk : ¬ ((1 + markN FA.bs : Nat) : Int) < 0 := by omega
  generalize markN FA.bs = nq at *
  go_wp2_with fail
  refine (eqInts_any _ _ _ _ (G.out.reads.ints (by omega)) (S.out.reads.ints (by omega)) HLL.out).mono ?_
  rintro e w10 ⟨rfl, b⟩
  have s10 := b.size
  have AA' := Lib.hid (AA.out.same (sm b _ (by omega)))
  clear AA
  have AA := AA'
  clear AA'
  have S' := Lib.hid (S.out.same (sm b _ (by omega)))
  clear S
  have S := S'
  clear S'
  have G' := Lib.hid (G.out.same (sm b _ (by omega)))
  clear G
  have G := G'
  clear G'
  have RA := Lib.hid (RA.out.below b (by omega))
  have RX := Lib.hid (RX.out.below b (by omega))
  have BB' := Lib.hid (BB.out.trans (b.mono (by omega)))
  clear BB b
  have BB := BB'
  clear BB'
  go_wp2_with fail
  refine (markInts_any _ _ _ _ G.out.1 HLL.out).mono ?_
  rintro e w11 ⟨rfl, ho, _, b⟩
  have M := Lib.hid (show IO _ _ _ _ _ from ⟨ho, G.out.2⟩)
  clear G ho
  have s11 := b.size
  have AA' := Lib.hid (AA.out.same (sm b _ (by omega)))
  clear AA
  have AA := AA'
  clear AA'
  have S' := Lib.hid (S.out.same (sm b _ (by omega)))
  clear S
  have S := S'
  clear S'
  have RA := Lib.hid (RA.out.below b (by omega))
  have RX := Lib.hid (RX.out.below b (by omega))
  have BB' := Lib.hid (BB.out.trans (b.mono (by omega)))
  clear BB b
  have BB := BB'
  clear BB'
  go_wp2_with fail
  refine (heldIntsB_any _ _ _ (M.out.reads.ints (by omega)) HLL.out).mono ?_
  rintro e w12 ⟨rfl, b⟩
  have s12 := b.size
  have AA' := Lib.hid (AA.out.same (sm b _ (by omega)))
  clear AA
  have AA := AA'
  clear AA'
  have S' := Lib.hid (S.out.same (sm b _ (by omega)))
  clear S
  have S := S'
  clear S'
  have M' := Lib.hid (M.out.same (sm b _ (by omega)))
  clear M
  have M := M'
  clear M'
  have RA := Lib.hid (RA.out.below b (by omega))
  have RX := Lib.hid (RX.out.below b (by omega))
  have BB' := Lib.hid (BB.out.trans (b.mono (by omega)))
  clear BB b
  have BB := BB'
  clear BB'
  have hgn : ¬ (1 + (LL.length : Int)) < 0 := by omega
  have hge : ((1 + (LL.length : Int)) != (1 + (LL.length : Int))) = false := by simp
  obtain ⟨q00, q01, q02, q03, q04, q05, q06, q07⟩ := RA.out.eight
  go_wp2_with fail
  refine (HTA.out _ AA.out (by omega) HSA.out).mono ?_
  rintro e w13 ⟨vt, rfl, ho, b⟩
  clear q00 q01 q02 q03 q04 q05 q06 q07
  have s13 := b.size
  have AA' := Lib.hid (AA.out.same (sm b _ (by omega)))
  clear AA
  have AA := AA'
  clear AA'
  have S' := Lib.hid (S.out.same (sm b _ (by omega)))
  clear S
  have S := S'
  clear S'
  have M' := Lib.hid (M.out.same (sm b _ (by omega)))
  clear M
  have M := M'
  clear M'
  have RA := Lib.hid (RA.out.below b (by omega))
  have RX := Lib.hid (RX.out.below b (by omega))
  have BB' := Lib.hid (BB.out.trans (b.mono (by omega)))
  clear BB b
  have BB := BB'
  clear BB'
  obtain ⟨vt0, vt1, vt2, vt3, vt4, vt5, vt6, vt7, vt8, vt9, rfl⟩ := ho.agg8
  have T := Lib.hid ho
  clear ho
  go_wp2_with fail
  refine (HI.out _ _ _ _ T.out.reads (by omega) HLA.out).mono ?_
  rintro e w14 ⟨v, rfl, ho, b⟩
  obtain ⟨lH0, lH1, lH2, rfl⟩ := ho.sliceOf'
  have H := Lib.hid (IO.mk_ ho)
  clear ho
  have s14 := b.size
  have AA' := Lib.hid (AA.out.same (sm b _ (by omega)))
  clear AA
  have AA := AA'
  clear AA'
  have S' := Lib.hid (S.out.same (sm b _ (by omega)))
  clear S
  have S := S'
  clear S'
  have M' := Lib.hid (M.out.same (sm b _ (by omega)))
  clear M
  have M := M'
  clear M'
  have T' := Lib.hid (T.out.same (sm b _ (by omega)))
  clear T
  have T := T'
  clear T'
  have RA := Lib.hid (RA.out.below b (by omega))
  have RX := Lib.hid (RX.out.below b (by omega))
  have BB' := Lib.hid (BB.out.trans (b.mono (by omega)))
  clear BB b
  have BB := BB'
  clear BB'
  clear T
  go_wp2_with fail
  refine (eqInts_any _ _ _ _ (H.out.reads.ints (by omega)) (S.out.reads.ints (by omega)) HLL.out).mono ?_
  rintro e w15 ⟨rfl, b⟩
  have s15 := b.size
  have AA' := Lib.hid (AA.out.same (sm b _ (by omega)))
  clear AA
  have AA := AA'
  clear AA'
  have S' := Lib.hid (S.out.same (sm b _ (by omega)))
  clear S
  have S := S'
  clear S'
  have M' := Lib.hid (M.out.same (sm b _ (by omega)))
  clear M
  have M := M'
  clear M'
  have H' := Lib.hid (H.out.same (sm b _ (by omega)))
  clear H
  have H := H'
  clear H'
  have RA := Lib.hid (RA.out.below b (by omega))
  have RX := Lib.hid (RX.out.below b (by omega))
  have BB' := Lib.hid (BB.out.trans (b.mono (by omega)))
  clear BB b
  have BB := BB'
  clear BB'
  go_wp2_with fail
  refine (heldIntsB_any _ _ _ (M.out.reads.ints (by omega)) HLL.out).mono ?_
  rintro e w16 ⟨rfl, b⟩
  have s16 := b.size
  have AA' := Lib.hid (AA.out.same (sm b _ (by omega)))
  clear AA
  have AA := AA'
  clear AA'
  have S' := Lib.hid (S.out.same (sm b _ (by omega)))
  clear S
  have S := S'
  clear S'
  have M' := Lib.hid (M.out.same (sm b _ (by omega)))
  clear M
  have M := M'
  clear M'
  have H' := Lib.hid (H.out.same (sm b _ (by omega)))
  clear H
  have H := H'
  clear H'
  have RA := Lib.hid (RA.out.below b (by omega))
  have RX := Lib.hid (RX.out.below b (by omega))
  have BB' := Lib.hid (BB.out.trans (b.mono (by omega)))
  clear BB b
  have BB := BB'
  clear BB'
  go_wp2
  go_ret
  exact ⟨rfl, BB.out⟩
end Go.Proofs.Ytbdfdkhkamonpab
