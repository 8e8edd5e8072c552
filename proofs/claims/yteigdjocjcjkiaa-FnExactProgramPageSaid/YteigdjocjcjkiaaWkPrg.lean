/- The law FnExactProgramPage, walked: every call by its contract. -/
import Derived.Test.YteigdjocjcjkiaaProg
import Derived.Test.YteigdjocjcjkiaaFlSz
import Derived.Test.YteigdjocjcjkiaaFlA
import Derived.Test.YteigdjocjcjkiaaFlE
import Derived.Test.YteigdjocjcjkiaaFlK
import Derived.Test.YteigdjocjcjkiaaFlU
import Derived.Test.YteigdjocjcjkiaaFlX
namespace Go.Proofs.Yteigdjocjcjkiaa
open Go.RowKit
set_option linter.unusedVariables false
set_option maxHeartbeats 4000000 in
set_option maxRecDepth 100000 in
theorem wkPrg (vA : Value) (FA : Fl) (block page : Int) (raw : ByteArray) (w : World) (hFA : FlIn w 0 w.heap.size vA FA) (hraw : raw.size ≤ 9223372036854775807) :
    Calls Try.prog 3 #[vA, .int .i64 block, .int .i64 page, .string raw] w fun e w' => e = .returned (.bool true) ∧ Below w.heap.size w w' := by
  obtain ⟨cA0, cA1, cA2, cA3, cA4, cA5, cA6, cA7, rfl⟩ : ∃ c0 c1 c2 c3 c4 c5 c6 c7, vA = .agg #[c0, c1, c2, c3, c4, c5, c6, c7] := by
    obtain ⟨u, rfl, _⟩ := hFA; exact ⟨_, _, _, _, _, _, _, _, rfl⟩
  have AA := Lib.hid hFA
  have HZA := Lib.hid (fun (W : World) (a : FlIn W 0 w.heap.size (.agg #[cA0, cA1, cA2, cA3, cA4, cA5, cA6, cA7]) FA) (c : w.heap.size ≤ W.heap.size) => szFlash_any _ FA W w.heap.size a c)
  have HTA := Lib.hid (fun (W : World) (a : FlIn W 0 w.heap.size (.agg #[cA0, cA1, cA2, cA3, cA4, cA5, cA6, cA7]) FA) (c : w.heap.size ≤ W.heap.size) (z : FlSz FA) => toFlash_any _ FA W w.heap.size a c z)
  clear hFA
  obtain ⟨G0, cc, hG⟩ := progEnds FA block page raw
  have hcc : (cc != cc) = false := by simp
  have hGz : FlSz FA → FlSz G0 := hG.sz
  have HS := Lib.hid (fun (W : World) (u : Value) (lo hi : Nat) (a : FlIn W lo hi u FA) (c : hi ≤ W.heap.size) (l : FlLen FA) => specProg_any u block page raw FA G0 cc W lo hi a c hG l hraw)
  have HI := Lib.hid (fun (W : World) (u : Value) (lo hi : Nat) (a : FlIn W lo hi u FA) (c : hi ≤ W.heap.size) (l : FlLen FA) => implProg_any u block page raw FA G0 cc W lo hi a c hG l hraw)
  clear hG
  by_cases hbig : 1048576 < raw.size
  · have hbi : (1048576 : Int) < (raw.size : Int) := by omega
    clear HS HI AA HZA HTA hGz
    go_enter Try.func3, Try.ntmps3
    go_wp2
    go_ret
    exact ⟨rfl, (Below.refl w.heap.size w).alloc (Nat.le_refl _) _⟩
  have hsm : (raw.size : Int) ≤ 1048576 := by omega
  have BB := Lib.hid (Below.refl w.heap.size w)
  have AL := Lib.hid ((Below.refl w.heap.size w).alloc (Nat.le_refl _) (.cells #[cA0, cA1, cA2, cA3, cA4, cA5, cA6, cA7] 26))
  have hz : (w.alloc (.cells #[cA0, cA1, cA2, cA3, cA4, cA5, cA6, cA7] 26)).heap.size = w.heap.size + 1 := by simp
  have RA := Lib.hid (Rw.new w 26 #[cA0, cA1, cA2, cA3, cA4, cA5, cA6, cA7])
  go_enter Try.func3, Try.ntmps3
  go_wp2_with fail
  refine (HZA.out _ (AA.out.same (sm AL.out _ (by omega))) (by omega)).mono ?_
  rintro e w1 ⟨y, rfl, hy, b⟩
  by_cases hneg : y < 0
  · go_wp2
    go_ret
    exact ⟨rfl, BB.out.trans ((AL.out.trans (b.mono (by omega))).mono (by omega))⟩
  have hsz := hy.small hneg
  have hnA : ¬ y < 0 := hneg
  have HSA := Lib.hid hsz
  have HLA := Lib.hid hsz.lens
  clear hneg hy hsz
  have s1 := b.size
  rw [hz] at s1
  have b0 := b
  have b := AL.out.trans (b0.mono (by omega))
  have RA := Lib.hid (RA.out.below b0 (by omega))
  clear b0
  have AA' := Lib.hid (AA.out.same (sm b _ (by omega)))
  clear AA
  have AA := AA'
  clear AA'
  have BB' := Lib.hid (BB.out.trans (b.mono (by omega)))
  clear BB b
  have BB := BB'
  clear BB'
  clear AL hz
  have HSG := Lib.hid (hGz HSA.out)
  obtain ⟨q00, q01, q02, q03, q04, q05, q06, q07⟩ := RA.out.eight
  go_wp2_with fail
  refine (HTA.out _ AA.out (by omega) HSA.out).mono ?_
  rintro e w2 ⟨vt, rfl, ho, b⟩
  clear q00 q01 q02 q03 q04 q05 q06 q07
  have s2 := b.size
  have AA' := Lib.hid (AA.out.same (sm b _ (by omega)))
  clear AA
  have AA := AA'
  clear AA'
  have RA := Lib.hid (RA.out.below b (by omega))
  have BB' := Lib.hid (BB.out.trans (b.mono (by omega)))
  clear BB b
  have BB := BB'
  clear BB'
  obtain ⟨vt0, vt1, vt2, vt3, vt4, vt5, vt6, vt7, vt8, vt9, rfl⟩ := ho.agg8
  have T := Lib.hid ho
  clear ho
  go_wp2_with fail
  refine (HS.out _ _ _ _ T.out.reads (by omega) HLA.out).mono ?_
  rintro e w3 ⟨vs, rfl, ho, b⟩
  have s3 := b.size
  have AA' := Lib.hid (AA.out.same (sm b _ (by omega)))
  clear AA
  have AA := AA'
  clear AA'
  have T' := Lib.hid (T.out.same (sm b _ (by omega)))
  clear T
  have T := T'
  clear T'
  have RA := Lib.hid (RA.out.below b (by omega))
  have BB' := Lib.hid (BB.out.trans (b.mono (by omega)))
  clear BB b
  have BB := BB'
  clear BB'
  obtain ⟨vs0, vs1, vs2, vs3, vs4, vs5, vs6, vs7, vs8, vs9, rfl⟩ := ho.agg8
  have S := Lib.hid ho
  clear ho
  have AL := Lib.hid ((Below.refl w3.heap.size w3).alloc (Nat.le_refl _) (.cells #[.int .i64 vs0, .int .i64 vs1, .int .i64 vs2, .slice vs3 vs4 vs5, .int .i64 vs6, .int .i64 vs7, .bool vs8, .int .i64 vs9] 31))
  have hz : (w3.alloc (.cells #[.int .i64 vs0, .int .i64 vs1, .int .i64 vs2, .slice vs3 vs4 vs5, .int .i64 vs6, .int .i64 vs7, .bool vs8, .int .i64 vs9] 31)).heap.size = w3.heap.size + 1 := by simp
  have RS := Lib.hid (Rw.new w3 31 #[.int .i64 vs0, .int .i64 vs1, .int .i64 vs2, .slice vs3 vs4 vs5, .int .i64 vs6, .int .i64 vs7, .bool vs8, .int .i64 vs9])
  clear T
  obtain ⟨q00, q01, q02, q03, q04, q05, q06, q07⟩ := (Lib.hid (Rw.below RA.out AL.out (by omega))).out.eight
  go_wp2_with fail
  refine (HTA.out _ (AA.out.same (sm AL.out _ (by omega))) (by omega) HSA.out).mono ?_
  rintro e w4 ⟨vx, rfl, ho, b⟩
  clear q00 q01 q02 q03 q04 q05 q06 q07
  have s4 := b.size
  rw [hz] at ho
  rw [hz] at s4
  have b0 := b
  have b := AL.out.trans (b0.mono (by omega))
  have RS := Lib.hid (RS.out.below b0 (by omega))
  clear b0
  have AA' := Lib.hid (AA.out.same (sm b _ (by omega)))
  clear AA
  have AA := AA'
  clear AA'
  have S' := Lib.hid (S.out.same (sm b _ (by omega)))
  clear S
  have S := S'
  clear S'
  have RA := Lib.hid (RA.out.below b (by omega))
  have BB' := Lib.hid (BB.out.trans (b.mono (by omega)))
  clear BB b
  have BB := BB'
  clear BB'
  clear AL hz
  obtain ⟨vx0, vx1, vx2, vx3, vx4, vx5, vx6, vx7, vx8, vx9, rfl⟩ := ho.agg8
  have X := Lib.hid ho
  clear ho
  have AL := Lib.hid ((Below.refl w4.heap.size w4).alloc (Nat.le_refl _) (.cells #[.int .i64 vx0, .int .i64 vx1, .int .i64 vx2, .slice vx3 vx4 vx5, .int .i64 vx6, .int .i64 vx7, .bool vx8, .int .i64 vx9] 31))
  have hz : (w4.alloc (.cells #[.int .i64 vx0, .int .i64 vx1, .int .i64 vx2, .slice vx3 vx4 vx5, .int .i64 vx6, .int .i64 vx7, .bool vx8, .int .i64 vx9] 31)).heap.size = w4.heap.size + 1 := by simp
  have RX := Lib.hid (Rw.new w4 31 #[.int .i64 vx0, .int .i64 vx1, .int .i64 vx2, .slice vx3 vx4 vx5, .int .i64 vx6, .int .i64 vx7, .bool vx8, .int .i64 vx9])
  go_wp2_with fail
  refine (HI.out _ _ _ _ (X.out.same (sm AL.out _ (by omega))).reads (by omega) HLA.out).mono ?_
  rintro e w5 ⟨vg, rfl, ho, b⟩
  have s5 := b.size
  rw [hz] at ho
  rw [hz] at s5
  have b0 := b
  have b := AL.out.trans (b0.mono (by omega))
  have RX := Lib.hid (RX.out.below b0 (by omega))
  clear b0
  have AA' := Lib.hid (AA.out.same (sm b _ (by omega)))
  clear AA
  have AA := AA'
  clear AA'
  have S' := Lib.hid (S.out.same (sm b _ (by omega)))
  clear S
  have S := S'
  clear S'
  have X' := Lib.hid (X.out.same (sm b _ (by omega)))
  clear X
  have X := X'
  clear X'
  have RA := Lib.hid (RA.out.below b (by omega))
  have RS := Lib.hid (RS.out.below b (by omega))
  have BB' := Lib.hid (BB.out.trans (b.mono (by omega)))
  clear BB b
  have BB := BB'
  clear BB'
  clear AL hz
  obtain ⟨vg0, vg1, vg2, vg3, vg4, vg5, vg6, vg7, vg8, vg9, rfl⟩ := ho.agg8
  have G := Lib.hid ho
  clear ho
  have AL := Lib.hid ((Below.refl w5.heap.size w5).alloc (Nat.le_refl _) (.cells #[.int .i64 vg0, .int .i64 vg1, .int .i64 vg2, .slice vg3 vg4 vg5, .int .i64 vg6, .int .i64 vg7, .bool vg8, .int .i64 vg9] 31))
  have hz : (w5.alloc (.cells #[.int .i64 vg0, .int .i64 vg1, .int .i64 vg2, .slice vg3 vg4 vg5, .int .i64 vg6, .int .i64 vg7, .bool vg8, .int .i64 vg9] 31)).heap.size = w5.heap.size + 1 := by simp
  have RG := Lib.hid (Rw.new w5 31 #[.int .i64 vg0, .int .i64 vg1, .int .i64 vg2, .slice vg3 vg4 vg5, .int .i64 vg6, .int .i64 vg7, .bool vg8, .int .i64 vg9])
  obtain ⟨q10, q11, q12, q13, q14, q15, q16, q17⟩ := (Lib.hid (Rw.below RS.out AL.out (by omega))).out.eight
  go_wp2_with fail
  refine (eqFlash_any _ _ _ _ _ _ _ _ (G.out.same (sm AL.out _ (by omega))).reads (S.out.same (sm AL.out _ (by omega))).reads (by omega) (by omega) HSG.out).mono ?_
  rintro e w6 ⟨rfl, b⟩
  clear q10 q11 q12 q13 q14 q15 q16 q17
  have s6 := b.size
  rw [hz] at s6
  have b0 := b
  have b := AL.out.trans (b0.mono (by omega))
  have RG := Lib.hid (RG.out.below b0 (by omega))
  clear b0
  have AA' := Lib.hid (AA.out.same (sm b _ (by omega)))
  clear AA
  have AA := AA'
  clear AA'
  have S' := Lib.hid (S.out.same (sm b _ (by omega)))
  clear S
  have S := S'
  clear S'
  have X' := Lib.hid (X.out.same (sm b _ (by omega)))
  clear X
  have X := X'
  clear X'
  have G' := Lib.hid (G.out.same (sm b _ (by omega)))
  clear G
  have G := G'
  clear G'
  have RA := Lib.hid (RA.out.below b (by omega))
  have RS := Lib.hid (RS.out.below b (by omega))
  have RX := Lib.hid (RX.out.below b (by omega))
  have BB' := Lib.hid (BB.out.trans (b.mono (by omega)))
  clear BB b
  have BB := BB'
  clear BB'
  clear AL hz
  go_wp2_with fail
  refine wp_region_held_drew (S := fun W => Rw W _ 31 #[.int .i64 vx0, .int .i64 vx1, .int .i64 vx2, .slice vx3 vx4 vx5, .int .i64 vx6, .int .i64 vx7, .bool vx8, .int .i64 vx9] ∧ Rw W _ 26 #[cA0, cA1, cA2, cA3, cA4, cA5, cA6, cA7]) (by kernel_rfl) ⟨show Rw w6.drew _ _ _ from RX.out, show Rw w6.drew _ _ _ from RA.out⟩ (fun hHeld => ?_)
  refine wpAnyH_take (i := 0) (oi := _) (v := .agg #[.int .i64 vx0, .int .i64 vx1, .int .i64 vx2, .slice vx3 vx4 vx5, .int .i64 vx6, .int .i64 vx7, .bool vx8, .int .i64 vx9]) rfl (by kernel_rfl) (by kernel_rfl) (by kernel_rfl) (fun _ _ _ h => h) (Or.inl ⟨by rfl, fun W hSw => by
    obtain ⟨q0, q1, q2, q3, q4, q5, q6, q7⟩ := hSw.1.eight
    go_simp⟩) hHeld ?_
  refine wpAnyH_take (i := 1) (oi := _) (v := .agg #[cA0, cA1, cA2, cA3, cA4, cA5, cA6, cA7]) rfl (by kernel_rfl) (by kernel_rfl) (by kernel_rfl) (fun _ _ _ h => h) (Or.inl ⟨by rfl, fun W hSw => by
    obtain ⟨q0, q1, q2, q3, q4, q5, q6, q7⟩ := hSw.2.eight
    go_simp⟩) hHeld ?_
  refine wpAnyH_ready (rs := [2]) (by kernel_rfl) (by simp) ?_
  refine AllReadyH.cons (o := _) rfl (fun K hK => ?_) AllReadyH.nil
  go_simp
  refine (HTA.out w6.drew (show FlIn w6.drew _ _ _ _ from AA.out) (by simp; omega) HSA.out).mono ?_
  rintro e w7 ⟨vy, rfl, ho, b0⟩
  have b := (Below.refl w6.heap.size w6).drew.trans b0
  have hr1 := RX.out.below b (by omega)
  have hr2 := RA.out.below b (by omega)
  refine hK.out _ _ ⟨hr1, hr2⟩ (fun hHeld => ?_)
  clear hK K hr1 hr2 b0 hHeld
  have s7 := b.size
  have AA' := Lib.hid (AA.out.same (sm b _ (by omega)))
  clear AA
  have AA := AA'
  clear AA'
  have S' := Lib.hid (S.out.same (sm b _ (by omega)))
  clear S
  have S := S'
  clear S'
  have X' := Lib.hid (X.out.same (sm b _ (by omega)))
  clear X
  have X := X'
  clear X'
  have G' := Lib.hid (G.out.same (sm b _ (by omega)))
  clear G
  have G := G'
  clear G'
  have RA := Lib.hid (RA.out.below b (by omega))
  have RS := Lib.hid (RS.out.below b (by omega))
  have RX := Lib.hid (RX.out.below b (by omega))
  have RG := Lib.hid (RG.out.below b (by omega))
  have BB' := Lib.hid (BB.out.trans (b.mono (by omega)))
  clear BB b
  have BB := BB'
  clear BB'
  have Y := Lib.hid ho
  clear ho
  refine wpAnyH_ready (rs := [3]) (by kernel_rfl) (by simp) ?_
  refine AllReadyH.cons (o := _) rfl (fun K hK => ?_) AllReadyH.nil
  go_simp
  refine (eqFlash_any _ _ _ w7 _ _ _ _ X.out.reads Y.out.reads (by omega) (by omega) HSA.out).mono ?_
  rintro e w8 ⟨rfl, b⟩
  have hr1 := RX.out.below b (by omega)
  have hr2 := RA.out.below b (by omega)
  refine hK.out _ _ ⟨hr1, hr2⟩ (fun hHeld => ?_)
  clear hK K hr1 hr2
  clear Y
  have s8 := b.size
  have AA' := Lib.hid (AA.out.same (sm b _ (by omega)))
  clear AA
  have AA := AA'
  clear AA'
  have S' := Lib.hid (S.out.same (sm b _ (by omega)))
  clear S
  have S := S'
  clear S'
  have X' := Lib.hid (X.out.same (sm b _ (by omega)))
  clear X
  have X := X'
  clear X'
  have G' := Lib.hid (G.out.same (sm b _ (by omega)))
  clear G
  have G := G'
  clear G'
  have RA := Lib.hid (RA.out.below b (by omega))
  have RS := Lib.hid (RS.out.below b (by omega))
  have RX := Lib.hid (RX.out.below b (by omega))
  have RG := Lib.hid (RG.out.below b (by omega))
  have BB' := Lib.hid (BB.out.trans (b.mono (by omega)))
  clear BB b
  have BB := BB'
  clear BB'
  refine wpAnyH_ready (rs := [4]) (by kernel_rfl) (by simp) ?_
  refine AllReadyH.cons (o := _) rfl (fun K hK => ?_) AllReadyH.nil
  go_simp
  refine hK.out _ _ ⟨RX.out, RA.out⟩ (fun hHeld => ?_)
  clear hK K
  refine wpAnyH_done (by kernel_rfl) ?_ _
  clear hHeld
  obtain ⟨q00, q01, q02, q03, q04, q05, q06, q07⟩ := RX.out.eight
  go_wp2_with fail
  refine (markFlash_any _ _ _ _ _ X.out (by omega) (by omega) HSA.out).mono ?_
  rintro e w9 ⟨rfl, _, kp⟩
  clear q00 q01 q02 q03 q04 q05 q06 q07
  have s9 := kp.size
  have AA' := Lib.hid (AA.out.same (sm kp.1 _ (by omega)))
  clear AA
  have AA := AA'
  clear AA'
  have S' := Lib.hid (S.out.same (sm kp.1 _ (by omega)))
  clear S
  have S := S'
  clear S'
  have G' := Lib.hid (G.out.same (kp.2.mono (by omega) (by omega)))
  clear G
  have G := G'
  clear G'
  have RA := Lib.hid (RA.out.below kp.1 (by omega))
  have RS := Lib.hid (RS.out.below kp.1 (by omega))
  have RX : Hid (Rw _ _ _ _) := Lib.hid ((kp.2 _ (by omega) (by have := RX.out.lt; omega)).trans RX.out)
  have RG : Hid (Rw _ _ _ _) := Lib.hid ((kp.2 _ (by omega) (by have := RG.out.lt; omega)).trans RG.out)
  have BB' := Lib.hid (BB.out.trans (kp.1.mono (by omega)))
  clear BB kp
  have BB := BB'
  clear BB'
  clear X
  have hnk : ¬ ((1 + markN FA.bs : Nat) : Int) < 0 := by omega
  generalize markN FA.bs = nq at *
  obtain ⟨q00, q01, q02, q03, q04, q05, q06, q07⟩ := RG.out.eight
  obtain ⟨q10, q11, q12, q13, q14, q15, q16, q17⟩ := RS.out.eight
  go_wp2_with fail
  refine (eqFlash_any _ _ _ _ _ _ _ _ G.out.reads S.out.reads (by omega) (by omega) HSG.out).mono ?_
  rintro e w10 ⟨rfl, b⟩
  clear q00 q01 q02 q03 q04 q05 q06 q07 q10 q11 q12 q13 q14 q15 q16 q17
  have s10 := b.size
  have AA' := Lib.hid (AA.out.same (sm b _ (by omega)))
  clear AA
  have AA := AA'
  clear AA'
  have S' := Lib.hid (S.out.same (sm b _ (by omega)))
  clear S
  have S := S'
  clear S'
  have G' := Lib.hid (G.out.same (sm b _ (by omega)))
  clear G
  have G := G'
  clear G'
  have RA := Lib.hid (RA.out.below b (by omega))
  have RS := Lib.hid (RS.out.below b (by omega))
  have RX := Lib.hid (RX.out.below b (by omega))
  have RG := Lib.hid (RG.out.below b (by omega))
  have BB' := Lib.hid (BB.out.trans (b.mono (by omega)))
  clear BB b
  have BB := BB'
  clear BB'
  obtain ⟨q00, q01, q02, q03, q04, q05, q06, q07⟩ := RG.out.eight
  go_wp2_with fail
  refine (markFlash_any _ _ _ _ _ G.out (by omega) (by omega) HSG.out).mono ?_
  rintro e w11 ⟨rfl, ⟨GG, hgg, ho⟩, kp⟩
  clear q00 q01 q02 q03 q04 q05 q06 q07
  have M := Lib.hid ho
  have HGG := Lib.hid hgg
  clear G ho hgg
  have s11 := kp.size
  have AA' := Lib.hid (AA.out.same (sm kp.1 _ (by omega)))
  clear AA
  have AA := AA'
  clear AA'
  have S' := Lib.hid (S.out.same (sm kp.1 _ (by omega)))
  clear S
  have S := S'
  clear S'
  have RA := Lib.hid (RA.out.below kp.1 (by omega))
  have RS := Lib.hid (RS.out.below kp.1 (by omega))
  have RX := Lib.hid (RX.out.below kp.1 (by omega))
  have RG : Hid (Rw _ _ _ _) := Lib.hid ((kp.2 _ (by omega) (by have := RG.out.lt; omega)).trans RG.out)
  have BB' := Lib.hid (BB.out.trans (kp.1.mono (by omega)))
  clear BB kp
  have BB := BB'
  clear BB'
  obtain ⟨q00, q01, q02, q03, q04, q05, q06, q07⟩ := RG.out.eight
  go_wp2_with fail
  refine (heldFlash_any _ _ _ _ _ _ HGG.out M.out.reads (by omega) HSG.out).mono ?_
  rintro e w12 ⟨rfl, b⟩
  clear q00 q01 q02 q03 q04 q05 q06 q07
  have s12 := b.size
  have AA' := Lib.hid (AA.out.same (sm b _ (by omega)))
  clear AA
  have AA := AA'
  clear AA'
  have S' := Lib.hid (S.out.same (sm b _ (by omega)))
  clear S
  have S := S'
  clear S'
  have M' := Lib.hid (M.out.same (sm b _ (by omega)))
  clear M
  have M := M'
  clear M'
  have RA := Lib.hid (RA.out.below b (by omega))
  have RS := Lib.hid (RS.out.below b (by omega))
  have RX := Lib.hid (RX.out.below b (by omega))
  have RG := Lib.hid (RG.out.below b (by omega))
  have BB' := Lib.hid (BB.out.trans (b.mono (by omega)))
  clear BB b
  have BB := BB'
  clear BB'
  have hgn : ¬ ((1 + markN G0.bs : Nat) : Int) < 0 := by omega
  have hge : (((1 + markN G0.bs : Nat) : Int) != ((1 + markN G0.bs : Nat) : Int)) = false := by simp
  obtain ⟨q00, q01, q02, q03, q04, q05, q06, q07⟩ := RA.out.eight
  go_wp2_with fail
  refine (HTA.out _ AA.out (by omega) HSA.out).mono ?_
  rintro e w13 ⟨vt, rfl, ho, b⟩
  clear q00 q01 q02 q03 q04 q05 q06 q07
  have s13 := b.size
  have AA' := Lib.hid (AA.out.same (sm b _ (by omega)))
  clear AA
  have AA := AA'
  clear AA'
  have S' := Lib.hid (S.out.same (sm b _ (by omega)))
  clear S
  have S := S'
  clear S'
  have M' := Lib.hid (M.out.same (sm b _ (by omega)))
  clear M
  have M := M'
  clear M'
  have RA := Lib.hid (RA.out.below b (by omega))
  have RS := Lib.hid (RS.out.below b (by omega))
  have RX := Lib.hid (RX.out.below b (by omega))
  have RG := Lib.hid (RG.out.below b (by omega))
  have BB' := Lib.hid (BB.out.trans (b.mono (by omega)))
  clear BB b
  have BB := BB'
  clear BB'
  obtain ⟨vt0, vt1, vt2, vt3, vt4, vt5, vt6, vt7, vt8, vt9, rfl⟩ := ho.agg8
  have T := Lib.hid ho
  clear ho
  go_wp2_with fail
  refine (HI.out _ _ _ _ T.out.reads (by omega) HLA.out).mono ?_
  rintro e w14 ⟨vh, rfl, ho, b⟩
  have s14 := b.size
  have AA' := Lib.hid (AA.out.same (sm b _ (by omega)))
  clear AA
  have AA := AA'
  clear AA'
  have S' := Lib.hid (S.out.same (sm b _ (by omega)))
  clear S
  have S := S'
  clear S'
  have M' := Lib.hid (M.out.same (sm b _ (by omega)))
  clear M
  have M := M'
  clear M'
  have T' := Lib.hid (T.out.same (sm b _ (by omega)))
  clear T
  have T := T'
  clear T'
  have RA := Lib.hid (RA.out.below b (by omega))
  have RS := Lib.hid (RS.out.below b (by omega))
  have RX := Lib.hid (RX.out.below b (by omega))
  have RG := Lib.hid (RG.out.below b (by omega))
  have BB' := Lib.hid (BB.out.trans (b.mono (by omega)))
  clear BB b
  have BB := BB'
  clear BB'
  obtain ⟨vh0, vh1, vh2, vh3, vh4, vh5, vh6, vh7, vh8, vh9, rfl⟩ := ho.agg8
  have H := Lib.hid ho
  clear ho
  have AL := Lib.hid ((Below.refl w14.heap.size w14).alloc (Nat.le_refl _) (.cells #[.int .i64 vh0, .int .i64 vh1, .int .i64 vh2, .slice vh3 vh4 vh5, .int .i64 vh6, .int .i64 vh7, .bool vh8, .int .i64 vh9] 31))
  have hz : (w14.alloc (.cells #[.int .i64 vh0, .int .i64 vh1, .int .i64 vh2, .slice vh3 vh4 vh5, .int .i64 vh6, .int .i64 vh7, .bool vh8, .int .i64 vh9] 31)).heap.size = w14.heap.size + 1 := by simp
  have RH := Lib.hid (Rw.new w14 31 #[.int .i64 vh0, .int .i64 vh1, .int .i64 vh2, .slice vh3 vh4 vh5, .int .i64 vh6, .int .i64 vh7, .bool vh8, .int .i64 vh9])
  clear T
  obtain ⟨q10, q11, q12, q13, q14, q15, q16, q17⟩ := (Lib.hid (Rw.below RS.out AL.out (by omega))).out.eight
  go_wp2_with fail
  refine (eqFlash_any _ _ _ _ _ _ _ _ (H.out.same (sm AL.out _ (by omega))).reads (S.out.same (sm AL.out _ (by omega))).reads (by omega) (by omega) HSG.out).mono ?_
  rintro e w15 ⟨rfl, b⟩
  clear q10 q11 q12 q13 q14 q15 q16 q17
  have s15 := b.size
  rw [hz] at s15
  have b0 := b
  have b := AL.out.trans (b0.mono (by omega))
  have RH := Lib.hid (RH.out.below b0 (by omega))
  clear b0
  have AA' := Lib.hid (AA.out.same (sm b _ (by omega)))
  clear AA
  have AA := AA'
  clear AA'
  have S' := Lib.hid (S.out.same (sm b _ (by omega)))
  clear S
  have S := S'
  clear S'
  have M' := Lib.hid (M.out.same (sm b _ (by omega)))
  clear M
  have M := M'
  clear M'
  have H' := Lib.hid (H.out.same (sm b _ (by omega)))
  clear H
  have H := H'
  clear H'
  have RA := Lib.hid (RA.out.below b (by omega))
  have RS := Lib.hid (RS.out.below b (by omega))
  have RX := Lib.hid (RX.out.below b (by omega))
  have RG := Lib.hid (RG.out.below b (by omega))
  have BB' := Lib.hid (BB.out.trans (b.mono (by omega)))
  clear BB b
  have BB := BB'
  clear BB'
  clear AL hz
  obtain ⟨q00, q01, q02, q03, q04, q05, q06, q07⟩ := RG.out.eight
  go_wp2_with fail
  refine (heldFlash_any _ _ _ _ _ _ HGG.out M.out.reads (by omega) HSG.out).mono ?_
  rintro e w16 ⟨rfl, b⟩
  clear q00 q01 q02 q03 q04 q05 q06 q07
  have s16 := b.size
  have AA' := Lib.hid (AA.out.same (sm b _ (by omega)))
  clear AA
  have AA := AA'
  clear AA'
  have S' := Lib.hid (S.out.same (sm b _ (by omega)))
  clear S
  have S := S'
  clear S'
  have M' := Lib.hid (M.out.same (sm b _ (by omega)))
  clear M
  have M := M'
  clear M'
  have H' := Lib.hid (H.out.same (sm b _ (by omega)))
  clear H
  have H := H'
  clear H'
  have RA := Lib.hid (RA.out.below b (by omega))
  have RS := Lib.hid (RS.out.below b (by omega))
  have RX := Lib.hid (RX.out.below b (by omega))
  have RG := Lib.hid (RG.out.below b (by omega))
  have RH := Lib.hid (RH.out.below b (by omega))
  have BB' := Lib.hid (BB.out.trans (b.mono (by omega)))
  clear BB b
  have BB := BB'
  clear BB'
  go_wp2
  go_ret
  exact ⟨rfl, BB.out⟩
end Go.Proofs.Yteigdjocjcjkiaa
