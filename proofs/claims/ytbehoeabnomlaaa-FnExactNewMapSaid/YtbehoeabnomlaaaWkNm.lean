/- The law FnExactNewMap, walked: every call by its contract. -/
import Derived.Test.YtbehoeabnomlaaaProg
import Derived.Test.YtbehoeabnomlaaaPmX
namespace Go.Proofs.Ytbehoeabnomlaaa
open Go.RowKit
set_option linter.unusedVariables false
theorem newIs_sz {l b p : Int} {M : Pm} {c : Int} (h : NewIs l b p M c) : PmSz M := by
  rcases h with ⟨h, rfl, _⟩ | ⟨_, rfl, _⟩
  · obtain ⟨⟨_, h1⟩, _⟩ := h
    unfold PmSz newPm
    simp
    omega
  · unfold PmSz Pm.zero
    simp
theorem PmOwn.cells {w : World} {lo hi : Nat} {v : Value} {M : Pm} (h : PmOwn w lo hi v M) : ∃ c0 c1 c2 c3, v = .agg #[c0, c1, c2, c3] := by
  obtain ⟨a, b, rfl, _⟩ := h; exact ⟨_, _, _, _, rfl⟩
set_option maxHeartbeats 4000000 in
set_option maxRecDepth 100000 in
theorem wkNm (l b p : Int) (w : World) : Calls Try.prog 4 #[.int .i64 l, .int .i64 b, .int .i64 p] w fun e w' => e = .returned (.bool true) ∧ Below w.heap.size w w' := by
  obtain ⟨M, cc, hM⟩ := newIs l b p
  have HSG := Lib.hid (newIs_sz hM)
  have HS := Lib.hid (fun (W : World) => specNew_any l b p M cc W hM)
  have HI := Lib.hid (fun (W : World) => implNew_any l b p M cc W hM)
  have hcc : (cc != cc) = false := by simp
  clear hM
  go_enter Try.func4, Try.ntmps4
  go_wp2_with fail
  refine (HS.out _).mono ?_
  rintro e w1 ⟨vs, rfl, hs, b1⟩
  obtain ⟨s0, s1, s2, s3, s4, s5, s6, s7, rfl⟩ := hs.agg4
  have RS := Lib.hid (Rw.new w1 28 #[.int .i64 s0, .int .i64 s1, .slice s2 s3 s4, .slice s5 s6 s7])
  have SI := Lib.hid (hs.reads.below ((Below.refl w1.heap.size w1).alloc (Nat.le_refl _) (.cells #[.int .i64 s0, .int .i64 s1, .slice s2 s3 s4, .slice s5 s6 s7] 28)) (Nat.le_refl _))
  have BB := Lib.hid (b1.alloc b1.size (.cells #[.int .i64 s0, .int .i64 s1, .slice s2 s3 s4, .slice s5 s6 s7] 28))
  have hz1 : (w1.alloc (.cells #[.int .i64 s0, .int .i64 s1, .slice s2 s3 s4, .slice s5 s6 s7] 28)).heap.size = w1.heap.size + 1 := by simp
  have HZ1 := Lib.hid hz1
  clear hs b1 hz1
  go_wp2_with fail
  obtain ⟨X1, hX1⟩ : ∃ x, x = w1.alloc (.cells #[.int .i64 s0, .int .i64 s1, .slice s2 s3 s4, .slice s5 s6 s7] 28) := ⟨_, rfl⟩
  obtain ⟨z1, hzz⟩ : ∃ z, z = w1.heap.size := ⟨_, rfl⟩
  rw [← hX1] at RS SI BB HZ1 ⊢
  rw [← hzz] at RS SI HZ1 ⊢
  clear hX1 hzz
  have HZ0 := Lib.hid BB.out.size
  refine (HI.out _).mono ?_
  rintro e w2 ⟨vg, rfl, hg, b2⟩
  obtain ⟨g0, g1, g2, g3, g4, g5, g6, g7, rfl⟩ := hg.agg4
  have hsz2 := b2.size
  have RS2 := Lib.hid ((RS.out.below b2 RS.out.lt).alloc (.cells #[.int .i64 g0, .int .i64 g1, .slice g2 g3 g4, .slice g5 g6 g7] 28))
  have SI2 := Lib.hid ((SI.out.below b2 (by rw [HZ1.out]; omega)).below ((Below.refl w2.heap.size w2).alloc (Nat.le_refl _) (.cells #[.int .i64 g0, .int .i64 g1, .slice g2 g3 g4, .slice g5 g6 g7] 28)) (by rw [HZ1.out] at hsz2; omega))
  have GO := Lib.hid (hg.same (sm ((Below.refl w2.heap.size w2).alloc (Nat.le_refl _) (.cells #[.int .i64 g0, .int .i64 g1, .slice g2 g3 g4, .slice g5 g6 g7] 28)) _ (Nat.le_refl _)))
  have RG := Lib.hid (Rw.new w2 28 #[.int .i64 g0, .int .i64 g1, .slice g2 g3 g4, .slice g5 g6 g7])
  have B2 := BB.out.trans (b2.mono BB.out.size)
  have BB2 := Lib.hid (B2.alloc B2.size (.cells #[.int .i64 g0, .int .i64 g1, .slice g2 g3 g4, .slice g5 g6 g7] 28))
  have HZ2 := Lib.hid (show (w2.alloc (.cells #[.int .i64 g0, .int .i64 g1, .slice g2 g3 g4, .slice g5 g6 g7] 28)).heap.size = w2.heap.size + 1 by simp)
  have HZ3 := Lib.hid (show X1.heap.size ≤ w2.heap.size from hsz2)
  obtain ⟨c0, c1, c2, c3⟩ := RS2.out.four
  obtain ⟨d0, d1, d2, d3⟩ := RG.out.four
  clear RS SI BB B2 hsz2 hg b2
  go_wp2_with fail
  clear c0 c1 c2 c3 d0 d1 d2 d3
  obtain ⟨X2, hX2⟩ : ∃ x, x = w2.alloc (.cells #[.int .i64 g0, .int .i64 g1, .slice g2 g3 g4, .slice g5 g6 g7] 28) := ⟨_, rfl⟩
  obtain ⟨z2, hzz⟩ : ∃ z, z = w2.heap.size := ⟨_, rfl⟩
  rw [← hX2] at RS2 SI2 GO RG BB2 HZ2 ⊢
  rw [← hzz] at GO RG HZ2 HZ3 ⊢
  clear hX2 hzz
  refine (eqPm_any _ _ M _ z2 z1 GO.out.reads SI2.out (by rw [HZ2.out]; omega) (by have := HZ1.out; have := HZ3.out; rw [HZ2.out]; omega) HSG.out).mono ?_
  rintro e w3 ⟨rfl, b3⟩
  have RS3 := Lib.hid (RS2.out.below b3 RS2.out.lt)
  have RG3 := Lib.hid (RG.out.below b3 RG.out.lt)
  have SI3 := Lib.hid (SI2.out.below b3 (by have := HZ1.out; have := HZ3.out; rw [HZ2.out]; omega))
  have GO3 := Lib.hid (GO.out.same (sm b3 _ (by rw [HZ2.out]; omega)))
  have BB3 := Lib.hid (BB2.out.trans (b3.mono BB2.out.size))
  have HZ4 := Lib.hid (show z2 + 1 ≤ w3.heap.size by have := b3.size; rw [HZ2.out] at this; omega)
  clear RS2 RG SI2 GO BB2 HZ2 b3
  obtain ⟨d0, d1, d2, d3⟩ := RG3.out.four
  go_wp2_with fail
  refine (markPm_any _ M w3 _ _ GO3.out HZ3.out (by have := HZ4.out; omega) HSG.out).mono ?_
  rintro e w4 ⟨rfl, hmk, kp⟩
  have RS4 := Lib.hid (RS3.out.below kp.1 (by rw [HZ1.out]; omega))
  have RG4 := Lib.hid (show Rw w4 z2 28 #[.int .i64 g0, .int .i64 g1, .slice g2 g3 g4, .slice g5 g6 g7] from (kp.2 z2 (Nat.le_refl _) (by have := HZ4.out; omega)).trans RG3.out)
  have SI4 := Lib.hid (SI3.out.below kp.1 (by rw [HZ1.out]; omega))
  have MI4 := Lib.hid hmk
  have BB4 := Lib.hid (BB3.out.trans (kp.1.mono HZ0.out))
  have HZ5 := Lib.hid (show z2 + 1 ≤ w4.heap.size by have := kp.size; have := HZ4.out; omega)
  have HLO := Lib.hid (show z1 ≤ z2 by have := HZ1.out; have := HZ3.out; omega)
  have HH := Lib.hid (fun (W : World) (h : PmIn W z2 (.agg #[.int .i64 g0, .int .i64 g1, .slice g2 g3 g4, .slice g5 g6 g7]) (markM M)) (hh : z2 ≤ W.heap.size) => heldPm_any _ M W z2 h hh HSG.out)
  obtain ⟨K, hK⟩ : ∃ K : Int, K = ((1 + M.mp.length + M.tr.length : Nat) : Int) := ⟨_, rfl⟩
  rw [← hK] at HH ⊢
  have hgn : ¬ K < 0 := by omega
  have hge : (K != K) = false := by simp
  clear RS3 RG3 SI3 GO3 BB3 d0 d1 d2 d3 hmk kp HZ4 hK
  obtain ⟨d0, d1, d2, d3⟩ := RG4.out.four
  go_wp2_with fail
  refine (HH.out _ MI4.out.reads (by have := HZ5.out; omega)).mono ?_
  rintro e w5 ⟨rfl, b5⟩
  have RS5 := Lib.hid (RS4.out.below b5 RS4.out.lt)
  have RG5 := Lib.hid (RG4.out.below b5 RG4.out.lt)
  have SI5 := Lib.hid (SI4.out.below b5 (by have := HZ5.out; have := HLO.out; omega))
  have MI5 := Lib.hid (MI4.out.reads.below b5 (by have := HZ5.out; omega))
  have BB5 := Lib.hid (BB4.out.trans (b5.mono BB4.out.size))
  have HZ6 := Lib.hid (show z2 + 1 ≤ w5.heap.size by have := b5.size; have := HZ5.out; omega)
  clear RS4 RG4 SI4 MI4 BB4 d0 d1 d2 d3 b5 HZ5
  go_wp2_with fail
  refine (HI.out _).mono ?_
  rintro e w6 ⟨vh, rfl, hh, b6⟩
  obtain ⟨h0, h1, h2, h3, h4, h5, h6, h7, rfl⟩ := hh.agg4
  have AL := Lib.hid ((Below.refl w6.heap.size w6).alloc (Nat.le_refl _) (.cells #[.int .i64 h0, .int .i64 h1, .slice h2 h3 h4, .slice h5 h6 h7] 28))
  have HZ7 := Lib.hid (show z2 + 1 ≤ w6.heap.size by have := b6.size; have := HZ6.out; omega)
  have RS6 := Lib.hid ((RS5.out.below b6 RS5.out.lt).alloc (.cells #[.int .i64 h0, .int .i64 h1, .slice h2 h3 h4, .slice h5 h6 h7] 28))
  have RG6 := Lib.hid ((RG5.out.below b6 RG5.out.lt).alloc (.cells #[.int .i64 h0, .int .i64 h1, .slice h2 h3 h4, .slice h5 h6 h7] 28))
  have SI6 := Lib.hid ((SI5.out.below b6 (by have := HZ6.out; have := HLO.out; omega)).below AL.out (by have := HZ7.out; have := HLO.out; omega))
  have MI6 := Lib.hid ((MI5.out.below b6 (by have := HZ6.out; omega)).below AL.out (by have := HZ7.out; omega))
  have HI6 := Lib.hid (hh.reads.below AL.out (Nat.le_refl _))
  have BB6 := Lib.hid ((BB5.out.trans (b6.mono BB5.out.size)).trans (AL.out.mono (BB5.out.trans (b6.mono BB5.out.size)).size))
  have RH6 := Lib.hid (Rw.new w6 28 #[.int .i64 h0, .int .i64 h1, .slice h2 h3 h4, .slice h5 h6 h7])
  have HZ8 := Lib.hid (show (w6.alloc (.cells #[.int .i64 h0, .int .i64 h1, .slice h2 h3 h4, .slice h5 h6 h7] 28)).heap.size = w6.heap.size + 1 by simp)
  obtain ⟨c0, c1, c2, c3⟩ := RS6.out.four
  obtain ⟨d0, d1, d2, d3⟩ := RH6.out.four
  clear RS5 RG5 SI5 MI5 BB5 hh b6 HZ6 AL
  go_wp2_with fail
  refine (eqPm_any _ _ M _ w6.heap.size z1 HI6.out SI6.out (by rw [HZ8.out]; omega) (by have := HZ7.out; have := HLO.out; rw [HZ8.out]; omega) HSG.out).mono ?_
  rintro e w7 ⟨rfl, b7⟩
  have RG7 := Lib.hid (RG6.out.below b7 RG6.out.lt)
  have MI7 := Lib.hid (MI6.out.below b7 (by have := HZ7.out; rw [HZ8.out]; omega))
  have BB7 := Lib.hid (BB6.out.trans (b7.mono BB6.out.size))
  have HZ9 := Lib.hid (show z2 ≤ w7.heap.size by have q := b7.size; rw [HZ8.out] at q; have := HZ7.out; omega)
  clear RS6 RG6 SI6 MI6 HI6 BB6 RH6 c0 c1 c2 c3 d0 d1 d2 d3 b7 HZ8
  obtain ⟨d0, d1, d2, d3⟩ := RG7.out.four
  go_wp2_with fail
  refine (HH.out _ MI7.out HZ9.out).mono ?_
  rintro e w8 ⟨rfl, b8⟩
  have BB8 := Lib.hid (BB7.out.trans (b8.mono BB7.out.size))
  clear RG7 MI7 BB7 b8 d0 d1 d2 d3
  go_wp2
  go_ret
  exact ⟨rfl, BB8.out⟩
end Go.Proofs.Ytbehoeabnomlaaa
