/- The law FnExactNewFlash, walked: every call by its contract. -/
import Derived.Test.YtbehoeabnomlaaaProg
import Derived.Test.YtbehoeabnomlaaaFlSz
import Derived.Test.YtbehoeabnomlaaaFlA
import Derived.Test.YtbehoeabnomlaaaFlE
import Derived.Test.YtbehoeabnomlaaaFlK
import Derived.Test.YtbehoeabnomlaaaNwG
namespace Go.Proofs.Ytbehoeabnomlaaa
open Go.RowKit
set_option linter.unusedVariables false
set_option maxHeartbeats 4000000 in
set_option maxRecDepth 100000 in
theorem wkNew (d b p : Int) (w : World)  :
    Calls Try.prog 11 #[.agg #[.int .i64 d, .int .i64 b, .int .i64 p]] w fun e w' => e = .returned (.bool true) ∧ Below w.heap.size w w' := by
  obtain ⟨G0, cc, hG⟩ := newEnds d b p
  have hcc : (cc != cc) = false := by simp
  have HSG : Hid (FlSz G0) := Lib.hid (by rcases hG with h | h; exact (by unfold FlSz; decide); exact newFl_sz h)
  have HS := Lib.hid (fun (W : World) => specNew_any d b p G0 cc W hG)
  have HI := Lib.hid (fun (W : World) => implNew_any d b p G0 cc W hG)
  have HTG := Lib.hid (fun (W : World) => toGeometry_any d b p W)
  clear hG
  have BB := Lib.hid (Below.refl w.heap.size w)
  have AL := Lib.hid ((Below.refl w.heap.size w).alloc (Nat.le_refl _) (.cells #[.int .i64 d, .int .i64 b, .int .i64 p] 45))
  have hz : (w.alloc (.cells #[.int .i64 d, .int .i64 b, .int .i64 p] 45)).heap.size = w.heap.size + 1 := by simp
  have RA := Lib.hid (Rw.new w 45 #[.int .i64 d, .int .i64 b, .int .i64 p])
  go_enter Try.func11, Try.ntmps11
  go_wp2_with fail
  refine (HTG.out _).mono ?_
  rintro e w1 ⟨rfl, b⟩
  have s1 := b.size
  rw [hz] at s1
  have b0 := b
  have b := AL.out.trans (b0.mono (by omega))
  have RA := Lib.hid (RA.out.below b0 (by omega))
  clear b0
  have BB' := Lib.hid (BB.out.trans (b.mono (by omega)))
  clear BB b
  have BB := BB'
  clear BB'
  clear AL hz
  go_wp2_with fail
  refine (HS.out _).mono ?_
  rintro e w2 ⟨vs, rfl, ho, b⟩
  have s2 := b.size
  have RA := Lib.hid (RA.out.below b (by omega))
  have BB' := Lib.hid (BB.out.trans (b.mono (by omega)))
  clear BB b
  have BB := BB'
  clear BB'
  obtain ⟨vs0, vs1, vs2, vs3, vs4, vs5, vs6, vs7, vs8, vs9, rfl⟩ := ho.agg8
  have S := Lib.hid ho
  clear ho
  have AL := Lib.hid ((Below.refl w2.heap.size w2).alloc (Nat.le_refl _) (.cells #[.int .i64 vs0, .int .i64 vs1, .int .i64 vs2, .slice vs3 vs4 vs5, .int .i64 vs6, .int .i64 vs7, .bool vs8, .int .i64 vs9] 54))
  have hz : (w2.alloc (.cells #[.int .i64 vs0, .int .i64 vs1, .int .i64 vs2, .slice vs3 vs4 vs5, .int .i64 vs6, .int .i64 vs7, .bool vs8, .int .i64 vs9] 54)).heap.size = w2.heap.size + 1 := by simp
  have RS := Lib.hid (Rw.new w2 54 #[.int .i64 vs0, .int .i64 vs1, .int .i64 vs2, .slice vs3 vs4 vs5, .int .i64 vs6, .int .i64 vs7, .bool vs8, .int .i64 vs9])
  obtain ⟨q00, q01, q02⟩ := (Lib.hid (Rw.below RA.out AL.out (by omega))).out.three
  go_wp2_with fail
  refine (HTG.out _).mono ?_
  rintro e w3 ⟨rfl, b⟩
  clear q00 q01 q02
  have s3 := b.size
  rw [hz] at s3
  have b0 := b
  have b := AL.out.trans (b0.mono (by omega))
  have RS := Lib.hid (RS.out.below b0 (by omega))
  clear b0
  have S' := Lib.hid (S.out.same (sm b _ (by omega)))
  clear S
  have S := S'
  clear S'
  have RA := Lib.hid (RA.out.below b (by omega))
  have BB' := Lib.hid (BB.out.trans (b.mono (by omega)))
  clear BB b
  have BB := BB'
  clear BB'
  clear AL hz
  go_wp2_with fail
  refine (HI.out _).mono ?_
  rintro e w4 ⟨vg, rfl, ho, b⟩
  have s4 := b.size
  have S' := Lib.hid (S.out.same (sm b _ (by omega)))
  clear S
  have S := S'
  clear S'
  have RA := Lib.hid (RA.out.below b (by omega))
  have RS := Lib.hid (RS.out.below b (by omega))
  have BB' := Lib.hid (BB.out.trans (b.mono (by omega)))
  clear BB b
  have BB := BB'
  clear BB'
  obtain ⟨vg0, vg1, vg2, vg3, vg4, vg5, vg6, vg7, vg8, vg9, rfl⟩ := ho.agg8
  have G := Lib.hid ho
  clear ho
  have AL := Lib.hid ((Below.refl w4.heap.size w4).alloc (Nat.le_refl _) (.cells #[.int .i64 vg0, .int .i64 vg1, .int .i64 vg2, .slice vg3 vg4 vg5, .int .i64 vg6, .int .i64 vg7, .bool vg8, .int .i64 vg9] 54))
  have hz : (w4.alloc (.cells #[.int .i64 vg0, .int .i64 vg1, .int .i64 vg2, .slice vg3 vg4 vg5, .int .i64 vg6, .int .i64 vg7, .bool vg8, .int .i64 vg9] 54)).heap.size = w4.heap.size + 1 := by simp
  have RG := Lib.hid (Rw.new w4 54 #[.int .i64 vg0, .int .i64 vg1, .int .i64 vg2, .slice vg3 vg4 vg5, .int .i64 vg6, .int .i64 vg7, .bool vg8, .int .i64 vg9])
  obtain ⟨q10, q11, q12, q13, q14, q15, q16, q17⟩ := (Lib.hid (Rw.below RS.out AL.out (by omega))).out.eight
  go_wp2_with fail
  refine (eqFlash_any _ _ _ _ _ _ _ _ (G.out.same (sm AL.out _ (by omega))).reads (S.out.same (sm AL.out _ (by omega))).reads (by omega) (by omega) HSG.out).mono ?_
  rintro e w5 ⟨rfl, b⟩
  clear q10 q11 q12 q13 q14 q15 q16 q17
  have s5 := b.size
  rw [hz] at s5
  have b0 := b
  have b := AL.out.trans (b0.mono (by omega))
  have RG := Lib.hid (RG.out.below b0 (by omega))
  clear b0
  have S' := Lib.hid (S.out.same (sm b _ (by omega)))
  clear S
  have S := S'
  clear S'
  have G' := Lib.hid (G.out.same (sm b _ (by omega)))
  clear G
  have G := G'
  clear G'
  have RA := Lib.hid (RA.out.below b (by omega))
  have RS := Lib.hid (RS.out.below b (by omega))
  have BB' := Lib.hid (BB.out.trans (b.mono (by omega)))
  clear BB b
  have BB := BB'
  clear BB'
  clear AL hz
  obtain ⟨q00, q01, q02, q03, q04, q05, q06, q07⟩ := RG.out.eight
  go_wp2_with fail
  refine (markFlash_any _ _ _ _ _ G.out (by omega) (by omega) HSG.out).mono ?_
  rintro e w6 ⟨rfl, ⟨GG, hgg, ho⟩, kp⟩
  clear q00 q01 q02 q03 q04 q05 q06 q07
  have M := Lib.hid ho
  have HGG := Lib.hid hgg
  clear G ho hgg
  have s6 := kp.size
  have S' := Lib.hid (S.out.same (sm kp.1 _ (by omega)))
  clear S
  have S := S'
  clear S'
  have RA := Lib.hid (RA.out.below kp.1 (by omega))
  have RS := Lib.hid (RS.out.below kp.1 (by omega))
  have RG : Hid (Rw _ _ _ _) := Lib.hid ((kp.2 _ (by omega) (by have := RG.out.lt; omega)).trans RG.out)
  have BB' := Lib.hid (BB.out.trans (kp.1.mono (by omega)))
  clear BB kp
  have BB := BB'
  clear BB'
  obtain ⟨q00, q01, q02, q03, q04, q05, q06, q07⟩ := RG.out.eight
  go_wp2_with fail
  refine (heldFlash_any _ _ _ _ _ _ HGG.out M.out.reads (by omega) HSG.out).mono ?_
  rintro e w7 ⟨rfl, b⟩
  clear q00 q01 q02 q03 q04 q05 q06 q07
  have s7 := b.size
  have S' := Lib.hid (S.out.same (sm b _ (by omega)))
  clear S
  have S := S'
  clear S'
  have M' := Lib.hid (M.out.same (sm b _ (by omega)))
  clear M
  have M := M'
  clear M'
  have RA := Lib.hid (RA.out.below b (by omega))
  have RS := Lib.hid (RS.out.below b (by omega))
  have RG := Lib.hid (RG.out.below b (by omega))
  have BB' := Lib.hid (BB.out.trans (b.mono (by omega)))
  clear BB b
  have BB := BB'
  clear BB'
  have hgn : ¬ ((1 + markN G0.bs : Nat) : Int) < 0 := by omega
  have hge : (((1 + markN G0.bs : Nat) : Int) != ((1 + markN G0.bs : Nat) : Int)) = false := by simp
  obtain ⟨q00, q01, q02⟩ := RA.out.three
  go_wp2_with fail
  refine (HTG.out _).mono ?_
  rintro e w8 ⟨rfl, b⟩
  clear q00 q01 q02
  have s8 := b.size
  have S' := Lib.hid (S.out.same (sm b _ (by omega)))
  clear S
  have S := S'
  clear S'
  have M' := Lib.hid (M.out.same (sm b _ (by omega)))
  clear M
  have M := M'
  clear M'
  have RA := Lib.hid (RA.out.below b (by omega))
  have RS := Lib.hid (RS.out.below b (by omega))
  have RG := Lib.hid (RG.out.below b (by omega))
  have BB' := Lib.hid (BB.out.trans (b.mono (by omega)))
  clear BB b
  have BB := BB'
  clear BB'
  go_wp2_with fail
  refine (HI.out _).mono ?_
  rintro e w9 ⟨vh, rfl, ho, b⟩
  have s9 := b.size
  have S' := Lib.hid (S.out.same (sm b _ (by omega)))
  clear S
  have S := S'
  clear S'
  have M' := Lib.hid (M.out.same (sm b _ (by omega)))
  clear M
  have M := M'
  clear M'
  have RA := Lib.hid (RA.out.below b (by omega))
  have RS := Lib.hid (RS.out.below b (by omega))
  have RG := Lib.hid (RG.out.below b (by omega))
  have BB' := Lib.hid (BB.out.trans (b.mono (by omega)))
  clear BB b
  have BB := BB'
  clear BB'
  obtain ⟨vh0, vh1, vh2, vh3, vh4, vh5, vh6, vh7, vh8, vh9, rfl⟩ := ho.agg8
  have H := Lib.hid ho
  clear ho
  have AL := Lib.hid ((Below.refl w9.heap.size w9).alloc (Nat.le_refl _) (.cells #[.int .i64 vh0, .int .i64 vh1, .int .i64 vh2, .slice vh3 vh4 vh5, .int .i64 vh6, .int .i64 vh7, .bool vh8, .int .i64 vh9] 54))
  have hz : (w9.alloc (.cells #[.int .i64 vh0, .int .i64 vh1, .int .i64 vh2, .slice vh3 vh4 vh5, .int .i64 vh6, .int .i64 vh7, .bool vh8, .int .i64 vh9] 54)).heap.size = w9.heap.size + 1 := by simp
  have RH := Lib.hid (Rw.new w9 54 #[.int .i64 vh0, .int .i64 vh1, .int .i64 vh2, .slice vh3 vh4 vh5, .int .i64 vh6, .int .i64 vh7, .bool vh8, .int .i64 vh9])
  obtain ⟨q10, q11, q12, q13, q14, q15, q16, q17⟩ := (Lib.hid (Rw.below RS.out AL.out (by omega))).out.eight
  go_wp2_with fail
  refine (eqFlash_any _ _ _ _ _ _ _ _ (H.out.same (sm AL.out _ (by omega))).reads (S.out.same (sm AL.out _ (by omega))).reads (by omega) (by omega) HSG.out).mono ?_
  rintro e w10 ⟨rfl, b⟩
  clear q10 q11 q12 q13 q14 q15 q16 q17
  have s10 := b.size
  rw [hz] at s10
  have b0 := b
  have b := AL.out.trans (b0.mono (by omega))
  have RH := Lib.hid (RH.out.below b0 (by omega))
  clear b0
  have S' := Lib.hid (S.out.same (sm b _ (by omega)))
  clear S
  have S := S'
  clear S'
  have M' := Lib.hid (M.out.same (sm b _ (by omega)))
  clear M
  have M := M'
  clear M'
  have H' := Lib.hid (H.out.same (sm b _ (by omega)))
  clear H
  have H := H'
  clear H'
  have RA := Lib.hid (RA.out.below b (by omega))
  have RS := Lib.hid (RS.out.below b (by omega))
  have RG := Lib.hid (RG.out.below b (by omega))
  have BB' := Lib.hid (BB.out.trans (b.mono (by omega)))
  clear BB b
  have BB := BB'
  clear BB'
  clear AL hz
  obtain ⟨q00, q01, q02, q03, q04, q05, q06, q07⟩ := RG.out.eight
  go_wp2_with fail
  refine (heldFlash_any _ _ _ _ _ _ HGG.out M.out.reads (by omega) HSG.out).mono ?_
  rintro e w11 ⟨rfl, b⟩
  clear q00 q01 q02 q03 q04 q05 q06 q07
  have s11 := b.size
  have S' := Lib.hid (S.out.same (sm b _ (by omega)))
  clear S
  have S := S'
  clear S'
  have M' := Lib.hid (M.out.same (sm b _ (by omega)))
  clear M
  have M := M'
  clear M'
  have H' := Lib.hid (H.out.same (sm b _ (by omega)))
  clear H
  have H := H'
  clear H'
  have RA := Lib.hid (RA.out.below b (by omega))
  have RS := Lib.hid (RS.out.below b (by omega))
  have RG := Lib.hid (RG.out.below b (by omega))
  have RH := Lib.hid (RH.out.below b (by omega))
  have BB' := Lib.hid (BB.out.trans (b.mono (by omega)))
  clear BB b
  have BB := BB'
  clear BB'
  go_wp2
  go_ret
  exact ⟨rfl, BB.out⟩
end Go.Proofs.Ytbehoeabnomlaaa
