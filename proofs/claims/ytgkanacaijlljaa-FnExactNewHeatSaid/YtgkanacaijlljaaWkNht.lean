/- The law FnExactNewHeat, walked: every call by its contract. -/
import Derived.Test.YtgkanacaijlljaaProg
import Derived.Test.YtgkanacaijlljaaHtM
import Derived.Test.YtgkanacaijlljaaHtK
import Derived.Test.YtgkanacaijlljaaHtX
namespace Go.Proofs.Ytgkanacaijlljaa
open Go.RowKit
set_option linter.unusedVariables false
set_option maxHeartbeats 4000000 in
set_option maxRecDepth 100000 in
theorem wkNht (l : Int) (w : World)  :
    Calls Try.prog 5 #[.int .i64 l] w fun e w' => e = .returned (.bool true) ∧ Below w.heap.size w w' := by
  obtain ⟨G0, cc, hG⟩ := newHtIs l
  have hcc : (cc != cc) = false := by simp
  have HSG := Lib.hid (newHtIs_sz hG)
  have HS := Lib.hid (fun (W : World) => specNewHt_any l G0 cc W hG)
  have HI := Lib.hid (fun (W : World) => implNewHt_any l G0 cc W hG)
  clear hG
  have BB := Lib.hid (Below.refl w.heap.size w)
  go_enter Try.func5, Try.ntmps5
  go_wp2_with fail
  refine (HS.out _).mono ?_
  rintro e w1 ⟨vs, rfl, ho, b⟩
  have s1 := b.size
  have BB' := Lib.hid (BB.out.trans (b.mono (by omega)))
  clear BB b
  have BB := BB'
  clear BB'
  obtain ⟨vs0, vs1, vs2, vs3, rfl⟩ := ho.agg2
  have S := Lib.hid ho
  clear ho
  have AL := Lib.hid ((Below.refl w1.heap.size w1).alloc (Nat.le_refl _) (.cells #[.slice vs0 vs1 vs2, .int .i64 vs3] 27))
  have hz : (w1.alloc (.cells #[.slice vs0 vs1 vs2, .int .i64 vs3] 27)).heap.size = w1.heap.size + 1 := by simp
  have RS := Lib.hid (Rw.new w1 27 #[.slice vs0 vs1 vs2, .int .i64 vs3])
  go_wp2_with fail
  refine (HI.out _).mono ?_
  rintro e w2 ⟨vg, rfl, ho, b⟩
  have s2 := b.size
  rw [hz] at ho
  rw [hz] at s2
  have b0 := b
  have b := AL.out.trans (b0.mono (by omega))
  have RS := Lib.hid (RS.out.below b0 (by omega))
  clear b0
  have S' := Lib.hid (S.out.same (sm b _ (by omega)))
  clear S
  have S := S'
  clear S'
  have BB' := Lib.hid (BB.out.trans (b.mono (by omega)))
  clear BB b
  have BB := BB'
  clear BB'
  clear AL hz
  obtain ⟨vg0, vg1, vg2, vg3, rfl⟩ := ho.agg2
  have G := Lib.hid ho
  clear ho
  have AL := Lib.hid ((Below.refl w2.heap.size w2).alloc (Nat.le_refl _) (.cells #[.slice vg0 vg1 vg2, .int .i64 vg3] 27))
  have hz : (w2.alloc (.cells #[.slice vg0 vg1 vg2, .int .i64 vg3] 27)).heap.size = w2.heap.size + 1 := by simp
  have RG := Lib.hid (Rw.new w2 27 #[.slice vg0 vg1 vg2, .int .i64 vg3])
  obtain ⟨q10, q11⟩ := (Lib.hid (Rw.below RS.out AL.out (by omega))).out.two
  go_wp2_with fail
  refine (eqHt_any _ _ _ _ _ _ (G.out.same (sm AL.out _ (by omega))).reads (S.out.same (sm AL.out _ (by omega))).reads (by omega) (by omega) HSG.out).mono ?_
  rintro e w3 ⟨rfl, b⟩
  clear q10 q11
  have s3 := b.size
  rw [hz] at s3
  have b0 := b
  have b := AL.out.trans (b0.mono (by omega))
  have RG := Lib.hid (RG.out.below b0 (by omega))
  clear b0
  have S' := Lib.hid (S.out.same (sm b _ (by omega)))
  clear S
  have S := S'
  clear S'
  have G' := Lib.hid (G.out.same (sm b _ (by omega)))
  clear G
  have G := G'
  clear G'
  have RS := Lib.hid (RS.out.below b (by omega))
  have BB' := Lib.hid (BB.out.trans (b.mono (by omega)))
  clear BB b
  have BB := BB'
  clear BB'
  clear AL hz
  obtain ⟨q00, q01⟩ := RG.out.two
  go_wp2_with fail
  refine (markHt_any _ _ _ _ _ G.out (by omega) (by omega) HSG.out).mono ?_
  rintro e w4 ⟨rfl, ho, kp⟩
  clear q00 q01
  have M := Lib.hid ho
  clear G ho
  have s4 := kp.size
  have S' := Lib.hid (S.out.same (sm kp.1 _ (by omega)))
  clear S
  have S := S'
  clear S'
  have RS := Lib.hid (RS.out.below kp.1 (by omega))
  have RG : Hid (Rw _ _ _ _) := Lib.hid ((kp.2 _ (by omega) (by have := RG.out.lt; omega)).trans RG.out)
  have BB' := Lib.hid (BB.out.trans (kp.1.mono (by omega)))
  clear BB kp
  have BB := BB'
  clear BB'
  obtain ⟨q00, q01⟩ := RG.out.two
  go_wp2_with fail
  refine (heldHt_any _ _ _ _ M.out.reads (by omega) HSG.out).mono ?_
  rintro e w5 ⟨rfl, b⟩
  clear q00 q01
  have s5 := b.size
  have S' := Lib.hid (S.out.same (sm b _ (by omega)))
  clear S
  have S := S'
  clear S'
  have M' := Lib.hid (M.out.same (sm b _ (by omega)))
  clear M
  have M := M'
  clear M'
  have RS := Lib.hid (RS.out.below b (by omega))
  have RG := Lib.hid (RG.out.below b (by omega))
  have BB' := Lib.hid (BB.out.trans (b.mono (by omega)))
  clear BB b
  have BB := BB'
  clear BB'
  have hgn : ¬ ((1 + G0.c.length : Nat) : Int) < 0 := by omega
  have hge : (((1 + G0.c.length : Nat) : Int) != ((1 + G0.c.length : Nat) : Int)) = false := by simp
  go_wp2_with fail
  refine (HI.out _).mono ?_
  rintro e w6 ⟨vh, rfl, ho, b⟩
  have s6 := b.size
  have S' := Lib.hid (S.out.same (sm b _ (by omega)))
  clear S
  have S := S'
  clear S'
  have M' := Lib.hid (M.out.same (sm b _ (by omega)))
  clear M
  have M := M'
  clear M'
  have RS := Lib.hid (RS.out.below b (by omega))
  have RG := Lib.hid (RG.out.below b (by omega))
  have BB' := Lib.hid (BB.out.trans (b.mono (by omega)))
  clear BB b
  have BB := BB'
  clear BB'
  obtain ⟨vh0, vh1, vh2, vh3, rfl⟩ := ho.agg2
  have H := Lib.hid ho
  clear ho
  have AL := Lib.hid ((Below.refl w6.heap.size w6).alloc (Nat.le_refl _) (.cells #[.slice vh0 vh1 vh2, .int .i64 vh3] 27))
  have hz : (w6.alloc (.cells #[.slice vh0 vh1 vh2, .int .i64 vh3] 27)).heap.size = w6.heap.size + 1 := by simp
  have RH := Lib.hid (Rw.new w6 27 #[.slice vh0 vh1 vh2, .int .i64 vh3])
  obtain ⟨q10, q11⟩ := (Lib.hid (Rw.below RS.out AL.out (by omega))).out.two
  go_wp2_with fail
  refine (eqHt_any _ _ _ _ _ _ (H.out.same (sm AL.out _ (by omega))).reads (S.out.same (sm AL.out _ (by omega))).reads (by omega) (by omega) HSG.out).mono ?_
  rintro e w7 ⟨rfl, b⟩
  clear q10 q11
  have s7 := b.size
  rw [hz] at s7
  have b0 := b
  have b := AL.out.trans (b0.mono (by omega))
  have RH := Lib.hid (RH.out.below b0 (by omega))
  clear b0
  have S' := Lib.hid (S.out.same (sm b _ (by omega)))
  clear S
  have S := S'
  clear S'
  have M' := Lib.hid (M.out.same (sm b _ (by omega)))
  clear M
  have M := M'
  clear M'
  have H' := Lib.hid (H.out.same (sm b _ (by omega)))
  clear H
  have H := H'
  clear H'
  have RS := Lib.hid (RS.out.below b (by omega))
  have RG := Lib.hid (RG.out.below b (by omega))
  have BB' := Lib.hid (BB.out.trans (b.mono (by omega)))
  clear BB b
  have BB := BB'
  clear BB'
  clear AL hz
  obtain ⟨q00, q01⟩ := RG.out.two
  go_wp2_with fail
  refine (heldHt_any _ _ _ _ M.out.reads (by omega) HSG.out).mono ?_
  rintro e w8 ⟨rfl, b⟩
  clear q00 q01
  have s8 := b.size
  have S' := Lib.hid (S.out.same (sm b _ (by omega)))
  clear S
  have S := S'
  clear S'
  have M' := Lib.hid (M.out.same (sm b _ (by omega)))
  clear M
  have M := M'
  clear M'
  have H' := Lib.hid (H.out.same (sm b _ (by omega)))
  clear H
  have H := H'
  clear H'
  have RS := Lib.hid (RS.out.below b (by omega))
  have RG := Lib.hid (RG.out.below b (by omega))
  have RH := Lib.hid (RH.out.below b (by omega))
  have BB' := Lib.hid (BB.out.trans (b.mono (by omega)))
  clear BB b
  have BB := BB'
  clear BB'
  go_wp2
  go_ret
  exact ⟨rfl, BB.out⟩
end Go.Proofs.Ytgkanacaijlljaa
