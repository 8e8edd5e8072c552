/- The law FnExactRandomFaults, walked: every call by its contract. -/
import Derived.Test.YtikdmkfngdihhaeProg
import Derived.Test.YtikdmkfngdihhaeRfI
namespace Go.Proofs.Ytikdmkfngdihhae
open Go.RowKit
set_option linter.unusedVariables false
set_option maxHeartbeats 4000000 in
theorem wkRf (d b p seed count : Int) (w : World) : Calls Try.prog 4 #[.agg #[.int .i64 d, .int .i64 b, .int .i64 p], .int .i64 seed, .int .i64 count] w fun e w' => e = .returned (.bool true) ∧ Below w.heap.size w w' := by
  obtain ⟨n, l, c, hE⟩ := rfEnds d b p seed count
  obtain ⟨hn40, hll⟩ := hE.len
  have HS := Lib.hid (fun (W : World) => specRf_any d b p seed count n l c W hE)
  have HI := Lib.hid (fun (W : World) => implRf_any d b p seed count n l c W hE)
  have hcc : (c != c) = false := by simp
  have BB := Lib.hid ((Below.refl w.heap.size w).alloc (Nat.le_refl _) (.cells #[.int .i64 d, .int .i64 b, .int .i64 p] 34))
  have R0 := Lib.hid (Rw.new w 34 #[.int .i64 d, .int .i64 b, .int .i64 p])
  have hz : (w.alloc (.cells #[.int .i64 d, .int .i64 b, .int .i64 p] 34)).heap.size = w.heap.size + 1 := by simp
  clear hE
  go_enter Try.func4, Try.ntmps4
  obtain ⟨c0, c1, c2⟩ := R0.out.three
  go_wp2_with fail
  refine (toGeometry_any d b p _).mono ?_
  rintro e w1 ⟨rfl, b1⟩
  rw [hz] at b1
  have s1 := b1.size
  rw [hz] at s1
  have R0' := Lib.hid (R0.out.below b1 (by first | omega | (simp; omega)))
  clear R0
  have R0 := R0'
  clear R0'
  have BB' := Lib.hid (BB.out.trans (b1.mono (by first | omega | (simp; omega))))
  clear BB
  have BB := BB'
  clear BB'
  clear b1
  clear c0 c1 c2
  go_wp2_with fail
  refine (HS.out _).mono ?_
  rintro e w2 ⟨uS, rfl, ho, b1⟩
  have s2 := b1.size
  have R0' := Lib.hid (R0.out.below b1 (by first | omega | (simp; omega)))
  clear R0
  have R0 := R0'
  clear R0'
  have BB' := Lib.hid (BB.out.trans (b1.mono (by first | omega | (simp; omega))))
  clear BB
  have BB := BB'
  clear BB'
  have S := Lib.hid (QO.mk_ ho)
  clear b1 ho
  obtain ⟨c0, c1, c2⟩ := R0.out.three
  go_wp2_with fail
  refine (toGeometry_any d b p _).mono ?_
  rintro e w3 ⟨rfl, b1⟩
  have s3 := b1.size
  have R0' := Lib.hid (R0.out.below b1 (by first | omega | (simp; omega)))
  clear R0
  have R0 := R0'
  clear R0'
  have S' := Lib.hid (S.out.below b1 (by first | omega | (simp; omega)))
  clear S
  have S := S'
  clear S'
  have BB' := Lib.hid (BB.out.trans (b1.mono (by first | omega | (simp; omega))))
  clear BB
  have BB := BB'
  clear BB'
  clear b1
  clear c0 c1 c2
  go_wp2_with fail
  refine (HI.out _).mono ?_
  rintro e w4 ⟨uG, rfl, ho, b1⟩
  have s4 := b1.size
  have R0' := Lib.hid (R0.out.below b1 (by first | omega | (simp; omega)))
  clear R0
  have R0 := R0'
  clear R0'
  have S' := Lib.hid (S.out.below b1 (by first | omega | (simp; omega)))
  clear S
  have S := S'
  clear S'
  have BB' := Lib.hid (BB.out.trans (b1.mono (by first | omega | (simp; omega))))
  clear BB
  have BB := BB'
  clear BB'
  have G := Lib.hid (QO.mk_ ho)
  clear b1 ho
  go_wp2_with fail
  refine (eqFaults_any _ _ n l _ _ _ G.out.reads S.out.reads (by omega) (by omega) (by omega)).mono ?_
  rintro e w5 ⟨rfl, b1⟩
  have s5 := b1.size
  have R0' := Lib.hid (R0.out.below b1 (by first | omega | (simp; omega)))
  clear R0
  have R0 := R0'
  clear R0'
  have S' := Lib.hid (S.out.below b1 (by first | omega | (simp; omega)))
  clear S
  have S := S'
  clear S'
  have G' := Lib.hid (G.out.below b1 (by first | omega | (simp; omega)))
  clear G
  have G := G'
  clear G'
  have BB' := Lib.hid (BB.out.trans (b1.mono (by first | omega | (simp; omega))))
  clear BB
  have BB := BB'
  clear BB'
  clear b1
  go_wp2_with fail
  refine (markFaults_any _ _ n l _ G.out.1 (by omega)).mono ?_
  rintro e w6 ⟨rfl, hm, hg, b1⟩
  have s6 := hg.size
  have S' := Lib.hid (S.out.below b1 (by omega))
  clear S
  have S := S'
  clear S'
  have R0' := Lib.hid (R0.out.below b1 (by omega))
  clear R0
  have R0 := R0'
  clear R0'
  have BB' := Lib.hid (BB.out.trans (b1.mono (by omega)))
  clear BB
  have BB := BB'
  clear BB'
  have M := Lib.hid (show QO _ _ _ uG n (mkL 1 (n * 4)) from ⟨hm, G.out.2⟩)
  clear hm hg b1 G
  go_wp2_with fail
  refine (heldFaults_any _ n _ _ M.out.reads (by omega)).mono ?_
  rintro e w7 ⟨rfl, rfl⟩
  have hgn : ¬ (1 + ((n * 4 : Nat) : Int)) < 0 := by omega
  have hge : ((1 + ((n * 4 : Nat) : Int)) != (1 + ((n * 4 : Nat) : Int))) = false := by simp
  have hgn' : ¬ (1 + (n : Int) * 4) < 0 := by omega
  have hge' : ((1 + (n : Int) * 4) != (1 + (n : Int) * 4)) = false := by simp
  obtain ⟨c0, c1, c2⟩ := R0.out.three
  go_wp2_with fail
  refine (toGeometry_any d b p _).mono ?_
  rintro e w8 ⟨rfl, b1⟩
  have s8 := b1.size
  have R0' := Lib.hid (R0.out.below b1 (by first | omega | (simp; omega)))
  clear R0
  have R0 := R0'
  clear R0'
  have S' := Lib.hid (S.out.below b1 (by first | omega | (simp; omega)))
  clear S
  have S := S'
  clear S'
  have M' := Lib.hid (M.out.below b1 (by first | omega | (simp; omega)))
  clear M
  have M := M'
  clear M'
  have BB' := Lib.hid (BB.out.trans (b1.mono (by first | omega | (simp; omega))))
  clear BB
  have BB := BB'
  clear BB'
  clear b1
  clear c0 c1 c2
  go_wp2_with fail
  refine (HI.out _).mono ?_
  rintro e w9 ⟨uH, rfl, ho, b1⟩
  have s9 := b1.size
  have R0' := Lib.hid (R0.out.below b1 (by first | omega | (simp; omega)))
  clear R0
  have R0 := R0'
  clear R0'
  have S' := Lib.hid (S.out.below b1 (by first | omega | (simp; omega)))
  clear S
  have S := S'
  clear S'
  have M' := Lib.hid (M.out.below b1 (by first | omega | (simp; omega)))
  clear M
  have M := M'
  clear M'
  have BB' := Lib.hid (BB.out.trans (b1.mono (by first | omega | (simp; omega))))
  clear BB
  have BB := BB'
  clear BB'
  have H := Lib.hid (QO.mk_ ho)
  clear b1 ho
  go_wp2_with fail
  refine (eqFaults_any _ _ n l _ _ _ H.out.reads S.out.reads (by omega) (by omega) (by omega)).mono ?_
  rintro e w10 ⟨rfl, b1⟩
  have s10 := b1.size
  have R0' := Lib.hid (R0.out.below b1 (by first | omega | (simp; omega)))
  clear R0
  have R0 := R0'
  clear R0'
  have S' := Lib.hid (S.out.below b1 (by first | omega | (simp; omega)))
  clear S
  have S := S'
  clear S'
  have M' := Lib.hid (M.out.below b1 (by first | omega | (simp; omega)))
  clear M
  have M := M'
  clear M'
  have H' := Lib.hid (H.out.below b1 (by first | omega | (simp; omega)))
  clear H
  have H := H'
  clear H'
  have BB' := Lib.hid (BB.out.trans (b1.mono (by first | omega | (simp; omega))))
  clear BB
  have BB := BB'
  clear BB'
  clear b1
  go_wp2_with fail
  refine (heldFaults_any _ n _ _ M.out.reads (by omega)).mono ?_
  rintro e w11 ⟨rfl, rfl⟩
  go_wp2
  go_ret
  exact ⟨rfl, BB.out⟩
end Go.Proofs.Ytikdmkfngdihhae
