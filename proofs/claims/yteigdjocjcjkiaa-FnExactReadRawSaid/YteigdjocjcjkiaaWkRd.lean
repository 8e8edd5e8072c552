/- The law FnExactReadRaw, walked: every call by its contract. -/
import Derived.Test.YteigdjocjcjkiaaProg
import Derived.Test.YteigdjocjcjkiaaFlSz
import Derived.Test.YteigdjocjcjkiaaFlRd
import Derived.Test.YteigdjocjcjkiaaFlA
import Derived.Test.YteigdjocjcjkiaaFlE
namespace Go.Proofs.Yteigdjocjcjkiaa
open Go.RowKit
set_option linter.unusedVariables false
set_option maxHeartbeats 4000000 in
set_option maxRecDepth 100000 in
theorem wkRd (vA : Value) (FA : Fl) (block page : Int) (w : World) (hFA : FlIn w 0 w.heap.size vA FA) :
    Calls Try.prog 4 #[vA, .int .i64 block, .int .i64 page] w fun e w' => e = .returned (.bool true) ∧ Below w.heap.size w w' := by
  obtain ⟨cA0, cA1, cA2, cA3, cA4, cA5, cA6, cA7, rfl⟩ : ∃ c0 c1 c2 c3 c4 c5 c6 c7, vA = .agg #[c0, c1, c2, c3, c4, c5, c6, c7] := by
    obtain ⟨u, rfl, _⟩ := hFA; exact ⟨_, _, _, _, _, _, _, _, rfl⟩
  have AA := Lib.hid hFA
  have HZA := Lib.hid (fun (W : World) (a : FlIn W 0 w.heap.size (.agg #[cA0, cA1, cA2, cA3, cA4, cA5, cA6, cA7]) FA) (c : w.heap.size ≤ W.heap.size) => szFlash_any _ FA W w.heap.size a c)
  have HTA := Lib.hid (fun (W : World) (a : FlIn W 0 w.heap.size (.agg #[cA0, cA1, cA2, cA3, cA4, cA5, cA6, cA7]) FA) (c : w.heap.size ≤ W.heap.size) (z : FlSz FA) => toFlash_any _ FA W w.heap.size a c z)
  clear hFA
  obtain ⟨s, cc, hE⟩ := readEnds FA block page
  have hcc : (cc != cc) = false := by simp
  have hss := str_same (rfl : s = s)
  have HS := Lib.hid (fun (W : World) (u : Value) (lo hi : Nat) (a : FlIn W lo hi u FA) (c : hi ≤ W.heap.size) (l : FlLen FA) => specRead_any u block page FA s cc W lo hi a c hE l)
  have HI := Lib.hid (fun (W : World) (u : Value) (lo hi : Nat) (a : FlIn W lo hi u FA) (c : hi ≤ W.heap.size) (l : FlLen FA) => implRead_any u block page FA s cc W lo hi a c hE l)
  clear hE
  have BB := Lib.hid (Below.refl w.heap.size w)
  have AL := Lib.hid ((Below.refl w.heap.size w).alloc (Nat.le_refl _) (.cells #[cA0, cA1, cA2, cA3, cA4, cA5, cA6, cA7] 26))
  have hz : (w.alloc (.cells #[cA0, cA1, cA2, cA3, cA4, cA5, cA6, cA7] 26)).heap.size = w.heap.size + 1 := by simp
  have RA := Lib.hid (Rw.new w 26 #[cA0, cA1, cA2, cA3, cA4, cA5, cA6, cA7])
  go_enter Try.func4, Try.ntmps4
  go_wp2_with fail
  refine (HZA.out _ (AA.out.same (sm AL.out _ (by omega))) (by omega)).mono ?_
  rintro e w1 ⟨y, rfl, hy, b⟩
  by_cases hneg : y < 0
  · go_wp2
    go_ret
    exact ⟨rfl, BB.out.trans ((AL.out.trans (b.mono (by omega))).mono (by omega))⟩
  have hsz := hy.small hneg
  have hnA : ¬ y < 0 := hneg
  have HSA := Lib.hid hsz
  have HLA := Lib.hid hsz.lens
  clear hneg hy hsz
  have s1 := b.size
  rw [hz] at s1
  have b0 := b
  have b := AL.out.trans (b0.mono (by omega))
  have RA := Lib.hid (RA.out.below b0 (by omega))
  clear b0
  have AA' := Lib.hid (AA.out.same (sm b _ (by omega)))
  clear AA
  have AA := AA'
  clear AA'
  have BB' := Lib.hid (BB.out.trans (b.mono (by omega)))
  clear BB b
  have BB := BB'
  clear BB'
  clear AL hz
  obtain ⟨q00, q01, q02, q03, q04, q05, q06, q07⟩ := RA.out.eight
  go_wp2_with fail
  refine (HTA.out _ AA.out (by omega) HSA.out).mono ?_
  rintro e w2 ⟨vt, rfl, ho, b⟩
  clear q00 q01 q02 q03 q04 q05 q06 q07
  have s2 := b.size
  have AA' := Lib.hid (AA.out.same (sm b _ (by omega)))
  clear AA
  have AA := AA'
  clear AA'
  have RA := Lib.hid (RA.out.below b (by omega))
  have BB' := Lib.hid (BB.out.trans (b.mono (by omega)))
  clear BB b
  have BB := BB'
  clear BB'
  obtain ⟨vt0, vt1, vt2, vt3, vt4, vt5, vt6, vt7, vt8, vt9, rfl⟩ := ho.agg8
  have T := Lib.hid ho
  clear ho
  go_wp2_with fail
  refine (HS.out _ _ _ _ T.out.reads (by omega) HLA.out).mono ?_
  rintro e w3 ⟨rfl, b⟩
  have s3 := b.size
  have AA' := Lib.hid (AA.out.same (sm b _ (by omega)))
  clear AA
  have AA := AA'
  clear AA'
  have T' := Lib.hid (T.out.same (sm b _ (by omega)))
  clear T
  have T := T'
  clear T'
  have RA := Lib.hid (RA.out.below b (by omega))
  have BB' := Lib.hid (BB.out.trans (b.mono (by omega)))
  clear BB b
  have BB := BB'
  clear BB'
  clear T
  obtain ⟨q00, q01, q02, q03, q04, q05, q06, q07⟩ := RA.out.eight
  go_wp2_with fail
  refine (HTA.out _ AA.out (by omega) HSA.out).mono ?_
  rintro e w4 ⟨vx, rfl, ho, b⟩
  clear q00 q01 q02 q03 q04 q05 q06 q07
  have s4 := b.size
  have AA' := Lib.hid (AA.out.same (sm b _ (by omega)))
  clear AA
  have AA := AA'
  clear AA'
  have RA := Lib.hid (RA.out.below b (by omega))
  have BB' := Lib.hid (BB.out.trans (b.mono (by omega)))
  clear BB b
  have BB := BB'
  clear BB'
  obtain ⟨vx0, vx1, vx2, vx3, vx4, vx5, vx6, vx7, vx8, vx9, rfl⟩ := ho.agg8
  have X := Lib.hid ho
  clear ho
  have AL := Lib.hid ((Below.refl w4.heap.size w4).alloc (Nat.le_refl _) (.cells #[.int .i64 vx0, .int .i64 vx1, .int .i64 vx2, .slice vx3 vx4 vx5, .int .i64 vx6, .int .i64 vx7, .bool vx8, .int .i64 vx9] 31))
  have hz : (w4.alloc (.cells #[.int .i64 vx0, .int .i64 vx1, .int .i64 vx2, .slice vx3 vx4 vx5, .int .i64 vx6, .int .i64 vx7, .bool vx8, .int .i64 vx9] 31)).heap.size = w4.heap.size + 1 := by simp
  have RX := Lib.hid (Rw.new w4 31 #[.int .i64 vx0, .int .i64 vx1, .int .i64 vx2, .slice vx3 vx4 vx5, .int .i64 vx6, .int .i64 vx7, .bool vx8, .int .i64 vx9])
  go_wp2_with fail
  refine (HI.out _ _ _ _ (X.out.same (sm AL.out _ (by omega))).reads (by omega) HLA.out).mono ?_
  rintro e w5 ⟨rfl, b⟩
  have s5 := b.size
  rw [hz] at s5
  have b0 := b
  have b := AL.out.trans (b0.mono (by omega))
  have RX := Lib.hid (RX.out.below b0 (by omega))
  clear b0
  have AA' := Lib.hid (AA.out.same (sm b _ (by omega)))
  clear AA
  have AA := AA'
  clear AA'
  have X' := Lib.hid (X.out.same (sm b _ (by omega)))
  clear X
  have X := X'
  clear X'
  have RA := Lib.hid (RA.out.below b (by omega))
  have BB' := Lib.hid (BB.out.trans (b.mono (by omega)))
  clear BB b
  have BB := BB'
  clear BB'
  clear AL hz
  go_wp2_with fail
  refine wp_region_held_drew (S := fun W => Rw W _ 31 #[.int .i64 vx0, .int .i64 vx1, .int .i64 vx2, .slice vx3 vx4 vx5, .int .i64 vx6, .int .i64 vx7, .bool vx8, .int .i64 vx9] ∧ Rw W _ 26 #[cA0, cA1, cA2, cA3, cA4, cA5, cA6, cA7]) (by kernel_rfl) ⟨show Rw w5.drew _ _ _ from RX.out, show Rw w5.drew _ _ _ from RA.out⟩ (fun hHeld => ?_)
  refine wpAnyH_take (i := 0) (oi := _) (v := .agg #[.int .i64 vx0, .int .i64 vx1, .int .i64 vx2, .slice vx3 vx4 vx5, .int .i64 vx6, .int .i64 vx7, .bool vx8, .int .i64 vx9]) rfl (by kernel_rfl) (by kernel_rfl) (by kernel_rfl) (fun _ _ _ h => h) (Or.inl ⟨by rfl, fun W hSw => by
    obtain ⟨q0, q1, q2, q3, q4, q5, q6, q7⟩ := hSw.1.eight
    go_simp⟩) hHeld ?_
  refine wpAnyH_take (i := 1) (oi := _) (v := .agg #[cA0, cA1, cA2, cA3, cA4, cA5, cA6, cA7]) rfl (by kernel_rfl) (by kernel_rfl) (by kernel_rfl) (fun _ _ _ h => h) (Or.inl ⟨by rfl, fun W hSw => by
    obtain ⟨q0, q1, q2, q3, q4, q5, q6, q7⟩ := hSw.2.eight
    go_simp⟩) hHeld ?_
  refine wpAnyH_ready (rs := [2]) (by kernel_rfl) (by simp) ?_
  refine AllReadyH.cons (o := _) rfl (fun K hK => ?_) AllReadyH.nil
  go_simp
  refine (HTA.out w5.drew (show FlIn w5.drew _ _ _ _ from AA.out) (by simp; omega) HSA.out).mono ?_
  rintro e w6 ⟨vy, rfl, ho, b0⟩
  have b := (Below.refl w5.heap.size w5).drew.trans b0
  have hr1 := RX.out.below b (by omega)
  have hr2 := RA.out.below b (by omega)
  refine hK.out _ _ ⟨hr1, hr2⟩ (fun hHeld => ?_)
  clear hK K hr1 hr2 b0 hHeld
  have s6 := b.size
  have AA' := Lib.hid (AA.out.same (sm b _ (by omega)))
  clear AA
  have AA := AA'
  clear AA'
  have X' := Lib.hid (X.out.same (sm b _ (by omega)))
  clear X
  have X := X'
  clear X'
  have RA := Lib.hid (RA.out.below b (by omega))
  have RX := Lib.hid (RX.out.below b (by omega))
  have BB' := Lib.hid (BB.out.trans (b.mono (by omega)))
  clear BB b
  have BB := BB'
  clear BB'
  have Y := Lib.hid ho
  clear ho
  refine wpAnyH_ready (rs := [3]) (by kernel_rfl) (by simp) ?_
  refine AllReadyH.cons (o := _) rfl (fun K hK => ?_) AllReadyH.nil
  go_simp
  refine (eqFlash_any _ _ _ w6 _ _ _ _ X.out.reads Y.out.reads (by omega) (by omega) HSA.out).mono ?_
  rintro e w7 ⟨rfl, b⟩
  have hr1 := RX.out.below b (by omega)
  have hr2 := RA.out.below b (by omega)
  refine hK.out _ _ ⟨hr1, hr2⟩ (fun hHeld => ?_)
  clear hK K hr1 hr2
  clear Y
  have s7 := b.size
  have AA' := Lib.hid (AA.out.same (sm b _ (by omega)))
  clear AA
  have AA := AA'
  clear AA'
  have X' := Lib.hid (X.out.same (sm b _ (by omega)))
  clear X
  have X := X'
  clear X'
  have RA := Lib.hid (RA.out.below b (by omega))
  have RX := Lib.hid (RX.out.below b (by omega))
  have BB' := Lib.hid (BB.out.trans (b.mono (by omega)))
  clear BB b
  have BB := BB'
  clear BB'
  refine wpAnyH_ready (rs := [4]) (by kernel_rfl) (by simp) ?_
  refine AllReadyH.cons (o := _) rfl (fun K hK => ?_) AllReadyH.nil
  go_simp
  refine hK.out _ _ ⟨RX.out, RA.out⟩ (fun hHeld => ?_)
  clear hK K
  refine wpAnyH_done (by kernel_rfl) ?_ _
  clear hHeld
  go_wp2
  go_ret
  exact ⟨rfl, BB.out⟩
end Go.Proofs.Yteigdjocjcjkiaa
