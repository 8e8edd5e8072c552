/- The proof's own lemmas, part 67: WkMbk. -/
import Derived.Test.YtainlanblpccjaaProg
import Derived.Test.YtainlanblpccjaaMg9
import Derived.Test.YtainlanblpccjaaMg11
import Derived.Test.YtainlanblpccjaaMg53
import Derived.Test.YtainlanblpccjaaMg2
import Derived.Test.YtainlanblpccjaaMg55
import Derived.Test.YtainlanblpccjaaMg18
import Derived.Test.YtainlanblpccjaaMg7
import Derived.Test.YtainlanblpccjaaMg65
/- The law FnExactMarkBadBlocks, walked: every call by its contract. -/
namespace Go.Proofs.Ytainlanblpccjaa
open Go.RowKit
set_option linter.unusedVariables false
set_option linter.unusedSimpArgs false
set_option maxHeartbeats 40000000 in
set_option maxRecDepth 100000 in
theorem wkMbk (vA : Value) (FA : Fl) (vB : Value) (FB : Tb) (w : World) (hFA : FxIn w w.heap.size vA FA) (hWA : FxW FA) (hFB : TbIn w w.heap.size vB FB) (hWB : TbW FB) :
    Calls Try.prog 12 #[vA, vB] w fun e w' => e = .returned (.bool true) ∧ Below w.heap.size w w' := by
  obtain ⟨cA0, cA1, cA2, cA3, cA4, cA5, cA6, cA7, rfl⟩ : ∃ cA0 cA1 cA2 cA3 cA4 cA5 cA6 cA7, vA = .agg #[cA0, cA1, cA2, cA3, cA4, cA5, cA6, cA7] := by
    obtain ⟨kA0, kA1, kA2, kA3, kA4, kA5, kA6, kA7, kA8, kA9, e⟩ := hFA.agg8
    exact ⟨_, _, _, _, _, _, _, _, e⟩
  obtain ⟨cB0, cB1, cB2, cB3, cB4, cB5, rfl⟩ : ∃ cB0 cB1 cB2 cB3 cB4 cB5, vB = .agg #[cB0, cB1, cB2, cB3, cB4, cB5] := by
    obtain ⟨kB0, kB1, kB2, kB3, kB4, kB5, kB6, kB7, kB8, kB9, e⟩ := hFB.agg6
    exact ⟨_, _, _, _, _, _, e⟩
  have AA := Lib.hid hFA
  have HZA := Lib.hid (fun (W : World) (m : Int) (a : FxIn W w.heap.size (.agg #[cA0, cA1, cA2, cA3, cA4, cA5, cA6, cA7]) FA) (c : w.heap.size ≤ W.heap.size) (h0 : 0 ≤ m) (h1 : m ≤ 1048576) => szFxM_any _ FA W w.heap.size m a c h0 h1)
  have HTA := Lib.hid (fun (W : World) (a : FxIn W w.heap.size (.agg #[cA0, cA1, cA2, cA3, cA4, cA5, cA6, cA7]) FA) (c : w.heap.size ≤ W.heap.size) (z : FxSz FA) => toFx_any _ FA W w.heap.size a c z)
  have AB := Lib.hid hFB
  have HZB := Lib.hid (fun (W : World) (m : Int) (a : TbIn W w.heap.size (.agg #[cB0, cB1, cB2, cB3, cB4, cB5]) FB) (c : w.heap.size ≤ W.heap.size) (h0 : 0 ≤ m) (h1 : m ≤ 1048576) => szTbM_any _ FB W w.heap.size m a c h0 h1)
  have HTB := Lib.hid (fun (W : World) (a : TbIn W w.heap.size (.agg #[cB0, cB1, cB2, cB3, cB4, cB5]) FB) (c : w.heap.size ≤ W.heap.size) (z : TbSz FB) => toTb_any _ FB W w.heap.size a c z)
  obtain ⟨r, hr⟩ := prop_dec' (FlOk FA)
  obtain ⟨q, hq⟩ := prop_dec' (TbOk FB)
  obtain ⟨G0, cd, hG⟩ := mbIs FA FB r q
  have HGZ := Lib.hid (show FxSz FA → FxSz G0 from fun z => mbIs_sz hG z)
  have HS : Hid (∀ (W : World) (uA : Value) (hiA : Nat) (aA : FxIn W hiA uA FA) (cA : hiA ≤ W.heap.size) (zA : FxSz FA) (uB : Value) (hiB : Nat) (aB : TbIn W hiB uB FB) (cB : hiB ≤ W.heap.size) (zB : TbSz FB), Calls Try.prog 64 #[uA, uB] W (fun e w' => ∃ r0, e = .returned (.tuple #[r0, .int .i64 cd]) ∧ FxOwn w' W.heap.size w'.heap.size r0 G0 ∧ Below W.heap.size W w')) := Lib.hid (fun W uA hiA aA cA zA uB hiB aB cB zB => specMb_any uA uB FA FB r q G0 cd W W.heap.size (FlIn.wide aA (Nat.le_refl _) cA) (TbIn.wide aB cB) (Nat.le_refl _) hr hq hG (FlSz.lens zA) zB hWB)
  have HI : Hid (∀ (W : World) (uA : Value) (hiA : Nat) (aA : FxIn W hiA uA FA) (cA : hiA ≤ W.heap.size) (zA : FxSz FA) (uB : Value) (hiB : Nat) (aB : TbIn W hiB uB FB) (cB : hiB ≤ W.heap.size) (zB : TbSz FB), Calls Try.prog 65 #[uA, uB] W (fun e w' => ∃ r0, e = .returned (.tuple #[r0, .int .i64 cd]) ∧ FxOwn w' W.heap.size w'.heap.size r0 G0 ∧ Below W.heap.size W w')) := Lib.hid (fun W uA hiA aA cA zA uB hiB aB cB zB => implMb_any uA uB FA FB r q G0 cd W W.heap.size (FlIn.wide aA (Nat.le_refl _) cA) (TbIn.wide aB cB) (Nat.le_refl _) hr hq hG (FlSz.lens zA) zB hWB)
  have hxx1 : ((cd : Int) != cd) = false := by simp
  clear hFA hWA hFB hWB
  clear hr hq hG
  have BB := Lib.hid (Below.refl w.heap.size w)
  have AL := Lib.hid (((Below.refl w.heap.size w).alloc (Nat.le_refl _) (.cells #[cA0, cA1, cA2, cA3, cA4, cA5, cA6, cA7] 62)).alloc (by simp) (.cells #[cB0, cB1, cB2, cB3, cB4, cB5] 85))
  have hz : ((w.alloc (.cells #[cA0, cA1, cA2, cA3, cA4, cA5, cA6, cA7] 62)).alloc (.cells #[cB0, cB1, cB2, cB3, cB4, cB5] 85)).heap.size = w.heap.size + 2 := by simp
  obtain ⟨hRA, hRB, _⟩ := Rw.two_new w 62 85 #[cA0, cA1, cA2, cA3, cA4, cA5, cA6, cA7] #[cB0, cB1, cB2, cB3, cB4, cB5]
  have RA := Lib.hid hRA
  clear hRA
  have RB := Lib.hid hRB
  clear hRB
  go_enter Try.func12, Try.ntmps12
  go_wp2_with fail
  refine (HZA.out _ 1048576 (AA.out.same (sm AL.out _ (by omega))) (by omega) (by omega) (by omega)).mono ?_
  rintro e w1 ⟨yA, rfl, hy, b⟩
  by_cases hneg : yA < 0
  · go_wp2
    go_ret
    exact ⟨rfl, BB.out.trans ((AL.out.trans (b.mono (by omega))).mono (by omega))⟩
  have hnA : ¬ yA < 0 := hneg
  have HSA := Lib.hid (show FxSz FA by unfold FxSz; rcases hy with hy | hy <;> omega)
  have hyaA : 0 ≤ yA := by omega
  have hybA : yA ≤ 1048576 := by rcases hy with hy | hy <;> omega
  clear hneg hy
  have s1 := b.size
  rw [hz] at s1
  have b0 := b
  have b := AL.out.trans (b0.mono (by omega))
  have RA := Lib.hid (RA.out.below b0 (by omega))
  have RB := Lib.hid (RB.out.below b0 (by omega))
  clear b0
  have AA' := Lib.hid (AA.out.same (sm b _ (by omega)))
  clear AA
  have AA := AA'
  clear AA'
  have AB' := Lib.hid (AB.out.same (sm b _ (by omega)))
  clear AB
  have AB := AB'
  clear AB'
  have BB' := Lib.hid (BB.out.trans (b.mono (by omega)))
  clear BB b
  have BB := BB'
  clear BB'
  clear AL hz
  obtain ⟨q00, q01, q02, q03, q04, q05⟩ := RB.out.six
  go_wp2_with fail
  refine (HZB.out _ yA AB.out (by omega) hyaA hybA).mono ?_
  rintro e w2 ⟨yB, rfl, hy, b⟩
  clear q00 q01 q02 q03 q04 q05
  by_cases hneg : yB < 0
  · go_wp2
    go_ret
    exact ⟨rfl, BB.out.trans (b.mono (by omega))⟩
  have hnB : ¬ yB < 0 := hneg
  have HSB := Lib.hid (show TbSz FB by unfold TbSz; rcases hy with hy | hy <;> omega)
  have hyaB : 0 ≤ yB := by omega
  have hybB : yB ≤ 1048576 := by rcases hy with hy | hy <;> omega
  clear hneg hy
  have s2 := b.size
  have AA' := Lib.hid (AA.out.same (sm b _ (by omega)))
  clear AA
  have AA := AA'
  clear AA'
  have AB' := Lib.hid (AB.out.same (sm b _ (by omega)))
  clear AB
  have AB := AB'
  clear AB'
  have RA := Lib.hid (RA.out.below b (by omega))
  have RB := Lib.hid (RB.out.below b (by omega))
  have BB' := Lib.hid (BB.out.trans (b.mono (by omega)))
  clear BB b
  have BB := BB'
  clear BB'
  clear hyaA hybA
  clear hyaB hybB
  have HSG := Lib.hid (HGZ.out HSA.out)
  obtain ⟨z0, hz0⟩ : ∃ z, z = w2.heap.size := ⟨_, rfl⟩
  have HZ0 := Lib.hid hz0
  have hzl : z0 ≤ w2.heap.size := by omega
  have HTWA := Lib.hid (fun (W : World) (bw : Below z0 w2 W) => HTA.out W (AA.out.same (sm bw _ (by omega))) (by have := bw.size; omega) HSA.out)
  have HTWB := Lib.hid (fun (W : World) (bw : Below z0 w2 W) => HTB.out W (AB.out.same (sm bw _ (by omega))) (by have := bw.size; omega) HSB.out)
  have KC := Lib.hid (fun (W : World) (bw : Below z0 w2 W) => show (W.cell? ⟨w.heap.size, 0, none⟩ = some cA0 ∧ W.cell? ⟨w.heap.size, 1, none⟩ = some cA1 ∧ W.cell? ⟨w.heap.size, 2, none⟩ = some cA2 ∧ W.cell? ⟨w.heap.size, 3, none⟩ = some cA3 ∧ W.cell? ⟨w.heap.size, 4, none⟩ = some cA4 ∧ W.cell? ⟨w.heap.size, 5, none⟩ = some cA5 ∧ W.cell? ⟨w.heap.size, 6, none⟩ = some cA6 ∧ W.cell? ⟨w.heap.size, 7, none⟩ = some cA7) ∧ (W.cell? ⟨w.heap.size + 1, 0, none⟩ = some cB0 ∧ W.cell? ⟨w.heap.size + 1, 1, none⟩ = some cB1 ∧ W.cell? ⟨w.heap.size + 1, 2, none⟩ = some cB2 ∧ W.cell? ⟨w.heap.size + 1, 3, none⟩ = some cB3 ∧ W.cell? ⟨w.heap.size + 1, 4, none⟩ = some cB4 ∧ W.cell? ⟨w.heap.size + 1, 5, none⟩ = some cB5) from ⟨(RA.out.below bw (by have := RA.out.lt; omega)).eight, (RB.out.below bw (by have := RB.out.lt; omega)).six⟩)
  have hb0 : Below z0 w2 w2 := Below.refl _ _
  have BD := hb0.drew
  have hbz := fun (o : Obj) => (hb0.alloc hzl o).drew
  have rz := show Rw (w2.alloc (.cells #[.int .i64 0, .int .i64 0, .int .i64 0, .slice none 0 0, .int .i64 0, .int .i64 0, .bool false, .int .i64 0] 67)).drew w2.heap.size 67 #[.int .i64 0, .int .i64 0, .int .i64 0, .slice none 0 0, .int .i64 0, .int .i64 0, .bool false, .int .i64 0] from Rw.new w2 _ _
  have kA := KC.out _ BD
  have kZ := fun (o : Obj) => KC.out _ (hbz o)
  clear hz0
  go_wp2_with fail
  go_cut [6, 7] (fun p6 c7 w3 => ∃ (gs : Nat) (x0 x1 x2 : Int) (x3 : Option Addr) (x4 x5 : Nat) (x6 x7 : Int) (x8 : Bool) (x9 : Int), p6 = .pointer (some ⟨gs, 0, none⟩) ∧ c7 = .int .i64 cd ∧ Hid (Below z0 w2 w3) ∧ Hid (z0 ≤ gs ∧ Rw w3 gs 67 #[.int .i64 x0, .int .i64 x1, .int .i64 x2, .slice x3 x4 x5, .int .i64 x6, .int .i64 x7, .bool x8, .int .i64 x9]) ∧ Hid (FxOwn w3 z0 w3.heap.size (.agg #[.int .i64 x0, .int .i64 x1, .int .i64 x2, .slice x3 x4 x5, .int .i64 x6, .int .i64 x7, .bool x8, .int .i64 x9]) G0))
  case first =>
    go_region_held3 (fun W => (W.cell? ⟨w.heap.size, 0, none⟩ = some cA0 ∧ W.cell? ⟨w.heap.size, 1, none⟩ = some cA1 ∧ W.cell? ⟨w.heap.size, 2, none⟩ = some cA2 ∧ W.cell? ⟨w.heap.size, 3, none⟩ = some cA3 ∧ W.cell? ⟨w.heap.size, 4, none⟩ = some cA4 ∧ W.cell? ⟨w.heap.size, 5, none⟩ = some cA5 ∧ W.cell? ⟨w.heap.size, 6, none⟩ = some cA6 ∧ W.cell? ⟨w.heap.size, 7, none⟩ = some cA7) ∧ (W.cell? ⟨w.heap.size + 1, 0, none⟩ = some cB0 ∧ W.cell? ⟨w.heap.size + 1, 1, none⟩ = some cB1 ∧ W.cell? ⟨w.heap.size + 1, 2, none⟩ = some cB2 ∧ W.cell? ⟨w.heap.size + 1, 3, none⟩ = some cB3 ∧ W.cell? ⟨w.heap.size + 1, 4, none⟩ = some cB4 ∧ W.cell? ⟨w.heap.size + 1, 5, none⟩ = some cB5))
      (first
        | with_reducible exact kA
        | with_reducible exact kZ _
        | with_reducible exact k1
        | with_reducible exact k1z _
        | with_reducible exact k2
        | with_reducible exact k2z _
        | with_reducible exact k3
        | with_reducible exact k3z _
        | with_reducible exact kS)
      (first
        | (go_at_call 46
           with_reducible refine (HTWA.out _ BD).mono ?_
           rintro e w1' ⟨va, rfl, oa, q⟩
           have B1 := BD.trans (q.mono hzl)
           have k1 := KC.out _ B1
           have k1z := fun (o : Obj) => KC.out _ (B1.alloc (Nat.le_trans hzl B1.size) o)
           have OA := Lib.hid oa.reads
           clear oa q)
        | (go_at_call 46
           with_reducible refine (HTWA.out _ (hbz _)).mono ?_
           rintro e w1' ⟨va, rfl, oa, q⟩
           have B1 := (hbz _).trans (q.mono (Nat.le_trans hzl (hbz _).size))
           have RV := Lib.hid (rz.below q rz.lt)
           have HGL := Lib.hid hzl
           have k1 := KC.out _ B1
           have k1z := fun (o : Obj) => KC.out _ (B1.alloc (Nat.le_trans hzl B1.size) o)
           have OA := Lib.hid oa.reads
           clear oa q)
        | (go_at_call 62
           with_reducible refine (HTWB.out _ B1).mono ?_
           rintro e w2' ⟨vb, rfl, ob, q⟩
           have B2 := B1.trans (q.mono (Nat.le_trans hzl B1.size))
           have OA2 := Lib.hid (show FxIn w2' w2'.heap.size va FA from FlIn.wide (OA.out.same (sm q 0 (Nat.le_refl _))) (Nat.le_refl _) q.size)
           try (have RV' := Lib.hid (RV.out.below q RV.out.lt); clear RV; have RV := RV'; clear RV')
           have k2 := KC.out _ B2
           have k2z := fun (o : Obj) => KC.out _ (B2.alloc (Nat.le_trans hzl B2.size) o)
           have OB := Lib.hid ob.reads
           clear ob
           clear q)
        | (go_at_call 62
           with_reducible refine (HTWB.out _ (B1.alloc (Nat.le_trans hzl B1.size) _)).mono ?_
           rintro e w2' ⟨vb, rfl, ob, q⟩
           have bz1 := (Below.refl w1'.heap.size w1').alloc (Nat.le_refl _) (.cells #[.int .i64 0, .int .i64 0, .int .i64 0, .slice none 0 0, .int .i64 0, .int .i64 0, .bool false, .int .i64 0] 67)
           have B2 := (B1.alloc (Nat.le_trans hzl B1.size) _).trans (q.mono (Nat.le_trans hzl (B1.alloc (Nat.le_trans hzl B1.size) _).size))
           have RV := Lib.hid ((Rw.new w1' 67 #[.int .i64 0, .int .i64 0, .int .i64 0, .slice none 0 0, .int .i64 0, .int .i64 0, .bool false, .int .i64 0]).below q (Rw.new w1' 67 #[.int .i64 0, .int .i64 0, .int .i64 0, .slice none 0 0, .int .i64 0, .int .i64 0, .bool false, .int .i64 0]).lt)
           have HGL := Lib.hid (Nat.le_trans hzl B1.size)
           have q2 := bz1.trans (q.mono bz1.size)
           have OA2 := Lib.hid (show FxIn w2' w2'.heap.size va FA from FlIn.wide (OA.out.same (sm q2 0 (Nat.le_refl _))) (Nat.le_refl _) q2.size)
           have k2 := KC.out _ B2
           have k2z := fun (o : Obj) => KC.out _ (B2.alloc (Nat.le_trans hzl B2.size) o)
           have OB := Lib.hid ob.reads
           clear ob
           clear q q2 bz1)
        | (go_at_call 64
           with_reducible refine (HS.out _ _ _ OA2.out (Nat.le_refl _) HSA.out _ _ OB.out (Nat.le_refl _) HSB.out).mono ?_
           rintro e w3' ⟨vg, rfl, og, q⟩
           have B3 := B2.trans (q.mono (Nat.le_trans hzl B2.size))
           have HLO := Lib.hid (Nat.le_trans hzl B2.size)
           try (have HGZ' := Lib.hid (And.intro (show z0 ≤ _ from HGL.out) RV.out.lt))
           try (have RV' := Lib.hid (RV.out.below q RV.out.lt); clear RV; have RV := RV'; clear RV')
           obtain ⟨x0, x1, x2, x3, x4, x5, x6, x7, x8, x9, rfl⟩ := og.agg8
           have k3 := KC.out _ B3
           have k3z := fun (o : Obj) => KC.out _ (B3.alloc (Nat.le_trans hzl B3.size) o)
           try (have hgz := HGZ'.out.1; have kS := KC.out _ (bset (bset (bset (bset (bset (bset (bset (bset B3 hgz (k := 0) (.int .i64 x0)) hgz (k := 1) (.int .i64 x1)) hgz (k := 2) (.int .i64 x2)) hgz (k := 3) (.slice x3 x4 x5)) hgz (k := 4) (.int .i64 x6)) hgz (k := 5) (.int .i64 x7)) hgz (k := 6) (.bool x8)) hgz (k := 7) (.int .i64 x9)); obtain ⟨dd0, dd1, dd2, dd3, dd4, dd5, dd6, dd7⟩ := RV.out.eight; obtain ⟨ff0, ff1, ff2, ff3, ff4, ff5, ff6, ff7⟩ := RV.out.frees)
           have OG := Lib.hid og
           clear og q)
        | (go_at_call 64
           with_reducible refine (HS.out _ _ _ ((OA2.out.same (sm ((Below.refl w2'.heap.size w2').alloc (Nat.le_refl _) (.cells #[.int .i64 0, .int .i64 0, .int .i64 0, .slice none 0 0, .int .i64 0, .int .i64 0, .bool false, .int .i64 0] 67)) 0 (Nat.le_refl _))).wid (by rw [World.size_alloc]; omega)) (Nat.le_refl _) HSA.out _ _ ((OB.out.same (sm ((Below.refl w2'.heap.size w2').alloc (Nat.le_refl _) (.cells #[.int .i64 0, .int .i64 0, .int .i64 0, .slice none 0 0, .int .i64 0, .int .i64 0, .bool false, .int .i64 0] 67)) 0 (Nat.le_refl _))).wide (by rw [World.size_alloc]; omega)) (Nat.le_refl _) HSB.out).mono ?_
           rintro e w3' ⟨vg, rfl, og, q⟩
           have bz2 := B2.alloc (Nat.le_trans hzl B2.size) (.cells #[.int .i64 0, .int .i64 0, .int .i64 0, .slice none 0 0, .int .i64 0, .int .i64 0, .bool false, .int .i64 0] 67)
           have B3 := bz2.trans (q.mono (Nat.le_trans hzl bz2.size))
           have HLO := Lib.hid (Nat.le_trans hzl bz2.size)
           have HGZ' := Lib.hid (And.intro (show z0 ≤ w2'.heap.size from Nat.le_trans hzl B2.size) (Rw.new w2' 67 #[.int .i64 0, .int .i64 0, .int .i64 0, .slice none 0 0, .int .i64 0, .int .i64 0, .bool false, .int .i64 0]).lt)
           have RV := Lib.hid ((Rw.new w2' 67 #[.int .i64 0, .int .i64 0, .int .i64 0, .slice none 0 0, .int .i64 0, .int .i64 0, .bool false, .int .i64 0]).below q (Rw.new w2' 67 #[.int .i64 0, .int .i64 0, .int .i64 0, .slice none 0 0, .int .i64 0, .int .i64 0, .bool false, .int .i64 0]).lt)
           obtain ⟨x0, x1, x2, x3, x4, x5, x6, x7, x8, x9, rfl⟩ := og.agg8
           have k3 := KC.out _ B3
           have k3z := fun (o : Obj) => KC.out _ (B3.alloc (Nat.le_trans hzl B3.size) o)
           try (have hgz := HGZ'.out.1; have kS := KC.out _ (bset (bset (bset (bset (bset (bset (bset (bset B3 hgz (k := 0) (.int .i64 x0)) hgz (k := 1) (.int .i64 x1)) hgz (k := 2) (.int .i64 x2)) hgz (k := 3) (.slice x3 x4 x5)) hgz (k := 4) (.int .i64 x6)) hgz (k := 5) (.int .i64 x7)) hgz (k := 6) (.bool x8)) hgz (k := 7) (.int .i64 x9)); obtain ⟨dd0, dd1, dd2, dd3, dd4, dd5, dd6, dd7⟩ := RV.out.eight; obtain ⟨ff0, ff1, ff2, ff3, ff4, ff5, ff6, ff7⟩ := RV.out.frees)
           have OG := Lib.hid og
           clear og q))
    all_goals (go_wp2_with fail; go_meet)
    · exact ⟨_, _, _, _, _, _, _, _, _, _, _, rfl, rfl, Lib.hid (B3.alloc (Nat.le_trans hzl B3.size) _), Lib.hid ⟨Nat.le_trans hzl B3.size, Rw.new w3' _ _⟩, Lib.hid ((OG.out.same (sm ((Below.refl w3'.heap.size w3').alloc (Nat.le_refl _) _) _ (Nat.le_refl _))).wid HLO.out (by rw [World.size_alloc]; omega))⟩
    all_goals
      have hgz := HGZ'.out.1
      have hgy := HGZ'.out.2
      refine ⟨_, x0, x1, x2, x3, x4, x5, x6, x7, x8, x9, rfl, rfl, ?_, ?_, ?_⟩
      · refine Lib.hid ?_
        repeat refine bset ?_ hgz _
        exact B3
      · refine Lib.hid ⟨hgz, ?_⟩
        exact ((((((((RV.out.set_ 0 (.int .i64 x0)).set_ 1 (.int .i64 x1)).set_ 2 (.int .i64 x2)).set_ 3 (.slice x3 x4 x5)).set_ 4 (.int .i64 x6)).set_ 5 (.int .i64 x7)).set_ 6 (.bool x8)).set_ 7 (.int .i64 x9))
      · refine Lib.hid ?_
        refine (OG.out.same ?_).wid HLO.out (by simp)
        repeat refine sset ?_ (.inl hgy) _
        exact Same.refl _ _ _
  obtain ⟨gs, x0, x1, x2, x3, x4, x5, x6, x7, x8, x9, rfl, rfl, BW0, RS0, OS0⟩ := hcut
  obtain ⟨w3, hwn⟩ := nameW (P := fun W => Hid (Below z0 w2 W)) BW0
  subst hwn
  have b := BW0.out
  rw [HZ0.out] at b
  have s3 := b.size
  clear HTWA HTWB KC hb0 BD hbz rz kA kZ BW0 hzl
  have AA' := Lib.hid (AA.out.same (sm b _ (by omega)))
  clear AA
  have AA := AA'
  clear AA'
  have AB' := Lib.hid (AB.out.same (sm b _ (by omega)))
  clear AB
  have AB := AB'
  clear AB'
  have RA := Lib.hid (RA.out.below b (by omega))
  have RB := Lib.hid (RB.out.below b (by omega))
  have BB' := Lib.hid (BB.out.trans (b.mono (by omega)))
  clear BB b
  have BB := BB'
  clear BB'
  have S := Lib.hid (show FxOwn w3 w2.heap.size w3.heap.size (.agg #[.int .i64 x0, .int .i64 x1, .int .i64 x2, .slice x3 x4 x5, .int .i64 x6, .int .i64 x7, .bool x8, .int .i64 x9]) G0 from by have := OS0.out; rwa [HZ0.out] at this)
  have RS := Lib.hid RS0.out.2
  have hgsS := RS0.out.2.lt
  clear OS0 RS0 HZ0
  obtain ⟨q00, q01, q02, q03, q04, q05, q06, q07⟩ := RA.out.eight
  go_wp2_with fail
  refine (HTA.out _ AA.out (by omega) HSA.out).mono ?_
  rintro e w4 ⟨vxa, rfl, ho, b⟩
  clear q00 q01 q02 q03 q04 q05 q06 q07
  have s4 := b.size
  have AA' := Lib.hid (AA.out.same (sm b _ (by omega)))
  clear AA
  have AA := AA'
  clear AA'
  have AB' := Lib.hid (AB.out.same (sm b _ (by omega)))
  clear AB
  have AB := AB'
  clear AB'
  have S' := Lib.hid (S.out.same (sm b _ (by omega)))
  clear S
  have S := S'
  clear S'
  have RA := Lib.hid (RA.out.below b (by omega))
  have RB := Lib.hid (RB.out.below b (by omega))
  have RS := Lib.hid (RS.out.below b (by omega))
  have BB' := Lib.hid (BB.out.trans (b.mono (by omega)))
  clear BB b
  have BB := BB'
  clear BB'
  obtain ⟨vxa0, vxa1, vxa2, vxa3, vxa4, vxa5, vxa6, vxa7, vxa8, vxa9, rfl⟩ := ho.agg8
  have XA := Lib.hid ho
  clear ho
  have AL := Lib.hid ((Below.refl w4.heap.size w4).alloc (Nat.le_refl _) (.cells #[.int .i64 vxa0, .int .i64 vxa1, .int .i64 vxa2, .slice vxa3 vxa4 vxa5, .int .i64 vxa6, .int .i64 vxa7, .bool vxa8, .int .i64 vxa9] 67))
  have hz : (w4.alloc (.cells #[.int .i64 vxa0, .int .i64 vxa1, .int .i64 vxa2, .slice vxa3 vxa4 vxa5, .int .i64 vxa6, .int .i64 vxa7, .bool vxa8, .int .i64 vxa9] 67)).heap.size = w4.heap.size + 1 := by simp
  have RXA := Lib.hid (Rw.new w4 67 #[.int .i64 vxa0, .int .i64 vxa1, .int .i64 vxa2, .slice vxa3 vxa4 vxa5, .int .i64 vxa6, .int .i64 vxa7, .bool vxa8, .int .i64 vxa9])
  obtain ⟨q00, q01, q02, q03, q04, q05⟩ := (Lib.hid (Rw.below RB.out AL.out (by omega))).out.six
  go_wp2_with fail
  refine (HTB.out _ (AB.out.same (sm AL.out _ (by omega))) (by omega) HSB.out).mono ?_
  rintro e w5 ⟨vxb, rfl, ho, b⟩
  clear q00 q01 q02 q03 q04 q05
  have s5 := b.size
  rw [hz] at ho
  rw [hz] at s5
  have b0 := b
  have b := AL.out.trans (b0.mono (by omega))
  have RXA := Lib.hid (RXA.out.below b0 (by omega))
  clear b0
  have AA' := Lib.hid (AA.out.same (sm b _ (by omega)))
  clear AA
  have AA := AA'
  clear AA'
  have AB' := Lib.hid (AB.out.same (sm b _ (by omega)))
  clear AB
  have AB := AB'
  clear AB'
  have S' := Lib.hid (S.out.same (sm b _ (by omega)))
  clear S
  have S := S'
  clear S'
  have XA' := Lib.hid (XA.out.same (sm b _ (by omega)))
  clear XA
  have XA := XA'
  clear XA'
  have RA := Lib.hid (RA.out.below b (by omega))
  have RB := Lib.hid (RB.out.below b (by omega))
  have RS := Lib.hid (RS.out.below b (by omega))
  have BB' := Lib.hid (BB.out.trans (b.mono (by omega)))
  clear BB b
  have BB := BB'
  clear BB'
  clear AL hz
  obtain ⟨vxb0, vxb1, vxb2, vxb3, vxb4, vxb5, vxb6, vxb7, vxb8, vxb9, rfl⟩ := ho.agg6
  have XB := Lib.hid ho
  clear ho
  have AL := Lib.hid ((Below.refl w5.heap.size w5).alloc (Nat.le_refl _) (.cells #[.int .i64 vxb0, .int .i64 vxb1, .int .i64 vxb2, .int .i64 vxb3, .slice vxb4 vxb5 vxb6, .slice vxb7 vxb8 vxb9] 75))
  have hz : (w5.alloc (.cells #[.int .i64 vxb0, .int .i64 vxb1, .int .i64 vxb2, .int .i64 vxb3, .slice vxb4 vxb5 vxb6, .slice vxb7 vxb8 vxb9] 75)).heap.size = w5.heap.size + 1 := by simp
  have RXB := Lib.hid (Rw.new w5 75 #[.int .i64 vxb0, .int .i64 vxb1, .int .i64 vxb2, .int .i64 vxb3, .slice vxb4 vxb5 vxb6, .slice vxb7 vxb8 vxb9])
  obtain ⟨q00, q01, q02, q03, q04, q05, q06, q07⟩ := (Lib.hid (Rw.below RXA.out AL.out (by omega))).out.eight
  go_wp2_with fail
  refine (HI.out _ _ _ (XA.out.same (sm AL.out _ (by omega))).reads (by omega) HSA.out _ _ (XB.out.same (sm AL.out _ (by omega))).reads (by omega) HSB.out).mono ?_
  rintro e w6 ⟨vg, rfl, ho, b⟩
  clear q00 q01 q02 q03 q04 q05 q06 q07
  have s6 := b.size
  rw [hz] at ho
  rw [hz] at s6
  have b0 := b
  have b := AL.out.trans (b0.mono (by omega))
  have RXB := Lib.hid (RXB.out.below b0 (by omega))
  clear b0
  have AA' := Lib.hid (AA.out.same (sm b _ (by omega)))
  clear AA
  have AA := AA'
  clear AA'
  have AB' := Lib.hid (AB.out.same (sm b _ (by omega)))
  clear AB
  have AB := AB'
  clear AB'
  have S' := Lib.hid (S.out.same (sm b _ (by omega)))
  clear S
  have S := S'
  clear S'
  have XA' := Lib.hid (XA.out.same (sm b _ (by omega)))
  clear XA
  have XA := XA'
  clear XA'
  have XB' := Lib.hid (XB.out.same (sm b _ (by omega)))
  clear XB
  have XB := XB'
  clear XB'
  have RA := Lib.hid (RA.out.below b (by omega))
  have RB := Lib.hid (RB.out.below b (by omega))
  have RS := Lib.hid (RS.out.below b (by omega))
  have RXA := Lib.hid (RXA.out.below b (by omega))
  have BB' := Lib.hid (BB.out.trans (b.mono (by omega)))
  clear BB b
  have BB := BB'
  clear BB'
  clear AL hz
  obtain ⟨vg0, vg1, vg2, vg3, vg4, vg5, vg6, vg7, vg8, vg9, rfl⟩ := ho.agg8
  have G := Lib.hid ho
  clear ho
  have AL := Lib.hid ((Below.refl w6.heap.size w6).alloc (Nat.le_refl _) (.cells #[.int .i64 vg0, .int .i64 vg1, .int .i64 vg2, .slice vg3 vg4 vg5, .int .i64 vg6, .int .i64 vg7, .bool vg8, .int .i64 vg9] 67))
  have hz : (w6.alloc (.cells #[.int .i64 vg0, .int .i64 vg1, .int .i64 vg2, .slice vg3 vg4 vg5, .int .i64 vg6, .int .i64 vg7, .bool vg8, .int .i64 vg9] 67)).heap.size = w6.heap.size + 1 := by simp
  have RG := Lib.hid (Rw.new w6 67 #[.int .i64 vg0, .int .i64 vg1, .int .i64 vg2, .slice vg3 vg4 vg5, .int .i64 vg6, .int .i64 vg7, .bool vg8, .int .i64 vg9])
  obtain ⟨q10, q11, q12, q13, q14, q15, q16, q17⟩ := (Lib.hid (Rw.below RS.out AL.out (by omega))).out.eight
  go_wp2_with fail
  refine (eqFx_any _ _ _ _ _ _ (G.out.same (sm AL.out _ (by omega))).reads (S.out.same (sm AL.out _ (by omega))).reads (by omega) (by omega) HSG.out).mono ?_
  rintro e w7 ⟨rfl, b⟩
  clear q10 q11 q12 q13 q14 q15 q16 q17
  have s7 := b.size
  rw [hz] at s7
  have b0 := b
  have b := AL.out.trans (b0.mono (by omega))
  have RG := Lib.hid (RG.out.below b0 (by omega))
  clear b0
  have AA' := Lib.hid (AA.out.same (sm b _ (by omega)))
  clear AA
  have AA := AA'
  clear AA'
  have AB' := Lib.hid (AB.out.same (sm b _ (by omega)))
  clear AB
  have AB := AB'
  clear AB'
  have S' := Lib.hid (S.out.same (sm b _ (by omega)))
  clear S
  have S := S'
  clear S'
  have XA' := Lib.hid (XA.out.same (sm b _ (by omega)))
  clear XA
  have XA := XA'
  clear XA'
  have XB' := Lib.hid (XB.out.same (sm b _ (by omega)))
  clear XB
  have XB := XB'
  clear XB'
  have G' := Lib.hid (G.out.same (sm b _ (by omega)))
  clear G
  have G := G'
  clear G'
  have RA := Lib.hid (RA.out.below b (by omega))
  have RB := Lib.hid (RB.out.below b (by omega))
  have RS := Lib.hid (RS.out.below b (by omega))
  have RXA := Lib.hid (RXA.out.below b (by omega))
  have RXB := Lib.hid (RXB.out.below b (by omega))
  have BB' := Lib.hid (BB.out.trans (b.mono (by omega)))
  clear BB b
  have BB := BB'
  clear BB'
  clear AL hz
  go_wp2_with fail
  refine wp_region_held_drew (S := fun W => Rw W _ 67 #[.int .i64 vxa0, .int .i64 vxa1, .int .i64 vxa2, .slice vxa3 vxa4 vxa5, .int .i64 vxa6, .int .i64 vxa7, .bool vxa8, .int .i64 vxa9] ∧ Rw W _ 62 #[cA0, cA1, cA2, cA3, cA4, cA5, cA6, cA7]) (by kernel_rfl) ⟨show Rw w7.drew _ _ _ from RXA.out, show Rw w7.drew _ _ _ from RA.out⟩ (fun hHeld => ?_)
  refine wpAnyH_take (i := 0) (oi := _) (v := .agg #[.int .i64 vxa0, .int .i64 vxa1, .int .i64 vxa2, .slice vxa3 vxa4 vxa5, .int .i64 vxa6, .int .i64 vxa7, .bool vxa8, .int .i64 vxa9]) rfl (by kernel_rfl) (by kernel_rfl) (by kernel_rfl) (fun _ _ _ h => h) (Or.inl ⟨by rfl, fun W hSw => by
    obtain ⟨q0, q1, q2, q3, q4, q5, q6, q7⟩ := hSw.1.eight
    go_simp⟩) hHeld ?_
  refine wpAnyH_take (i := 1) (oi := _) (v := .agg #[cA0, cA1, cA2, cA3, cA4, cA5, cA6, cA7]) rfl (by kernel_rfl) (by kernel_rfl) (by kernel_rfl) (fun _ _ _ h => h) (Or.inl ⟨by rfl, fun W hSw => by
    obtain ⟨q0, q1, q2, q3, q4, q5, q6, q7⟩ := hSw.2.eight
    go_simp⟩) hHeld ?_
  refine wpAnyH_ready (rs := [2]) (by kernel_rfl) (by simp) ?_
  refine AllReadyH.cons (o := _) rfl (fun K hK => ?_) AllReadyH.nil
  go_simp
  refine (HTA.out w7.drew (show FxIn w7.drew _ _ _ from AA.out) (by simp; omega) HSA.out).mono ?_
  rintro e w8 ⟨vy, rfl, ho, b0⟩
  have b := (Below.refl w7.heap.size w7).drew.trans b0
  have hr1 := RXA.out.below b (by omega)
  have hr2 := RA.out.below b (by omega)
  refine hK.out _ _ ⟨hr1, hr2⟩ (fun hHeld => ?_)
  clear hK K hr1 hr2 b0 hHeld
  have s8 := b.size
  have AA' := Lib.hid (AA.out.same (sm b _ (by omega)))
  clear AA
  have AA := AA'
  clear AA'
  have AB' := Lib.hid (AB.out.same (sm b _ (by omega)))
  clear AB
  have AB := AB'
  clear AB'
  have S' := Lib.hid (S.out.same (sm b _ (by omega)))
  clear S
  have S := S'
  clear S'
  have XA' := Lib.hid (XA.out.same (sm b _ (by omega)))
  clear XA
  have XA := XA'
  clear XA'
  have XB' := Lib.hid (XB.out.same (sm b _ (by omega)))
  clear XB
  have XB := XB'
  clear XB'
  have G' := Lib.hid (G.out.same (sm b _ (by omega)))
  clear G
  have G := G'
  clear G'
  have RA := Lib.hid (RA.out.below b (by omega))
  have RB := Lib.hid (RB.out.below b (by omega))
  have RS := Lib.hid (RS.out.below b (by omega))
  have RXA := Lib.hid (RXA.out.below b (by omega))
  have RXB := Lib.hid (RXB.out.below b (by omega))
  have RG := Lib.hid (RG.out.below b (by omega))
  have BB' := Lib.hid (BB.out.trans (b.mono (by omega)))
  clear BB b
  have BB := BB'
  clear BB'
  have Y := Lib.hid ho
  clear ho
  refine wpAnyH_ready (rs := [3]) (by kernel_rfl) (by simp) ?_
  refine AllReadyH.cons (o := _) rfl (fun K hK => ?_) AllReadyH.nil
  go_simp
  refine (eqFx_any _ _ _ w8 _ _ XA.out.reads Y.out.reads (by omega) (by omega) HSA.out).mono ?_
  rintro e w9 ⟨rfl, b⟩
  have hr1 := RXA.out.below b (by omega)
  have hr2 := RA.out.below b (by omega)
  refine hK.out _ _ ⟨hr1, hr2⟩ (fun hHeld => ?_)
  clear hK K hr1 hr2
  clear Y
  have s9 := b.size
  have AA' := Lib.hid (AA.out.same (sm b _ (by omega)))
  clear AA
  have AA := AA'
  clear AA'
  have AB' := Lib.hid (AB.out.same (sm b _ (by omega)))
  clear AB
  have AB := AB'
  clear AB'
  have S' := Lib.hid (S.out.same (sm b _ (by omega)))
  clear S
  have S := S'
  clear S'
  have XA' := Lib.hid (XA.out.same (sm b _ (by omega)))
  clear XA
  have XA := XA'
  clear XA'
  have XB' := Lib.hid (XB.out.same (sm b _ (by omega)))
  clear XB
  have XB := XB'
  clear XB'
  have G' := Lib.hid (G.out.same (sm b _ (by omega)))
  clear G
  have G := G'
  clear G'
  have RA := Lib.hid (RA.out.below b (by omega))
  have RB := Lib.hid (RB.out.below b (by omega))
  have RS := Lib.hid (RS.out.below b (by omega))
  have RXA := Lib.hid (RXA.out.below b (by omega))
  have RXB := Lib.hid (RXB.out.below b (by omega))
  have RG := Lib.hid (RG.out.below b (by omega))
  have BB' := Lib.hid (BB.out.trans (b.mono (by omega)))
  clear BB b
  have BB := BB'
  clear BB'
  refine wpAnyH_ready (rs := [4]) (by kernel_rfl) (by simp) ?_
  refine AllReadyH.cons (o := _) rfl (fun K hK => ?_) AllReadyH.nil
  go_simp
  refine hK.out _ _ ⟨RXA.out, RA.out⟩ (fun hHeld => ?_)
  clear hK K
  refine wpAnyH_done (by kernel_rfl) ?_ _
  clear hHeld
  go_wp2_with fail
  refine wp_region_held_drew (S := fun W => Rw W _ 75 #[.int .i64 vxb0, .int .i64 vxb1, .int .i64 vxb2, .int .i64 vxb3, .slice vxb4 vxb5 vxb6, .slice vxb7 vxb8 vxb9] ∧ Rw W _ 85 #[cB0, cB1, cB2, cB3, cB4, cB5]) (by kernel_rfl) ⟨show Rw w9.drew _ _ _ from RXB.out, show Rw w9.drew _ _ _ from RB.out⟩ (fun hHeld => ?_)
  refine wpAnyH_take (i := 0) (oi := _) (v := .agg #[.int .i64 vxb0, .int .i64 vxb1, .int .i64 vxb2, .int .i64 vxb3, .slice vxb4 vxb5 vxb6, .slice vxb7 vxb8 vxb9]) rfl (by kernel_rfl) (by kernel_rfl) (by kernel_rfl) (fun _ _ _ h => h) (Or.inl ⟨by rfl, fun W hSw => by
    obtain ⟨q0, q1, q2, q3, q4, q5⟩ := hSw.1.six
    go_simp⟩) hHeld ?_
  refine wpAnyH_take (i := 1) (oi := _) (v := .agg #[cB0, cB1, cB2, cB3, cB4, cB5]) rfl (by kernel_rfl) (by kernel_rfl) (by kernel_rfl) (fun _ _ _ h => h) (Or.inl ⟨by rfl, fun W hSw => by
    obtain ⟨q0, q1, q2, q3, q4, q5⟩ := hSw.2.six
    go_simp⟩) hHeld ?_
  refine wpAnyH_ready (rs := [2]) (by kernel_rfl) (by simp) ?_
  refine AllReadyH.cons (o := _) rfl (fun K hK => ?_) AllReadyH.nil
  go_simp
  refine (HTB.out w9.drew (show TbIn w9.drew _ _ _ from AB.out) (by simp; omega) HSB.out).mono ?_
  rintro e w10 ⟨vy, rfl, ho, b0⟩
  have b := (Below.refl w9.heap.size w9).drew.trans b0
  have hr1 := RXB.out.below b (by omega)
  have hr2 := RB.out.below b (by omega)
  refine hK.out _ _ ⟨hr1, hr2⟩ (fun hHeld => ?_)
  clear hK K hr1 hr2 b0 hHeld
  have s10 := b.size
  have AA' := Lib.hid (AA.out.same (sm b _ (by omega)))
  clear AA
  have AA := AA'
  clear AA'
  have AB' := Lib.hid (AB.out.same (sm b _ (by omega)))
  clear AB
  have AB := AB'
  clear AB'
  have S' := Lib.hid (S.out.same (sm b _ (by omega)))
  clear S
  have S := S'
  clear S'
  have XA' := Lib.hid (XA.out.same (sm b _ (by omega)))
  clear XA
  have XA := XA'
  clear XA'
  have XB' := Lib.hid (XB.out.same (sm b _ (by omega)))
  clear XB
  have XB := XB'
  clear XB'
  have G' := Lib.hid (G.out.same (sm b _ (by omega)))
  clear G
  have G := G'
  clear G'
  have RA := Lib.hid (RA.out.below b (by omega))
  have RB := Lib.hid (RB.out.below b (by omega))
  have RS := Lib.hid (RS.out.below b (by omega))
  have RXA := Lib.hid (RXA.out.below b (by omega))
  have RXB := Lib.hid (RXB.out.below b (by omega))
  have RG := Lib.hid (RG.out.below b (by omega))
  have BB' := Lib.hid (BB.out.trans (b.mono (by omega)))
  clear BB b
  have BB := BB'
  clear BB'
  have Y := Lib.hid ho
  clear ho
  refine wpAnyH_ready (rs := [3]) (by kernel_rfl) (by simp) ?_
  refine AllReadyH.cons (o := _) rfl (fun K hK => ?_) AllReadyH.nil
  go_simp
  refine (eqTb_any _ _ _ w10 _ _ XB.out.reads Y.out.reads (by omega) (by omega) HSB.out).mono ?_
  rintro e w11 ⟨rfl, b⟩
  have hr1 := RXB.out.below b (by omega)
  have hr2 := RB.out.below b (by omega)
  refine hK.out _ _ ⟨hr1, hr2⟩ (fun hHeld => ?_)
  clear hK K hr1 hr2
  clear Y
  have s11 := b.size
  have AA' := Lib.hid (AA.out.same (sm b _ (by omega)))
  clear AA
  have AA := AA'
  clear AA'
  have AB' := Lib.hid (AB.out.same (sm b _ (by omega)))
  clear AB
  have AB := AB'
  clear AB'
  have S' := Lib.hid (S.out.same (sm b _ (by omega)))
  clear S
  have S := S'
  clear S'
  have XA' := Lib.hid (XA.out.same (sm b _ (by omega)))
  clear XA
  have XA := XA'
  clear XA'
  have XB' := Lib.hid (XB.out.same (sm b _ (by omega)))
  clear XB
  have XB := XB'
  clear XB'
  have G' := Lib.hid (G.out.same (sm b _ (by omega)))
  clear G
  have G := G'
  clear G'
  have RA := Lib.hid (RA.out.below b (by omega))
  have RB := Lib.hid (RB.out.below b (by omega))
  have RS := Lib.hid (RS.out.below b (by omega))
  have RXA := Lib.hid (RXA.out.below b (by omega))
  have RXB := Lib.hid (RXB.out.below b (by omega))
  have RG := Lib.hid (RG.out.below b (by omega))
  have BB' := Lib.hid (BB.out.trans (b.mono (by omega)))
  clear BB b
  have BB := BB'
  clear BB'
  refine wpAnyH_ready (rs := [4]) (by kernel_rfl) (by simp) ?_
  refine AllReadyH.cons (o := _) rfl (fun K hK => ?_) AllReadyH.nil
  go_simp
  refine hK.out _ _ ⟨RXB.out, RB.out⟩ (fun hHeld => ?_)
  clear hK K
  refine wpAnyH_done (by kernel_rfl) ?_ _
  clear hHeld
  obtain ⟨q00, q01, q02, q03, q04, q05, q06, q07⟩ := RXA.out.eight
  go_wp2_with fail
  refine (mkFx_any _ _ 1 _ _ _ XA.out (by omega) (by omega) HSA.out (by omega)).mono ?_
  rintro e w12 ⟨rfl, _, kp⟩
  clear q00 q01 q02 q03 q04 q05 q06 q07
  have s12 := kp.size
  have AA' := Lib.hid (AA.out.same (sm kp.1 _ (by omega)))
  clear AA
  have AA := AA'
  clear AA'
  have AB' := Lib.hid (AB.out.same (sm kp.1 _ (by omega)))
  clear AB
  have AB := AB'
  clear AB'
  have S' := Lib.hid (S.out.same (sm kp.1 _ (by omega)))
  clear S
  have S := S'
  clear S'
  have XB' := Lib.hid (XB.out.same (kp.2.mono (by omega) (by omega)))
  clear XB
  have XB := XB'
  clear XB'
  have G' := Lib.hid (G.out.same (kp.2.mono (by omega) (by omega)))
  clear G
  have G := G'
  clear G'
  have RA := Lib.hid (RA.out.below kp.1 (by omega))
  have RB := Lib.hid (RB.out.below kp.1 (by omega))
  have RS := Lib.hid (RS.out.below kp.1 (by omega))
  have RXA : Hid (Rw _ _ _ _) := Lib.hid ((kp.2 _ (by omega) (by have := RXA.out.lt; omega)).trans RXA.out)
  have RXB : Hid (Rw _ _ _ _) := Lib.hid ((kp.2 _ (by omega) (by have := RXB.out.lt; omega)).trans RXB.out)
  have RG : Hid (Rw _ _ _ _) := Lib.hid ((kp.2 _ (by omega) (by have := RG.out.lt; omega)).trans RG.out)
  have BB' := Lib.hid (BB.out.trans (kp.1.mono (by omega)))
  clear BB kp
  have BB := BB'
  clear BB'
  clear XA
  obtain ⟨nk1, hnk1⟩ : ∃ q : Nat, q = 1 + nFx FA := ⟨_, rfl⟩
  rw [← hnk1]
  have hnl1 : nk1 ≤ 3145730 := by have := HSA.out; unfold FxSz at this; unfold nFx at hnk1; have h2 := markN_sz FA.bs; omega
  have hnn1 : ¬ ((nk1 : Nat) : Int) < 0 := by omega
  have hnu1 : ((nk1 : Nat) : Int) ≤ 3145730 := by omega
  clear hnk1
  obtain ⟨q00, q01, q02, q03, q04, q05⟩ := RXB.out.six
  go_wp2_with fail
  refine (mkTb_any _ _ nk1 _ _ _ XB.out (by omega) (by omega) HSB.out (by omega)).mono ?_
  rintro e w13 ⟨rfl, _, kp⟩
  clear q00 q01 q02 q03 q04 q05
  have s13 := kp.size
  have AA' := Lib.hid (AA.out.same (sm kp.1 _ (by omega)))
  clear AA
  have AA := AA'
  clear AA'
  have AB' := Lib.hid (AB.out.same (sm kp.1 _ (by omega)))
  clear AB
  have AB := AB'
  clear AB'
  have S' := Lib.hid (S.out.same (sm kp.1 _ (by omega)))
  clear S
  have S := S'
  clear S'
  have G' := Lib.hid (G.out.same (kp.2.mono (by omega) (by omega)))
  clear G
  have G := G'
  clear G'
  have RA := Lib.hid (RA.out.below kp.1 (by omega))
  have RB := Lib.hid (RB.out.below kp.1 (by omega))
  have RS := Lib.hid (RS.out.below kp.1 (by omega))
  have RXA := Lib.hid (RXA.out.below kp.1 (by omega))
  have RXB : Hid (Rw _ _ _ _) := Lib.hid ((kp.2 _ (by omega) (by have := RXB.out.lt; omega)).trans RXB.out)
  have RG : Hid (Rw _ _ _ _) := Lib.hid ((kp.2 _ (by omega) (by have := RG.out.lt; omega)).trans RG.out)
  have BB' := Lib.hid (BB.out.trans (kp.1.mono (by omega)))
  clear BB kp
  have BB := BB'
  clear BB'
  clear XB
  obtain ⟨nk2, hnk2⟩ : ∃ q : Nat, q = nk1 + nTb FB := ⟨_, rfl⟩
  rw [← hnk2]
  have hnl2 : nk2 ≤ 4194307 := by have := HSB.out; unfold TbSz at this; unfold nTb at hnk2; omega
  have hnn2 : ¬ ((nk2 : Nat) : Int) < 0 := by omega
  have hnu2 : ((nk2 : Nat) : Int) ≤ 4194307 := by omega
  clear hnk2
  obtain ⟨q00, q01, q02, q03, q04, q05, q06, q07⟩ := RG.out.eight
  obtain ⟨q10, q11, q12, q13, q14, q15, q16, q17⟩ := RS.out.eight
  go_wp2_with fail
  refine (eqFx_any _ _ _ _ _ _ G.out.reads S.out.reads (by omega) (by omega) HSG.out).mono ?_
  rintro e w14 ⟨rfl, b⟩
  clear q00 q01 q02 q03 q04 q05 q06 q07 q10 q11 q12 q13 q14 q15 q16 q17
  have s14 := b.size
  have AA' := Lib.hid (AA.out.same (sm b _ (by omega)))
  clear AA
  have AA := AA'
  clear AA'
  have AB' := Lib.hid (AB.out.same (sm b _ (by omega)))
  clear AB
  have AB := AB'
  clear AB'
  have S' := Lib.hid (S.out.same (sm b _ (by omega)))
  clear S
  have S := S'
  clear S'
  have G' := Lib.hid (G.out.same (sm b _ (by omega)))
  clear G
  have G := G'
  clear G'
  have RA := Lib.hid (RA.out.below b (by omega))
  have RB := Lib.hid (RB.out.below b (by omega))
  have RS := Lib.hid (RS.out.below b (by omega))
  have RXA := Lib.hid (RXA.out.below b (by omega))
  have RXB := Lib.hid (RXB.out.below b (by omega))
  have RG := Lib.hid (RG.out.below b (by omega))
  have BB' := Lib.hid (BB.out.trans (b.mono (by omega)))
  clear BB b
  have BB := BB'
  clear BB'
  obtain ⟨q00, q01, q02, q03, q04, q05, q06, q07⟩ := RG.out.eight
  go_wp2_with fail
  refine (mkFx_any _ _ 1 _ _ _ G.out (by omega) (by omega) HSG.out (by omega)).mono ?_
  rintro e w15 ⟨rfl, ho, kp⟩
  clear q00 q01 q02 q03 q04 q05 q06 q07
  have M := Lib.hid ho
  clear G ho
  have s15 := kp.size
  have AA' := Lib.hid (AA.out.same (sm kp.1 _ (by omega)))
  clear AA
  have AA := AA'
  clear AA'
  have AB' := Lib.hid (AB.out.same (sm kp.1 _ (by omega)))
  clear AB
  have AB := AB'
  clear AB'
  have S' := Lib.hid (S.out.same (sm kp.1 _ (by omega)))
  clear S
  have S := S'
  clear S'
  have RA := Lib.hid (RA.out.below kp.1 (by omega))
  have RB := Lib.hid (RB.out.below kp.1 (by omega))
  have RS := Lib.hid (RS.out.below kp.1 (by omega))
  have RXA := Lib.hid (RXA.out.below kp.1 (by omega))
  have RXB := Lib.hid (RXB.out.below kp.1 (by omega))
  have RG : Hid (Rw _ _ _ _) := Lib.hid ((kp.2 _ (by omega) (by have := RG.out.lt; omega)).trans RG.out)
  have BB' := Lib.hid (BB.out.trans (kp.1.mono (by omega)))
  clear BB kp
  have BB := BB'
  clear BB'
  obtain ⟨ng, hng⟩ : ∃ q : Nat, q = 1 + nFx G0 := ⟨_, rfl⟩
  rw [← hng]
  have hnn : ¬ ((ng : Nat) : Int) < 0 := by omega
  have hne : (((ng : Nat) : Int) != ((ng : Nat) : Int)) = false := by simp
  have HNG := Lib.hid hng
  clear hng
  obtain ⟨q00, q01, q02, q03, q04, q05, q06, q07⟩ := RG.out.eight
  go_wp2_with fail
  refine (show Calls _ _ _ _ (fun e w' => e = .returned (.int .i64 ((ng : Nat) : Int)) ∧ Below _ _ w') from (by rw [HNG.out]; exact hdFx_any _ _ 1 _ _ M.out.reads (by omega) HSG.out (by omega))).mono ?_
  rintro e w16 ⟨rfl, b⟩
  clear q00 q01 q02 q03 q04 q05 q06 q07
  have s16 := b.size
  have AA' := Lib.hid (AA.out.same (sm b _ (by omega)))
  clear AA
  have AA := AA'
  clear AA'
  have AB' := Lib.hid (AB.out.same (sm b _ (by omega)))
  clear AB
  have AB := AB'
  clear AB'
  have S' := Lib.hid (S.out.same (sm b _ (by omega)))
  clear S
  have S := S'
  clear S'
  have M' := Lib.hid (M.out.same (sm b _ (by omega)))
  clear M
  have M := M'
  clear M'
  have RA := Lib.hid (RA.out.below b (by omega))
  have RB := Lib.hid (RB.out.below b (by omega))
  have RS := Lib.hid (RS.out.below b (by omega))
  have RXA := Lib.hid (RXA.out.below b (by omega))
  have RXB := Lib.hid (RXB.out.below b (by omega))
  have RG := Lib.hid (RG.out.below b (by omega))
  have BB' := Lib.hid (BB.out.trans (b.mono (by omega)))
  clear BB b
  have BB := BB'
  clear BB'
  obtain ⟨z0, hz0⟩ : ∃ z, z = w16.heap.size := ⟨_, rfl⟩
  have HZ0 := Lib.hid hz0
  have hzl : z0 ≤ w16.heap.size := by omega
  have HTWA := Lib.hid (fun (W : World) (bw : Below z0 w16 W) => HTA.out W (AA.out.same (sm bw _ (by omega))) (by have := bw.size; omega) HSA.out)
  have HTWB := Lib.hid (fun (W : World) (bw : Below z0 w16 W) => HTB.out W (AB.out.same (sm bw _ (by omega))) (by have := bw.size; omega) HSB.out)
  have KC := Lib.hid (fun (W : World) (bw : Below z0 w16 W) => show (W.cell? ⟨w.heap.size, 0, none⟩ = some cA0 ∧ W.cell? ⟨w.heap.size, 1, none⟩ = some cA1 ∧ W.cell? ⟨w.heap.size, 2, none⟩ = some cA2 ∧ W.cell? ⟨w.heap.size, 3, none⟩ = some cA3 ∧ W.cell? ⟨w.heap.size, 4, none⟩ = some cA4 ∧ W.cell? ⟨w.heap.size, 5, none⟩ = some cA5 ∧ W.cell? ⟨w.heap.size, 6, none⟩ = some cA6 ∧ W.cell? ⟨w.heap.size, 7, none⟩ = some cA7) ∧ (W.cell? ⟨w.heap.size + 1, 0, none⟩ = some cB0 ∧ W.cell? ⟨w.heap.size + 1, 1, none⟩ = some cB1 ∧ W.cell? ⟨w.heap.size + 1, 2, none⟩ = some cB2 ∧ W.cell? ⟨w.heap.size + 1, 3, none⟩ = some cB3 ∧ W.cell? ⟨w.heap.size + 1, 4, none⟩ = some cB4 ∧ W.cell? ⟨w.heap.size + 1, 5, none⟩ = some cB5) from ⟨(RA.out.below bw (by have := RA.out.lt; omega)).eight, (RB.out.below bw (by have := RB.out.lt; omega)).six⟩)
  have hb0 : Below z0 w16 w16 := Below.refl _ _
  have BD := hb0.drew
  have hbz := fun (o : Obj) => (hb0.alloc hzl o).drew
  have rz := show Rw (w16.alloc (.cells #[.int .i64 0, .int .i64 0, .int .i64 0, .slice none 0 0, .int .i64 0, .int .i64 0, .bool false, .int .i64 0] 67)).drew w16.heap.size 67 #[.int .i64 0, .int .i64 0, .int .i64 0, .slice none 0 0, .int .i64 0, .int .i64 0, .bool false, .int .i64 0] from Rw.new w16 _ _
  have kA := KC.out _ BD
  have kZ := fun (o : Obj) => KC.out _ (hbz o)
  clear hz0
  go_wp2_with fail
  go_cut [15, 16] (fun p6 c7 w17 => ∃ (gs : Nat) (x0 x1 x2 : Int) (x3 : Option Addr) (x4 x5 : Nat) (x6 x7 : Int) (x8 : Bool) (x9 : Int), p6 = .pointer (some ⟨gs, 0, none⟩) ∧ c7 = .int .i64 cd ∧ Hid (Below z0 w16 w17) ∧ Hid (z0 ≤ gs ∧ Rw w17 gs 67 #[.int .i64 x0, .int .i64 x1, .int .i64 x2, .slice x3 x4 x5, .int .i64 x6, .int .i64 x7, .bool x8, .int .i64 x9]) ∧ Hid (FxOwn w17 z0 w17.heap.size (.agg #[.int .i64 x0, .int .i64 x1, .int .i64 x2, .slice x3 x4 x5, .int .i64 x6, .int .i64 x7, .bool x8, .int .i64 x9]) G0))
  case first =>
    go_region_held3 (fun W => (W.cell? ⟨w.heap.size, 0, none⟩ = some cA0 ∧ W.cell? ⟨w.heap.size, 1, none⟩ = some cA1 ∧ W.cell? ⟨w.heap.size, 2, none⟩ = some cA2 ∧ W.cell? ⟨w.heap.size, 3, none⟩ = some cA3 ∧ W.cell? ⟨w.heap.size, 4, none⟩ = some cA4 ∧ W.cell? ⟨w.heap.size, 5, none⟩ = some cA5 ∧ W.cell? ⟨w.heap.size, 6, none⟩ = some cA6 ∧ W.cell? ⟨w.heap.size, 7, none⟩ = some cA7) ∧ (W.cell? ⟨w.heap.size + 1, 0, none⟩ = some cB0 ∧ W.cell? ⟨w.heap.size + 1, 1, none⟩ = some cB1 ∧ W.cell? ⟨w.heap.size + 1, 2, none⟩ = some cB2 ∧ W.cell? ⟨w.heap.size + 1, 3, none⟩ = some cB3 ∧ W.cell? ⟨w.heap.size + 1, 4, none⟩ = some cB4 ∧ W.cell? ⟨w.heap.size + 1, 5, none⟩ = some cB5))
      (first
        | with_reducible exact kA
        | with_reducible exact kZ _
        | with_reducible exact k1
        | with_reducible exact k1z _
        | with_reducible exact k2
        | with_reducible exact k2z _
        | with_reducible exact k3
        | with_reducible exact k3z _
        | with_reducible exact kS)
      (first
        | (go_at_call 46
           with_reducible refine (HTWA.out _ BD).mono ?_
           rintro e w1' ⟨va, rfl, oa, q⟩
           have B1 := BD.trans (q.mono hzl)
           have k1 := KC.out _ B1
           have k1z := fun (o : Obj) => KC.out _ (B1.alloc (Nat.le_trans hzl B1.size) o)
           have OA := Lib.hid oa.reads
           clear oa q)
        | (go_at_call 46
           with_reducible refine (HTWA.out _ (hbz _)).mono ?_
           rintro e w1' ⟨va, rfl, oa, q⟩
           have B1 := (hbz _).trans (q.mono (Nat.le_trans hzl (hbz _).size))
           have RV := Lib.hid (rz.below q rz.lt)
           have HGL := Lib.hid hzl
           have k1 := KC.out _ B1
           have k1z := fun (o : Obj) => KC.out _ (B1.alloc (Nat.le_trans hzl B1.size) o)
           have OA := Lib.hid oa.reads
           clear oa q)
        | (go_at_call 62
           with_reducible refine (HTWB.out _ B1).mono ?_
           rintro e w2' ⟨vb, rfl, ob, q⟩
           have B2 := B1.trans (q.mono (Nat.le_trans hzl B1.size))
           have OA2 := Lib.hid (show FxIn w2' w2'.heap.size va FA from FlIn.wide (OA.out.same (sm q 0 (Nat.le_refl _))) (Nat.le_refl _) q.size)
           try (have RV' := Lib.hid (RV.out.below q RV.out.lt); clear RV; have RV := RV'; clear RV')
           have k2 := KC.out _ B2
           have k2z := fun (o : Obj) => KC.out _ (B2.alloc (Nat.le_trans hzl B2.size) o)
           have OB := Lib.hid ob.reads
           clear ob
           clear q)
        | (go_at_call 62
           with_reducible refine (HTWB.out _ (B1.alloc (Nat.le_trans hzl B1.size) _)).mono ?_
           rintro e w2' ⟨vb, rfl, ob, q⟩
           have bz1 := (Below.refl w1'.heap.size w1').alloc (Nat.le_refl _) (.cells #[.int .i64 0, .int .i64 0, .int .i64 0, .slice none 0 0, .int .i64 0, .int .i64 0, .bool false, .int .i64 0] 67)
           have B2 := (B1.alloc (Nat.le_trans hzl B1.size) _).trans (q.mono (Nat.le_trans hzl (B1.alloc (Nat.le_trans hzl B1.size) _).size))
           have RV := Lib.hid ((Rw.new w1' 67 #[.int .i64 0, .int .i64 0, .int .i64 0, .slice none 0 0, .int .i64 0, .int .i64 0, .bool false, .int .i64 0]).below q (Rw.new w1' 67 #[.int .i64 0, .int .i64 0, .int .i64 0, .slice none 0 0, .int .i64 0, .int .i64 0, .bool false, .int .i64 0]).lt)
           have HGL := Lib.hid (Nat.le_trans hzl B1.size)
           have q2 := bz1.trans (q.mono bz1.size)
           have OA2 := Lib.hid (show FxIn w2' w2'.heap.size va FA from FlIn.wide (OA.out.same (sm q2 0 (Nat.le_refl _))) (Nat.le_refl _) q2.size)
           have k2 := KC.out _ B2
           have k2z := fun (o : Obj) => KC.out _ (B2.alloc (Nat.le_trans hzl B2.size) o)
           have OB := Lib.hid ob.reads
           clear ob
           clear q q2 bz1)
        | (go_at_call 65
           with_reducible refine (HI.out _ _ _ OA2.out (Nat.le_refl _) HSA.out _ _ OB.out (Nat.le_refl _) HSB.out).mono ?_
           rintro e w3' ⟨vg, rfl, og, q⟩
           have B3 := B2.trans (q.mono (Nat.le_trans hzl B2.size))
           have HLO := Lib.hid (Nat.le_trans hzl B2.size)
           try (have HGZ' := Lib.hid (And.intro (show z0 ≤ _ from HGL.out) RV.out.lt))
           try (have RV' := Lib.hid (RV.out.below q RV.out.lt); clear RV; have RV := RV'; clear RV')
           obtain ⟨x0, x1, x2, x3, x4, x5, x6, x7, x8, x9, rfl⟩ := og.agg8
           have k3 := KC.out _ B3
           have k3z := fun (o : Obj) => KC.out _ (B3.alloc (Nat.le_trans hzl B3.size) o)
           try (have hgz := HGZ'.out.1; have kS := KC.out _ (bset (bset (bset (bset (bset (bset (bset (bset B3 hgz (k := 0) (.int .i64 x0)) hgz (k := 1) (.int .i64 x1)) hgz (k := 2) (.int .i64 x2)) hgz (k := 3) (.slice x3 x4 x5)) hgz (k := 4) (.int .i64 x6)) hgz (k := 5) (.int .i64 x7)) hgz (k := 6) (.bool x8)) hgz (k := 7) (.int .i64 x9)); obtain ⟨dd0, dd1, dd2, dd3, dd4, dd5, dd6, dd7⟩ := RV.out.eight; obtain ⟨ff0, ff1, ff2, ff3, ff4, ff5, ff6, ff7⟩ := RV.out.frees)
           have OG := Lib.hid og
           clear og q)
        | (go_at_call 65
           with_reducible refine (HI.out _ _ _ ((OA2.out.same (sm ((Below.refl w2'.heap.size w2').alloc (Nat.le_refl _) (.cells #[.int .i64 0, .int .i64 0, .int .i64 0, .slice none 0 0, .int .i64 0, .int .i64 0, .bool false, .int .i64 0] 67)) 0 (Nat.le_refl _))).wid (by rw [World.size_alloc]; omega)) (Nat.le_refl _) HSA.out _ _ ((OB.out.same (sm ((Below.refl w2'.heap.size w2').alloc (Nat.le_refl _) (.cells #[.int .i64 0, .int .i64 0, .int .i64 0, .slice none 0 0, .int .i64 0, .int .i64 0, .bool false, .int .i64 0] 67)) 0 (Nat.le_refl _))).wide (by rw [World.size_alloc]; omega)) (Nat.le_refl _) HSB.out).mono ?_
           rintro e w3' ⟨vg, rfl, og, q⟩
           have bz2 := B2.alloc (Nat.le_trans hzl B2.size) (.cells #[.int .i64 0, .int .i64 0, .int .i64 0, .slice none 0 0, .int .i64 0, .int .i64 0, .bool false, .int .i64 0] 67)
           have B3 := bz2.trans (q.mono (Nat.le_trans hzl bz2.size))
           have HLO := Lib.hid (Nat.le_trans hzl bz2.size)
           have HGZ' := Lib.hid (And.intro (show z0 ≤ w2'.heap.size from Nat.le_trans hzl B2.size) (Rw.new w2' 67 #[.int .i64 0, .int .i64 0, .int .i64 0, .slice none 0 0, .int .i64 0, .int .i64 0, .bool false, .int .i64 0]).lt)
           have RV := Lib.hid ((Rw.new w2' 67 #[.int .i64 0, .int .i64 0, .int .i64 0, .slice none 0 0, .int .i64 0, .int .i64 0, .bool false, .int .i64 0]).below q (Rw.new w2' 67 #[.int .i64 0, .int .i64 0, .int .i64 0, .slice none 0 0, .int .i64 0, .int .i64 0, .bool false, .int .i64 0]).lt)
           obtain ⟨x0, x1, x2, x3, x4, x5, x6, x7, x8, x9, rfl⟩ := og.agg8
           have k3 := KC.out _ B3
           have k3z := fun (o : Obj) => KC.out _ (B3.alloc (Nat.le_trans hzl B3.size) o)
           try (have hgz := HGZ'.out.1; have kS := KC.out _ (bset (bset (bset (bset (bset (bset (bset (bset B3 hgz (k := 0) (.int .i64 x0)) hgz (k := 1) (.int .i64 x1)) hgz (k := 2) (.int .i64 x2)) hgz (k := 3) (.slice x3 x4 x5)) hgz (k := 4) (.int .i64 x6)) hgz (k := 5) (.int .i64 x7)) hgz (k := 6) (.bool x8)) hgz (k := 7) (.int .i64 x9)); obtain ⟨dd0, dd1, dd2, dd3, dd4, dd5, dd6, dd7⟩ := RV.out.eight; obtain ⟨ff0, ff1, ff2, ff3, ff4, ff5, ff6, ff7⟩ := RV.out.frees)
           have OG := Lib.hid og
           clear og q))
    all_goals (go_wp2_with fail; go_meet)
    · exact ⟨_, _, _, _, _, _, _, _, _, _, _, rfl, rfl, Lib.hid (B3.alloc (Nat.le_trans hzl B3.size) _), Lib.hid ⟨Nat.le_trans hzl B3.size, Rw.new w3' _ _⟩, Lib.hid ((OG.out.same (sm ((Below.refl w3'.heap.size w3').alloc (Nat.le_refl _) _) _ (Nat.le_refl _))).wid HLO.out (by rw [World.size_alloc]; omega))⟩
    all_goals
      have hgz := HGZ'.out.1
      have hgy := HGZ'.out.2
      refine ⟨_, x0, x1, x2, x3, x4, x5, x6, x7, x8, x9, rfl, rfl, ?_, ?_, ?_⟩
      · refine Lib.hid ?_
        repeat refine bset ?_ hgz _
        exact B3
      · refine Lib.hid ⟨hgz, ?_⟩
        exact ((((((((RV.out.set_ 0 (.int .i64 x0)).set_ 1 (.int .i64 x1)).set_ 2 (.int .i64 x2)).set_ 3 (.slice x3 x4 x5)).set_ 4 (.int .i64 x6)).set_ 5 (.int .i64 x7)).set_ 6 (.bool x8)).set_ 7 (.int .i64 x9))
      · refine Lib.hid ?_
        refine (OG.out.same ?_).wid HLO.out (by simp)
        repeat refine sset ?_ (.inl hgy) _
        exact Same.refl _ _ _
  obtain ⟨gs, x0, x1, x2, x3, x4, x5, x6, x7, x8, x9, rfl, rfl, BW0, RS0, OS0⟩ := hcut
  obtain ⟨w17, hwn⟩ := nameW (P := fun W => Hid (Below z0 w16 W)) BW0
  subst hwn
  have b := BW0.out
  rw [HZ0.out] at b
  have s17 := b.size
  clear HTWA HTWB KC hb0 BD hbz rz kA kZ BW0 hzl
  have AA' := Lib.hid (AA.out.same (sm b _ (by omega)))
  clear AA
  have AA := AA'
  clear AA'
  have AB' := Lib.hid (AB.out.same (sm b _ (by omega)))
  clear AB
  have AB := AB'
  clear AB'
  have S' := Lib.hid (S.out.same (sm b _ (by omega)))
  clear S
  have S := S'
  clear S'
  have M' := Lib.hid (M.out.same (sm b _ (by omega)))
  clear M
  have M := M'
  clear M'
  have RA := Lib.hid (RA.out.below b (by omega))
  have RB := Lib.hid (RB.out.below b (by omega))
  have RS := Lib.hid (RS.out.below b (by omega))
  have RXA := Lib.hid (RXA.out.below b (by omega))
  have RXB := Lib.hid (RXB.out.below b (by omega))
  have RG := Lib.hid (RG.out.below b (by omega))
  have BB' := Lib.hid (BB.out.trans (b.mono (by omega)))
  clear BB b
  have BB := BB'
  clear BB'
  have H := Lib.hid (show FxOwn w17 w16.heap.size w17.heap.size (.agg #[.int .i64 x0, .int .i64 x1, .int .i64 x2, .slice x3 x4 x5, .int .i64 x6, .int .i64 x7, .bool x8, .int .i64 x9]) G0 from by have := OS0.out; rwa [HZ0.out] at this)
  have RH := Lib.hid RS0.out.2
  have hgsH := RS0.out.2.lt
  clear OS0 RS0 HZ0
  obtain ⟨q00, q01, q02, q03, q04, q05, q06, q07⟩ := RH.out.eight
  obtain ⟨q10, q11, q12, q13, q14, q15, q16, q17⟩ := RS.out.eight
  go_wp2_with fail
  refine (eqFx_any _ _ _ _ _ _ H.out.reads S.out.reads (by omega) (by omega) HSG.out).mono ?_
  rintro e w18 ⟨rfl, b⟩
  clear q00 q01 q02 q03 q04 q05 q06 q07 q10 q11 q12 q13 q14 q15 q16 q17
  have s18 := b.size
  have AA' := Lib.hid (AA.out.same (sm b _ (by omega)))
  clear AA
  have AA := AA'
  clear AA'
  have AB' := Lib.hid (AB.out.same (sm b _ (by omega)))
  clear AB
  have AB := AB'
  clear AB'
  have S' := Lib.hid (S.out.same (sm b _ (by omega)))
  clear S
  have S := S'
  clear S'
  have M' := Lib.hid (M.out.same (sm b _ (by omega)))
  clear M
  have M := M'
  clear M'
  have H' := Lib.hid (H.out.same (sm b _ (by omega)))
  clear H
  have H := H'
  clear H'
  have RA := Lib.hid (RA.out.below b (by omega))
  have RB := Lib.hid (RB.out.below b (by omega))
  have RS := Lib.hid (RS.out.below b (by omega))
  have RXA := Lib.hid (RXA.out.below b (by omega))
  have RXB := Lib.hid (RXB.out.below b (by omega))
  have RG := Lib.hid (RG.out.below b (by omega))
  have RH := Lib.hid (RH.out.below b (by omega))
  have BB' := Lib.hid (BB.out.trans (b.mono (by omega)))
  clear BB b
  have BB := BB'
  clear BB'
  obtain ⟨q00, q01, q02, q03, q04, q05, q06, q07⟩ := RG.out.eight
  go_wp2_with fail
  refine (show Calls _ _ _ _ (fun e w' => e = .returned (.int .i64 ((ng : Nat) : Int)) ∧ Below _ _ w') from (by rw [HNG.out]; exact hdFx_any _ _ 1 _ _ M.out.reads (by omega) HSG.out (by omega))).mono ?_
  rintro e w19 ⟨rfl, b⟩
  clear q00 q01 q02 q03 q04 q05 q06 q07
  have s19 := b.size
  have AA' := Lib.hid (AA.out.same (sm b _ (by omega)))
  clear AA
  have AA := AA'
  clear AA'
  have AB' := Lib.hid (AB.out.same (sm b _ (by omega)))
  clear AB
  have AB := AB'
  clear AB'
  have S' := Lib.hid (S.out.same (sm b _ (by omega)))
  clear S
  have S := S'
  clear S'
  have M' := Lib.hid (M.out.same (sm b _ (by omega)))
  clear M
  have M := M'
  clear M'
  have H' := Lib.hid (H.out.same (sm b _ (by omega)))
  clear H
  have H := H'
  clear H'
  have RA := Lib.hid (RA.out.below b (by omega))
  have RB := Lib.hid (RB.out.below b (by omega))
  have RS := Lib.hid (RS.out.below b (by omega))
  have RXA := Lib.hid (RXA.out.below b (by omega))
  have RXB := Lib.hid (RXB.out.below b (by omega))
  have RG := Lib.hid (RG.out.below b (by omega))
  have RH := Lib.hid (RH.out.below b (by omega))
  have BB' := Lib.hid (BB.out.trans (b.mono (by omega)))
  clear BB b
  have BB := BB'
  clear BB'
  go_wp2
  go_ret
  exact ⟨rfl, BB.out⟩
end Go.Proofs.Ytainlanblpccjaa
