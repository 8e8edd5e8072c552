/- The law FnExactWearExcess, walked: every call by its contract. -/
import Derived.Test.YtmbgagkpabepcaaProg
import Derived.Test.YtmbgagkpabepcaaRwX
import Derived.Test.YtmbgagkpabepcaaLu
import Derived.Test.YtmbgagkpabepcaaLk
import Derived.Test.YtmbgagkpabepcaaPmO
import Derived.Test.YtmbgagkpabepcaaWxE
import Derived.Test.YtmbgagkpabepcaaWxF
namespace Go.Proofs.Ytmbgagkpabepcaa
open Go.RowKit
set_option linter.unusedVariables false
set_option linter.unusedSimpArgs false
set_option maxHeartbeats 4000000 in
set_option maxRecDepth 100000 in
theorem wkExc (vA : Value) (FA : List Int) (vB : Value) (FB : List Bool) (w : World) (hFA : LiIn w w.heap.size vA FA) (hWA : LiW FA) (hFB : BoIn w w.heap.size vB FB) (hWB : BoW FB) :
    Calls Try.prog 10 #[vA, vB] w fun e w' => e = .returned (.bool true) ∧ Below w.heap.size w w' := by
  obtain ⟨cA0, cA1, cA2, rfl⟩ := hFA.agg_
  have elA : FA.length = cA1 ∧ cA1 ≤ 9223372036854775807 := hFA.len_
  have emA : (cA1 : Int) ≤ 9223372036854775807 := by omega
  obtain ⟨cB0, cB1, cB2, rfl⟩ := hFB.agg_
  have elB : FB.length = cB1 ∧ cB1 ≤ 9223372036854775807 := hFB.len_
  have emB : (cB1 : Int) ≤ 9223372036854775807 := by omega
  by_cases smA : (cA1 : Int) ≤ 1048576
  case neg =>
    have dA : decide ((cA1 : Int) > 1048576) = true := by simp; omega
    go_enter Try.func10, Try.ntmps10
    go_wp2
    go_ret
    exact ⟨rfl, (Below.refl w.heap.size w)⟩
  by_cases smB : (cB1 : Int) ≤ 1048576
  case neg =>
    have dB : decide ((cB1 : Int) > 1048576) = true := by simp; omega
    have dA : decide ((cA1 : Int) > 1048576) = false := by simp; omega
    go_enter Try.func10, Try.ntmps10
    go_wp2
    go_ret
    exact ⟨rfl, (Below.refl w.heap.size w)⟩
  have dA : decide ((cA1 : Int) > 1048576) = false := by simp; omega
  have dB : decide ((cB1 : Int) > 1048576) = false := by simp; omega
  have AA := Lib.hid hFA
  have HTA := Lib.hid (fun (W : World) (a : LiIn W w.heap.size (.slice cA0 cA1 cA2) FA) (c : w.heap.size ≤ W.heap.size) (z : LiSz FA) => toLi_any _ FA W w.heap.size a c z)
  have HSA := Lib.hid (show LiSz FA by unfold LiSz; omega)
  have AB := Lib.hid hFB
  have HTB := Lib.hid (fun (W : World) (a : BoIn W w.heap.size (.slice cB0 cB1 cB2) FB) (c : w.heap.size ≤ W.heap.size) (z : BoSz FB) => toBo_any _ FB W w.heap.size a c z)
  have HSB := Lib.hid (show BoSz FB by unfold BoSz; omega)
  obtain ⟨r, hr⟩ := prop_dec' (CountsOk FA)
  obtain ⟨y, hy⟩ : ∃ y, y = exV (gcR FA FB r) := ⟨_, rfl⟩
  have HS : Hid (∀ (W : World) (uA : Value) (hiA : Nat) (aA : LiIn W hiA uA FA) (cA : hiA ≤ W.heap.size) (zA : LiSz FA) (uB : Value) (hiB : Nat) (aB : BoIn W hiB uB FB) (cB : hiB ≤ W.heap.size) (zB : BoSz FB), Calls Try.prog 34 #[uA, uB] W (fun e w' => e = .returned (.int .i64 y) ∧ Below W.heap.size W w')) := Lib.hid (fun W uA hiA aA cA zA uB hiB aB cB zB => by rw [hy]; exact specExc_any uA uB FA FB r W (max hiA hiB) (aA.wide (by omega)) (aB.wide (by omega)) (by omega) hr zA zB)
  have HI : Hid (∀ (W : World) (uA : Value) (hiA : Nat) (aA : LiIn W hiA uA FA) (cA : hiA ≤ W.heap.size) (zA : LiSz FA) (uB : Value) (hiB : Nat) (aB : BoIn W hiB uB FB) (cB : hiB ≤ W.heap.size) (zB : BoSz FB), Calls Try.prog 37 #[uA, uB] W (fun e w' => e = .returned (.int .i64 y) ∧ Below W.heap.size W w')) := Lib.hid (fun W uA hiA aA cA zA uB hiB aB cB zB => by rw [hy]; exact implExc_any uA uB FA FB r W (max hiA hiB) (aA.wide (by omega)) (aB.wide (by omega)) (by omega) hr zA zB)
  have hxx0 : ((y : Int) != y) = false := by simp
  clear hFA hWA hFB hWB elA elB
  clear hr hy
  have BB := Lib.hid (Below.refl w.heap.size w)
  go_enter Try.func10, Try.ntmps10
  go_wp2_with fail
  refine (HTA.out _ AA.out (by omega) HSA.out).mono ?_
  rintro e w1 ⟨vta, rfl, ho, b⟩
  have s1 := b.size
  have AA' := Lib.hid (AA.out.same (sm b _ (by omega)))
  clear AA
  have AA := AA'
  clear AA'
  have AB' := Lib.hid (AB.out.same (sm b _ (by omega)))
  clear AB
  have AB := AB'
  clear AB'
  have BB' := Lib.hid (BB.out.trans (b.mono (by omega)))
  clear BB b
  have BB := BB'
  clear BB'
  obtain ⟨vta0, vta1, vta2, rfl⟩ := ho.agg_
  have TA := Lib.hid ho
  clear ho
  go_wp2_with fail
  refine (HTB.out _ AB.out (by omega) HSB.out).mono ?_
  rintro e w2 ⟨vtb, rfl, ho, b⟩
  have s2 := b.size
  have AA' := Lib.hid (AA.out.same (sm b _ (by omega)))
  clear AA
  have AA := AA'
  clear AA'
  have AB' := Lib.hid (AB.out.same (sm b _ (by omega)))
  clear AB
  have AB := AB'
  clear AB'
  have TA' := Lib.hid (TA.out.same (sm b _ (by omega)))
  clear TA
  have TA := TA'
  clear TA'
  have BB' := Lib.hid (BB.out.trans (b.mono (by omega)))
  clear BB b
  have BB := BB'
  clear BB'
  obtain ⟨vtb0, vtb1, vtb2, rfl⟩ := ho.agg_
  have TB := Lib.hid ho
  clear ho
  go_wp2_with fail
  refine (HS.out _ _ _ TA.out.reads (by omega) HSA.out _ _ TB.out.reads (by omega) HSB.out).mono ?_
  rintro e w3 ⟨rfl, b⟩
  have s3 := b.size
  have AA' := Lib.hid (AA.out.same (sm b _ (by omega)))
  clear AA
  have AA := AA'
  clear AA'
  have AB' := Lib.hid (AB.out.same (sm b _ (by omega)))
  clear AB
  have AB := AB'
  clear AB'
  have TA' := Lib.hid (TA.out.same (sm b _ (by omega)))
  clear TA
  have TA := TA'
  clear TA'
  have TB' := Lib.hid (TB.out.same (sm b _ (by omega)))
  clear TB
  have TB := TB'
  clear TB'
  have BB' := Lib.hid (BB.out.trans (b.mono (by omega)))
  clear BB b
  have BB := BB'
  clear BB'
  clear TA
  clear TB
  go_wp2_with fail
  refine (HTA.out _ AA.out (by omega) HSA.out).mono ?_
  rintro e w4 ⟨vxa, rfl, ho, b⟩
  have s4 := b.size
  have AA' := Lib.hid (AA.out.same (sm b _ (by omega)))
  clear AA
  have AA := AA'
  clear AA'
  have AB' := Lib.hid (AB.out.same (sm b _ (by omega)))
  clear AB
  have AB := AB'
  clear AB'
  have BB' := Lib.hid (BB.out.trans (b.mono (by omega)))
  clear BB b
  have BB := BB'
  clear BB'
  obtain ⟨vxa0, vxa1, vxa2, rfl⟩ := ho.agg_
  have XA := Lib.hid ho
  clear ho
  go_wp2_with fail
  refine (HTB.out _ AB.out (by omega) HSB.out).mono ?_
  rintro e w5 ⟨vxb, rfl, ho, b⟩
  have s5 := b.size
  have AA' := Lib.hid (AA.out.same (sm b _ (by omega)))
  clear AA
  have AA := AA'
  clear AA'
  have AB' := Lib.hid (AB.out.same (sm b _ (by omega)))
  clear AB
  have AB := AB'
  clear AB'
  have XA' := Lib.hid (XA.out.same (sm b _ (by omega)))
  clear XA
  have XA := XA'
  clear XA'
  have BB' := Lib.hid (BB.out.trans (b.mono (by omega)))
  clear BB b
  have BB := BB'
  clear BB'
  obtain ⟨vxb0, vxb1, vxb2, rfl⟩ := ho.agg_
  have XB := Lib.hid ho
  clear ho
  go_wp2_with fail
  refine (HI.out _ _ _ XA.out.reads (by omega) HSA.out _ _ XB.out.reads (by omega) HSB.out).mono ?_
  rintro e w6 ⟨rfl, b⟩
  have s6 := b.size
  have AA' := Lib.hid (AA.out.same (sm b _ (by omega)))
  clear AA
  have AA := AA'
  clear AA'
  have AB' := Lib.hid (AB.out.same (sm b _ (by omega)))
  clear AB
  have AB := AB'
  clear AB'
  have XA' := Lib.hid (XA.out.same (sm b _ (by omega)))
  clear XA
  have XA := XA'
  clear XA'
  have XB' := Lib.hid (XB.out.same (sm b _ (by omega)))
  clear XB
  have XB := XB'
  clear XB'
  have BB' := Lib.hid (BB.out.trans (b.mono (by omega)))
  clear BB b
  have BB := BB'
  clear BB'
  go_wp2_with fail
  refine (HTA.out _ AA.out (by omega) HSA.out).mono ?_
  rintro e w7 ⟨vy, rfl, ho, b⟩
  have s7 := b.size
  have AA' := Lib.hid (AA.out.same (sm b _ (by omega)))
  clear AA
  have AA := AA'
  clear AA'
  have AB' := Lib.hid (AB.out.same (sm b _ (by omega)))
  clear AB
  have AB := AB'
  clear AB'
  have XA' := Lib.hid (XA.out.same (sm b _ (by omega)))
  clear XA
  have XA := XA'
  clear XA'
  have XB' := Lib.hid (XB.out.same (sm b _ (by omega)))
  clear XB
  have XB := XB'
  clear XB'
  have BB' := Lib.hid (BB.out.trans (b.mono (by omega)))
  clear BB b
  have BB := BB'
  clear BB'
  obtain ⟨vy0, vy1, vy2, rfl⟩ := ho.agg_
  have Y := Lib.hid ho
  clear ho
  go_wp2_with fail
  refine (eqLi_any _ _ _ _ _ _ XA.out.reads Y.out.reads (by omega) (by omega) HSA.out).mono ?_
  rintro e w8 ⟨rfl, b⟩
  have s8 := b.size
  have AA' := Lib.hid (AA.out.same (sm b _ (by omega)))
  clear AA
  have AA := AA'
  clear AA'
  have AB' := Lib.hid (AB.out.same (sm b _ (by omega)))
  clear AB
  have AB := AB'
  clear AB'
  have XA' := Lib.hid (XA.out.same (sm b _ (by omega)))
  clear XA
  have XA := XA'
  clear XA'
  have XB' := Lib.hid (XB.out.same (sm b _ (by omega)))
  clear XB
  have XB := XB'
  clear XB'
  have Y' := Lib.hid (Y.out.same (sm b _ (by omega)))
  clear Y
  have Y := Y'
  clear Y'
  have BB' := Lib.hid (BB.out.trans (b.mono (by omega)))
  clear BB b
  have BB := BB'
  clear BB'
  clear Y
  go_wp2_with fail
  refine (HTB.out _ AB.out (by omega) HSB.out).mono ?_
  rintro e w9 ⟨vy, rfl, ho, b⟩
  have s9 := b.size
  have AA' := Lib.hid (AA.out.same (sm b _ (by omega)))
  clear AA
  have AA := AA'
  clear AA'
  have AB' := Lib.hid (AB.out.same (sm b _ (by omega)))
  clear AB
  have AB := AB'
  clear AB'
  have XA' := Lib.hid (XA.out.same (sm b _ (by omega)))
  clear XA
  have XA := XA'
  clear XA'
  have XB' := Lib.hid (XB.out.same (sm b _ (by omega)))
  clear XB
  have XB := XB'
  clear XB'
  have BB' := Lib.hid (BB.out.trans (b.mono (by omega)))
  clear BB b
  have BB := BB'
  clear BB'
  obtain ⟨vy0, vy1, vy2, rfl⟩ := ho.agg_
  have Y := Lib.hid ho
  clear ho
  go_wp2_with fail
  refine (eqBo_any _ _ _ _ _ _ XB.out.reads Y.out.reads (by omega) (by omega) HSB.out).mono ?_
  rintro e w10 ⟨rfl, b⟩
  have s10 := b.size
  have AA' := Lib.hid (AA.out.same (sm b _ (by omega)))
  clear AA
  have AA := AA'
  clear AA'
  have AB' := Lib.hid (AB.out.same (sm b _ (by omega)))
  clear AB
  have AB := AB'
  clear AB'
  have XA' := Lib.hid (XA.out.same (sm b _ (by omega)))
  clear XA
  have XA := XA'
  clear XA'
  have XB' := Lib.hid (XB.out.same (sm b _ (by omega)))
  clear XB
  have XB := XB'
  clear XB'
  have Y' := Lib.hid (Y.out.same (sm b _ (by omega)))
  clear Y
  have Y := Y'
  clear Y'
  have BB' := Lib.hid (BB.out.trans (b.mono (by omega)))
  clear BB b
  have BB := BB'
  clear BB'
  clear Y
  go_wp2
  go_ret
  exact ⟨rfl, BB.out⟩
end Go.Proofs.Ytmbgagkpabepcaa
