/- The proof's own lemmas, part 37: WoD WoQ WoR. -/
import Derived.Test.YtainlanblpccjaaProg
import Derived.Test.YtainlanblpccjaaMg33
import Derived.Test.YtainlanblpccjaaMg22
import Derived.Test.YtainlanblpccjaaMg25
import Derived.Lib.SliceRun
import Derived.Lib.LazyBuf
import Derived.Test.YtainlanblpccjaaMg34
import Derived.Test.YtainlanblpccjaaMg17
import Derived.Test.YtainlanblpccjaaMg32
import Derived.Deep.RegionHeld3
/- slices.IndexFunc and slices.DeleteFunc over place's closure. -/
namespace Go.Proofs.Ytainlanblpccjaa
open Go.RowKit
set_option linter.unusedVariables false
set_option linter.unusedSimpArgs false
theorem idxP_any (b c : Nat) (L : List Int) (p : Int → Bool) (gC : Nat) (w : World) (hL : L.length ≤ 1048576) (hx : ∀ i, i < L.length → w.cell? ⟨b, i, none⟩ = some (.int .i64 (L.getD i 0)))
    (hp : ∀ i, i < L.length → Calls Try.prog 166 #[.int .i64 (L.getD i 0), .pointer (some ⟨gC, 0, none⟩)] w fun e w' => e = .returned (.bool (p (L.getD i 0))) ∧ w = w') :
    Calls Try.prog 169 #[.slice (some ⟨b, 0, none⟩) L.length c, .func (.func 166) #[] #[.pointer (some ⟨gC, 0, none⟩)]] w fun e w' =>
      ((∃ i : Nat, i < L.length ∧ p (L.getD i 0) = true ∧ (∀ j, j < i → p (L.getD j 0) = false) ∧ e = .returned (.int .i64 (i : Int))) ∨ ((∀ j, j < L.length → p (L.getD j 0) = false) ∧ e = .returned (.int .i64 (-1)))) ∧ w = w' := by
  obtain ⟨n, hn⟩ : ∃ n, n = L.length := ⟨_, rfl⟩
  rw [← hn] at hL hx hp ⊢
  have hnm : (n : Int) ≤ 1048576 := by omega
  have HX := Lib.hid hx
  have HP := Lib.hid hp
  clear hx hp hn hL
  go_enter Try.func169, Try.ntmps169
  go_wp2
  go_loop [8] (fun i => ∃ k : Nat, k ≤ n ∧ i = .int .i64 k ∧ Hid (∀ j, j < k → p (L.getD j 0) = false)) (fun i => n - (intOf i).toNat)
  case atStart => exact ⟨0, by omega, rfl, Lib.hid fun j hj => by omega⟩
  case round =>
    obtain ⟨k, hk, rfl, HB⟩ := hrel
    by_cases hlt : k < n
    · have hki : (k : Int) < (n : Int) := by omega
      have hc := HX.out k hlt
      have HPK := Lib.hid (HP.out k hlt)
      have HY := Lib.hid (fun (e : p (L.getD k 0) = false) => show ∀ j, j < k + 1 → p (L.getD j 0) = false from fun j hj => by
        by_cases f : j = k
        · subst f; exact e
        · exact HB.out j (by omega))
      have HK := Lib.hid (fun (e : p (L.getD k 0) = true) => show ∃ i : Nat, i < n ∧ p (L.getD i 0) = true ∧ (∀ j, j < i → p (L.getD j 0) = false) ∧ Ending.returned (.int .i64 (k : Int)) = .returned (.int .i64 (i : Int)) from ⟨k, hlt, e, HB.out, rfl⟩)
      generalize L.getD k 0 = y at *
      cases hp : p y with
      | true =>
        rw [hp] at HPK
        have HG := Lib.hid (HK.out hp)
        clear HY HK HP HX HB hp
        go_wp2_with fail
        refine HPK.out.mono ?_
        rintro e w1 ⟨rfl, rfl⟩
        go_wp2
        go_ret
        exact ⟨.inl HG.out, rfl⟩
      | false =>
        rw [hp] at HPK
        have HG := Lib.hid (HY.out hp)
        clear HY HK HP HX HB hp
        go_wp2_with fail
        refine HPK.out.mono ?_
        rintro e w1 ⟨rfl, rfl⟩
        go_wp2
        go_round
        case rel => exact ⟨k + 1, by omega, by go_num, HG⟩
        case measure => simp [intOf]; omega
    · obtain rfl : k = n := by omega
      go_wp2
      go_ret
      exact ⟨.inr ⟨HB.out, rfl⟩, rfl⟩
set_option maxHeartbeats 2000000 in
theorem delP_any (B b n c : Nat) (L : List Int) (p : Int → Bool) (gC : Nat) (w : World) (hown : IntsOwn w B (.slice (some ⟨b, 0, none⟩) n c) L) (hn : L.length = n) (hnc : n ≤ c) (hcm : c ≤ 9223372036854775807) (hL : n ≤ 1048576) (hbw : b < w.heap.size)
    (hp : ∀ (W : World) (i : Nat), i < n → w.grownBy W (some b) → Calls Try.prog 166 #[.int .i64 (L.getD i 0), .pointer (some ⟨gC, 0, none⟩)] W fun e w' => e = .returned (.bool (p (L.getD i 0))) ∧ W = w') :
    Calls Try.prog 106 #[.slice (some ⟨b, 0, none⟩) n c, .func (.func 166) #[] #[.pointer (some ⟨gC, 0, none⟩)]] w fun e w' =>
      e = .returned (.slice (some ⟨b, 0, none⟩) (keptL p L n).length c) ∧ (∀ i, i < (keptL p L n).length → w'.cell? ⟨b, i, none⟩ = some (.int .i64 ((keptL p L n).getD i 0))) ∧ w.grownBy w' (some b) := by
  have hcell : ∀ i, i < n → w.cell? ⟨b, i, none⟩ = some (.int .i64 (L.getD i 0)) := fun i hi => hown.cell hn hi
  have HIX := Lib.hid (by
    have := idxP_any b c L p gC w (by omega) (fun i hi => hcell i (by omega)) (fun i hi => hp w i (by omega) (grown_same w (some b)))
    rw [hn] at this; exact this)
  have hnm : (n : Int) ≤ 1048576 := by omega
  have hncI : (n : Int) ≤ (c : Int) := by omega
  have HP := Lib.hid hp
  have HOWN := Lib.hid hown
  have HN := Lib.hid hn
  have HLE := Lib.hid (keptL_le p L)
  have HSAME := Lib.hid (keptL_same p L)
  have HSUCC := Lib.hid (keptL_succ p L)
  have HCELL := Lib.hid hcell
  clear hown hp hcell
  go_enter Try.func106, Try.ntmps106
  go_wp2_with fail
  refine HIX.out.mono ?_
  rintro e w1 ⟨hor, rfl⟩
  rcases hor with ⟨t, ht, hpt, hbef, rfl⟩ | ⟨hno, rfl⟩
  case inr =>
    have hk : keptL p L n = L := by rw [HSAME.out n (by rw [HN.out]; exact Nat.le_refl _) (fun i hi => hno i hi), ← HN.out, List.take_length]
    have HK := Lib.hid hk
    have HC2 := Lib.hid HCELL.out
    clear HIX HP HOWN HLE HSAME HSUCC HCELL hno hk
    go_wp2
    go_ret
    exact ⟨by rw [HK.out, HN.out]; rfl, fun i hi => by rw [HK.out, HN.out] at hi; rw [HK.out]; exact HC2.out i hi, grown_same _ _⟩
  have hk0 : keptL p L (t + 1) = L.take t := by
    rw [HSUCC.out t (by rw [HN.out]; exact ht), hpt, if_pos rfl]
    exact HSAME.out t (by rw [HN.out]; omega) (fun i hi => hbef i hi)
  have hlen0 : (keptL p L (t + 1)).length = t := by rw [hk0, List.length_take, HN.out]; omega
  have T0 := Lib.hid (show L.take t = keptL p L (t + 1) from hk0.symm)
  have TL := Lib.hid hlen0
  have G0 := Lib.hid (grown_same w (some b))
  have d1 : ((t : Int) == -1) = false := by
    rw [beq_eq_false_iff_ne]; omega
  have hti : (t : Int) < 1048576 := by omega
  clear HIX hpt hbef hk0 hlen0
  go_wp2
  clear d1
  go_loopw [5, 6] (fun i j wr => ∃ (k t : Nat) (R : List Int), k ≤ n ∧ t < k ∧ i = .int .i64 (t : Int) ∧ j = .int .i64 (k : Int) ∧ Hid (t = (keptL p L k).length) ∧ Hid (IntsOwn wr B (.slice (some ⟨b, 0, none⟩) n c) R) ∧ Hid (R.length = n) ∧ Hid (R.take t = keptL p L k) ∧ Hid (∀ s, k ≤ s → s < n → R.getD s 0 = L.getD s 0) ∧ Hid (w.grownBy wr (some b))) (fun _ j _ => n - (intOf j).toNat)
  case atStart => exact ⟨t + 1, t, L, by omega, by omega, rfl, by go_num, Lib.hid TL.out.symm, HOWN, HN, T0, Lib.hid (fun s _ _ => rfl), G0⟩
  case round =>
    clear T0 TL G0
    obtain ⟨k, t, R, hk, htk, rfl, rfl, H1, HO, HRL, HT, HR, HG⟩ := hrel
    by_cases hlt : k < n
    · have hki : (k : Int) < (n : Int) := by omega
      have e1 := HO.out.cell HRL.out hlt
      rw [HR.out k (Nat.le_refl _) hlt] at e1
      have HPK := Lib.hid (HP.out wr k hlt HG.out)
      have HS := Lib.hid (HSUCC.out k (by rw [HN.out]; exact hlt))
      have HST := Lib.hid (fun (y : Int) => HO.out.stored HRL.out t y)
      have hfr := HO.out.free HRL.out t
      have e2 := HO.out.cell (j := t) HRL.out (by omega)
      generalize hy : L.getD k 0 = y at *
      generalize R.getD t 0 = z at *
      have HYL := Lib.hid hy
      have htn : (t : Int) < (n : Int) := by omega
      clear hy
      cases hpy : p y with
      | true =>
        have HS2 := Lib.hid (show keptL p L (k + 1) = keptL p L k by rw [HS.out, if_pos hpy])
        rw [hpy] at HPK
        clear HS HST hpy hfr e2
        go_wp2_with fail
        refine HPK.out.mono ?_
        rintro e w2 ⟨rfl, rfl⟩
        go_wp2
        go_roundw
        case rel => exact ⟨k + 1, t, R, by omega, by omega, rfl, by go_num, Lib.hid (by rw [HS2.out]; exact H1.out), HO, HRL, Lib.hid (by rw [HS2.out]; exact HT.out), Lib.hid (fun s hs1 hs2 => HR.out s (by omega) hs2), HG⟩
        case measure => simp [intOf]; omega
      | false =>
        have HS2 := Lib.hid (show keptL p L (k + 1) = keptL p L k ++ [y] by rw [HS.out, if_neg (by rw [hpy]; simp)])
        rw [hpy] at HPK
        have HO2 := Lib.hid (HST.out y)
        have HG2 := Lib.hid (grown_setB HG.out t (.int .i64 y))
        clear HS HST hpy
        go_wp2_with fail
        refine HPK.out.mono ?_
        rintro e w2 ⟨rfl, rfl⟩
        go_wp2
        go_roundw
        case rel =>
          refine ⟨k + 1, t + 1, R.set t y, by omega, by omega, by go_num, by go_num, Lib.hid ?_, HO2, Lib.hid (by rw [List.length_set]; exact HRL.out), Lib.hid ?_, Lib.hid ?_, HG2⟩
          · rw [HS2.out, List.length_append, List.length_singleton, H1.out]
          · rw [HS2.out, List.take_succ_eq_append_getElem (by rw [List.length_set, HRL.out]; omega), List.getElem_set_self, List.take_set_of_le (Nat.le_refl _), HT.out]
          · intro s hs1 hs2
            rw [← HR.out s (by omega) hs2, List.getD_eq_getElem?_getD, List.getD_eq_getElem?_getD, List.getElem?_set_ne (by omega)]
        case measure => simp [intOf]; omega
    · obtain rfl : k = n := by omega
      have hlt2 : (t : Int) ≤ (k : Int) := by omega
      have hlt3 : (t : Int) ≤ (c : Int) := by omega
      have HCE := Lib.hid (fun (i : Nat) (hi : i < t) => HO.out.cell (j := i) HRL.out (by omega))
      have HGE := Lib.hid (fun (i : Nat) (hi : i < t) => show R.getD i 0 = (keptL p L k).getD i 0 by rw [← HT.out, List.getD_eq_getElem?_getD, List.getD_eq_getElem?_getD, List.getElem?_take, if_pos hi])
      have hcl : ∀ (m cc : Nat) (ty : TypeId), m = k - t → (Builtin.clear_ #[22] ty #[.slice (some ⟨b, t, none⟩) m cc]).run Try.prog wr = .ok (.tuple #[]) (wr.setCells b t (List.replicate m (.int .i64 0))) := fun m cc ty hm => by
        subst hm
        exact Lib.run_clear_slice wr 22 2 ty (.int .i64 0) Try.underlying22 zeroInt64 rfl rfl b t (k - t) cc (by omega)
          (fun j hj => by rw [HO.out.cell (j := t + j) HRL.out (by omega)]; rfl) (fun j hj => HO.out.free HRL.out (t + j))
      have HG3 := Lib.hid (grown_setsB (List.replicate (k - t) (.int .i64 0)) t _ HG.out)
      have HC3 := Lib.hid (fun (i : Nat) (hi : i < t) => show (wr.setCells b t (List.replicate (k - t) (.int .i64 0))).cell? ⟨b, i, none⟩ = some (.int .i64 ((keptL p L k).getD i 0)) from by
        rw [World.cell?_setCells_out b _ _ _ _ (fun _ _ => .inl hi), HCE.out i hi, HGE.out i hi])
      have hcl1 := fun cc ty => hcl (k - t) cc ty rfl
      clear HP HOWN HLE HSAME HSUCC HCELL HO HT HR HG hcl HCE HGE
      go_wp2_with (simp only [hcl1])
      go_ret
      exact ⟨by rw [← H1.out]; rfl, fun i hi => HC3.out i (by rw [H1.out]; exact hi), HG3.out⟩
end Go.Proofs.Ytainlanblpccjaa
/- place's closure, slices.DeleteFunc over it, and place. -/
namespace Go.Proofs.Ytainlanblpccjaa
open Go.RowKit
set_option linter.unusedVariables false
set_option linter.unusedSimpArgs false
theorem usd_any (g3 g8 gC nC cC : Nat) (a0 a1 a3 : Value) (cs : List Int) (x : Int) (W : World) (h3 : Rw W g3 186 #[.pointer (some ⟨g8, 0, none⟩)]) (h8 : Rw W g8 27 #[a0, a1, .slice (some ⟨gC, 0, none⟩) nC cC, a3]) (hc : ∀ i, i < nC → W.cell? ⟨gC, i, none⟩ = some (.int .i64 (cs.getD i 0))) (hx0 : 0 ≤ x) (hx1 : x < (nC : Int)) :
    Calls Try.prog 166 #[.int .i64 x, .pointer (some ⟨g3, 0, none⟩)] W fun e w' => e = .returned (.bool (usedP cs x)) ∧ W = w' := by
  obtain ⟨j, rfl⟩ : ∃ j : Nat, x = (j : Int) := ⟨x.toNat, by omega⟩
  have c1 := hc j (by omega)
  have q3 := h3.one
  obtain ⟨q0, q1, q2, q4⟩ := h8.four
  have HU := Lib.hid (show usedP cs (j : Int) = !(decide (cs.getD j 0 = 0)) by unfold usedP; simp)
  generalize cs.getD j 0 = y at *
  clear hc
  by_cases hy : y = 0
  · subst hy
    have HV := Lib.hid (show usedP cs (j : Int) = false by rw [HU.out]; rfl)
    clear HU
    go_enter Try.func166, Try.ntmps166
    go_wp2
    go_ret
    exact ⟨ret_bool HV.out.symm, rfl⟩
  · have d1 : (y != 0) = true := by simpa using hy
    have HV := Lib.hid (show usedP cs (j : Int) = true by rw [HU.out]; simp [hy])
    clear HU
    go_enter Try.func166, Try.ntmps166
    go_wp2
    go_ret
    exact ⟨ret_bool HV.out.symm, rfl⟩
theorem delP_nil (fv : Value) (w : World) : Calls Try.prog 106 #[.slice none 0 0, .func (.func 166) #[] #[fv]] w fun e w' => e = .returned (.slice none 0 0) ∧ w' = w := by
  have HI := Lib.hid (fun (W : World) (u : Value) => Try.slices_IndexFunc_empty (α := Int) none 0 u W)
  go_enter Try.func106, Try.ntmps106
  go_wp2_with fail
  refine (HI.out _ _).mono ?_
  rintro e w1 ⟨rfl, rfl⟩
  go_wp2
  go_ret
  exact ⟨rfl, rfl⟩
theorem delP_own (lo g3 : Nat) (v : Value) (L : List Int) (p : Int → Bool) (w : World) (hown : IntsOwn w lo v L) (hL : L.length ≤ 1048576) (hlo : lo ≤ w.heap.size)
    (hp : ∀ (W : World) (i : Nat), i < L.length → Below lo w W → Calls Try.prog 166 #[.int .i64 (L.getD i 0), .pointer (some ⟨g3, 0, none⟩)] W fun e w' => e = .returned (.bool (p (L.getD i 0))) ∧ W = w') :
    Calls Try.prog 106 #[v, .func (.func 166) #[] #[.pointer (some ⟨g3, 0, none⟩)]] w fun e w' => ∃ u, e = .returned u ∧ NI w' w'.heap.size u (L.filter fun x => !p x) ∧ Below lo w w' := by
  rw [← keptL_all]
  rcases hown.shape with ⟨hx0, hl0⟩ | ⟨g, cap, hx0, hg1, hg2⟩
  · subst hx0
    subst hl0
    refine (delP_nil _ w).mono ?_
    rintro e w6 ⟨rfl, rfl⟩
    exact ⟨_, rfl, NI.nil _ _, Below.refl _ _⟩
  · subst hx0
    obtain ⟨Y1, Y2, Y3, ey, hy1, hy2, hy3, _⟩ := hown.readsR
    injection ey with ey1 ey2 ey3
    subst ey1 ey2 ey3
    have hB : ∀ W, w.grownBy W (some g) → Below lo w W := fun W hg => (Below.refl lo w).grown hg hlo (fun j e => by injection e with e; omega)
    refine (delP_any lo g L.length cap L p g3 w hown rfl hy1 hy2 hL hg2 (fun W i hi hg => hp W i hi (hB W hg))).mono ?_
    rintro e w6 ⟨rfl, hc6, hg6⟩
    have hk := keptL_le p L L.length
    exact ⟨_, rfl, ⟨_, _, cap, rfl, by omega, hy2, rfl, fun h0 => ⟨g, 0, rfl, Nat.lt_of_lt_of_le hg2 hg6.size, fun i hi => by rw [Nat.zero_add]; exact hc6 i hi⟩⟩, hB _ hg6⟩
end Go.Proofs.Ytainlanblpccjaa
/- place: the contract. -/
namespace Go.Proofs.Ytainlanblpccjaa
open Go.RowKit
set_option linter.unusedVariables false
set_option linter.unusedSimpArgs false
set_option maxHeartbeats 8000000 in
set_option maxRecDepth 100000 in
theorem implPlace_any (g8 : Nat) (M : We) (hot : Bool) (ct : Int) (AE AB : Option Addr) (nE cE nB cB gC nC cC : Nat) (nb : Int) (B : Nat) (w : World) (hR : Rw w g8 27 #[.slice AE nE cE, .slice AB nB cB, .slice (some ⟨gC, 0, none⟩) nC cC, .int .i64 nb]) (hE : NI w w.heap.size (.slice AE nE cE) M.e) (hB : NB w w.heap.size (.slice AB nB cB) M.b) (hC : IntsOwn w B (.slice (some ⟨gC, 0, none⟩) nC cC) M.c) (o : WeOk M) (hot2 : True) :
    Calls Try.prog 93 #[.pointer (some ⟨g8, 0, none⟩), .int .i64 ct, .bool hot] w fun e w' => e = .returned (.int .i64 (plcV M hot)) ∧ ((plcV M hot = -1 ∧ Below w.heap.size w w') ∨ ((0 ≤ plcV M hot ∧ plcV M hot < (M.e.length : Int)) ∧ ∃ w2, Below w.heap.size w w2 ∧ w' = w2.setCell ⟨gC, (plcV M hot).toNat, none⟩ (.int .i64 ct))) := by
  have hnE : M.e.length = nE := hE.len_.1
  have hnC : M.c.length = nC := by
    rcases hC.shape with ⟨e, _⟩ | ⟨g, cap, e, _⟩
    · cases e
    · injection e with _ e _; exact e.symm
  have o1 := o.1
  have o2 := o.2.1
  have o3 := o.2.2.1
  have hgC := (hC.blockOf (k := gC) rfl).2
  have hg8 := hR.lt
  have bx := (Below.refl w.heap.size w).alloc (Nat.le_refl _) (.cells #[.pointer (some ⟨g8, 0, none⟩)] 186)
  have HK := Lib.hid (show ∀ (W : World) (b : Below (w.heap.size + 1) (w.alloc (.cells #[.pointer (some ⟨g8, 0, none⟩)] 186)) W), (W.cell? ⟨w.heap.size, 0, none⟩ = some (.pointer (some ⟨g8, 0, none⟩)) ∧ W.cell? ⟨g8, 0, none⟩ = some (.slice AE nE cE) ∧ W.cell? ⟨g8, 1, none⟩ = some (.slice AB nB cB) ∧ W.cell? ⟨g8, 2, none⟩ = some (.slice (some ⟨gC, 0, none⟩) nC cC)) ∧ Below w.heap.size w W ∧ (∀ i, i < nC → W.cell? ⟨gC, i, none⟩ = some (.int .i64 (M.c.getD i 0))) ∧ Rw W w.heap.size 186 #[.pointer (some ⟨g8, 0, none⟩)] ∧ Rw W g8 27 #[.slice AE nE cE, .slice AB nB cB, .slice (some ⟨gC, 0, none⟩) nC cC, .int .i64 nb] ∧ W.frozen? ⟨gC, 0, none⟩ = false from by
    intro W b
    have bW : Below w.heap.size w W := bx.trans (b.mono (by omega))
    have e3 := (Rw.new w 186 #[.pointer (some ⟨g8, 0, none⟩)]).below b (by omega)
    have e8 := hR.below bW hg8
    have oW := hC.later bW (Nat.le_refl _)
    exact ⟨⟨e3.one, (e8.four).1, (e8.four).2.1, (e8.four).2.2.1⟩, bW, fun i hi => oW.cell hnC hi, e3, e8, oW.free hnC 0⟩)
  have HGB := Lib.hid (fun (W : World) (b : Below w.heap.size w W) => goodB_any (.slice AB nB cB) M.b nE W w.heap.size (hB.below b (Nat.le_refl _)) b.size (by omega) (by omega))
  have HPF := Lib.hid (fun (W : World) (b : Below w.heap.size w W) (v : Value) (hv : NI W W.heap.size v (freeW M)) => show Calls Try.prog 32 #[.slice AE nE cE, v, .bool hot] W (fun e w' => e = .returned (.int .i64 (plcV M hot)) ∧ Below W.heap.size W w') from implPfr_any (.slice AE nE cE) v M.e (freeW M) hot true W W.heap.size ((hE.below b (Nat.le_refl _)).wide b.size) hv (Nat.le_refl _) ⟨fun _ => freeW_ok M, fun _ => rfl⟩ (by omega) (by have := freeL_le M.b M.c M.e.length; unfold freeW; omega))
  have HFW := Lib.hid (show (goodL M.b nE).filter (fun x => !usedP M.c x) = freeW M by unfold freeW freeL; rw [hnE])
  have HGM := Lib.hid (fun i hi => goodL_mem M.b nE i hi)
  have hgl := goodL_le M.b nE
  have PI := Lib.hid (plc_in M hot)
  have HC2 := Lib.hid (fun (W : World) (b : Below w.heap.size w W) => (show ∀ j, W.frozen? ⟨gC, j, none⟩ = false from fun j => (hC.later b (Nat.le_refl _)).free hnC j))
  have hz1 : (w.alloc (.cells #[.pointer (some ⟨g8, 0, none⟩)] 186)).heap.size = w.heap.size + 1 := by simp
  obtain ⟨W0, hW0⟩ : ∃ W, W = w.alloc (.cells #[.pointer (some ⟨g8, 0, none⟩)] 186) := ⟨_, rfl⟩
  rw [← hW0] at HK hz1
  have BZ : Below (w.heap.size + 1) W0 W0.drew := (Below.refl _ _).drew
  have Z0 : w.heap.size + 1 ≤ W0.drew.heap.size := by show _ ≤ W0.heap.size; omega
  have kA := (HK.out _ BZ).1
  clear hR hE hB hC o bx
  generalize plcV M hot = v at *
  go_enter Try.func93, Try.ntmps93
  go_upto_region 2 with fail
  rw [← hW0]
  clear hW0 hz1
  go_region_held3 (fun W => W.cell? ⟨w.heap.size, 0, none⟩ = some (.pointer (some ⟨g8, 0, none⟩)) ∧ W.cell? ⟨g8, 0, none⟩ = some (.slice AE nE cE) ∧ W.cell? ⟨g8, 1, none⟩ = some (.slice AB nB cB) ∧ W.cell? ⟨g8, 2, none⟩ = some (.slice (some ⟨gC, 0, none⟩) nC cC))
    (first
      | with_reducible exact kA
      | with_reducible exact kB
      | with_reducible exact kC)
    (first
      | (go_at_call 107
         with_reducible refine (HGB.out _ (HK.out _ BZ).2.1).mono ?_
         rintro e w2 ⟨v2, rfl, ho, q⟩
         have B2 := BZ.trans (q.mono Z0)
         have Z2 := Nat.le_trans Z0 q.size
         have kB := (HK.out _ B2).1
         have HDF := Lib.hid (delP_own W0.drew.heap.size w.heap.size v2 (goodL M.b nE) (usedP M.c) w2 ho (by omega) q.size (fun W i hi b => usd_any w.heap.size g8 gC nC cC _ _ _ M.c _ W (HK.out W (B2.trans (b.mono Z0))).2.2.2.1 (HK.out W (B2.trans (b.mono Z0))).2.2.2.2.1 (HK.out W (B2.trans (b.mono Z0))).2.2.1 (HGM.out i hi).1 (by have := (HGM.out i hi).2; omega)))
         clear ho)
      | (go_at_call 106
         with_reducible refine HDF.out.mono ?_
         rintro e w3 ⟨v3, rfl, n3, q3⟩
         have B3 := B2.trans (q3.mono Z0)
         have Z3 := Nat.le_trans Z2 q3.size
         have kC := (HK.out _ B3).1
         have N3 := Lib.hid n3
         clear n3))
  all_goals
    obtain ⟨q0, q1, q2, q4⟩ := kC
    have HPP := Lib.hid (HPF.out w3 (HK.out _ B3).2.1 v3 (by rw [← HFW.out]; exact N3.out))
    clear HDF kA kB HGB HPF HGM HFW N3
    go_wp2_with fail
    clear q0 q1 q2 q4
    refine HPP.out.mono ?_
    rintro e w4 ⟨rfl, q⟩
    have B4 := B3.trans (q.mono Z3)
    clear q HPP
    obtain ⟨⟨q0, q1, q2, q4⟩, bw, hc, _⟩ := HK.out _ B4
    have hfz := HC2.out _ bw
    have BW := Lib.hid bw
    clear bw HK
    have PJ := PI.out
    clear PI
    rcases PJ with ⟨_, h⟩ | ⟨_, h1, h2⟩
    · subst h
      clear hc hfz
      go_wp2
      go_ret
      first | exact ⟨rfl, BW.out⟩ | exact ⟨rfl, .inl ⟨rfl, BW.out⟩⟩
    · obtain ⟨j, rfl⟩ : ∃ j : Nat, v = (j : Int) := ⟨v.toNat, by omega⟩
      have d1 : ((j : Int) != -1) = true := by simp
      have c5 := hc j (by omega)
      have f5 := hfz j
      have hjI : (j : Int) < (nC : Int) := by omega
      have HH := Lib.hid h2
      clear hc hfz h1 h2
      go_wp2
      go_ret
      exact ⟨rfl, .inr ⟨⟨by omega, HH.out⟩, w4, BW.out, by simp⟩⟩
end Go.Proofs.Ytainlanblpccjaa
