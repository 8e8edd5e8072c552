/- The proof's own lemmas, part 35: WrP. -/
import Derived.Test.YtainlanblpccjaaProg
import Derived.Test.YtainlanblpccjaaMg33
import Derived.Test.YtainlanblpccjaaMg22
import Derived.Test.YtainlanblpccjaaMg25
import Derived.Lib.SliceRun
import Derived.Lib.LazyBuf
/- The block for static levelling, in the program: the contracts. -/
namespace Go.Proofs.Ytainlanblpccjaa
open Go.RowKit Go.Maps
set_option linter.unusedVariables false
set_option linter.unusedSimpArgs false
/-- What the filter keeps of the first j elements. -/
def keptL (p : Int → Bool) (L : List Int) (j : Nat) : List Int := (L.take j).filter fun x => !p x
theorem keptL_succ (p : Int → Bool) (L : List Int) (j : Nat) (h : j < L.length) : keptL p L (j + 1) = if p (L.getD j 0) = true then keptL p L j else keptL p L j ++ [L.getD j 0] := by
  unfold keptL
  rw [List.take_succ_eq_append_getElem h, List.filter_append, List.getD_eq_getElem?_getD, List.getElem?_eq_getElem h]
  simp only [Option.getD_some, List.filter_cons, List.filter_nil]
  cases p L[j] <;> simp
theorem keptL_le (p : Int → Bool) (L : List Int) (j : Nat) : (keptL p L j).length ≤ j := by
  unfold keptL
  have := List.length_filter_le (fun x => !p x) (L.take j)
  rw [List.length_take] at this
  omega
theorem keptL_all (p : Int → Bool) (L : List Int) : keptL p L L.length = L.filter fun x => !p x := by unfold keptL; rw [List.take_length]
/-- Nothing of the first j is struck. -/
theorem keptL_same (p : Int → Bool) (L : List Int) (j : Nat) (hj : j ≤ L.length) (h : ∀ i, i < j → p (L.getD i 0) = false) : keptL p L j = L.take j := by
  induction j with
  | zero => rfl
  | succ j ih =>
    rw [keptL_succ p L j (by omega), h j (by omega), ih (by omega) (fun i hi => h i (by omega)), List.take_succ_eq_append_getElem (by omega), List.getD_eq_getElem?_getD, List.getElem?_eq_getElem (by omega)]
    rfl
theorem ps1_any (gC gM : Nat) (S : Int → Bool) (m : Nat) (x : Int) (w : World) (hC : Rw w gC 131 #[.map (some gM)]) (hS : BSet w gM S m) (hx : WfI x) :
    Calls Try.prog 105 #[.int .i64 x, .pointer (some ⟨gC, 0, none⟩)] w fun e w' => e = .returned (.bool (S x)) ∧ w = w' := by
  have c0 := hC.cell 0
  simp only [List.getElem?_toArray, List.getElem?_cons_zero] at c0
  have hl := hS.look hx
  clear hC hS
  go_enter Try.func105, Try.ntmps105
  go_wp2
  go_ret
  exact ⟨rfl, rfl⟩
theorem idxF_any (b c : Nat) (L : List Int) (p : Int → Bool) (gC : Nat) (w : World) (hL : L.length ≤ 1048576) (hx : ∀ i, i < L.length → w.cell? ⟨b, i, none⟩ = some (.int .i64 (L.getD i 0)))
    (hp : ∀ i, i < L.length → Calls Try.prog 105 #[.int .i64 (L.getD i 0), .pointer (some ⟨gC, 0, none⟩)] w fun e w' => e = .returned (.bool (p (L.getD i 0))) ∧ w = w') :
    Calls Try.prog 169 #[.slice (some ⟨b, 0, none⟩) L.length c, .func (.func 105) #[] #[.pointer (some ⟨gC, 0, none⟩)]] w fun e w' =>
      ((∃ i : Nat, i < L.length ∧ p (L.getD i 0) = true ∧ (∀ j, j < i → p (L.getD j 0) = false) ∧ e = .returned (.int .i64 (i : Int))) ∨ ((∀ j, j < L.length → p (L.getD j 0) = false) ∧ e = .returned (.int .i64 (-1)))) ∧ w = w' := by
  obtain ⟨n, hn⟩ : ∃ n, n = L.length := ⟨_, rfl⟩
  rw [← hn] at hL hx hp ⊢
  have hnm : (n : Int) ≤ 1048576 := by omega
  have HX := Lib.hid hx
  have HP := Lib.hid hp
  clear hx hp hn hL
  go_enter Try.func169, Try.ntmps169
  go_wp2
  go_loop [8] (fun i => ∃ k : Nat, k ≤ n ∧ i = .int .i64 k ∧ Hid (∀ j, j < k → p (L.getD j 0) = false)) (fun i => n - (intOf i).toNat)
  case atStart => exact ⟨0, by omega, rfl, Lib.hid fun j hj => by omega⟩
  case round =>
    obtain ⟨k, hk, rfl, HB⟩ := hrel
    by_cases hlt : k < n
    · have hki : (k : Int) < (n : Int) := by omega
      have hc := HX.out k hlt
      have HPK := Lib.hid (HP.out k hlt)
      have HY := Lib.hid (fun (e : p (L.getD k 0) = false) => show ∀ j, j < k + 1 → p (L.getD j 0) = false from fun j hj => by
        by_cases f : j = k
        · subst f; exact e
        · exact HB.out j (by omega))
      have HK := Lib.hid (fun (e : p (L.getD k 0) = true) => show ∃ i : Nat, i < n ∧ p (L.getD i 0) = true ∧ (∀ j, j < i → p (L.getD j 0) = false) ∧ Ending.returned (.int .i64 (k : Int)) = .returned (.int .i64 (i : Int)) from ⟨k, hlt, e, HB.out, rfl⟩)
      generalize L.getD k 0 = y at *
      cases hp : p y with
      | true =>
        rw [hp] at HPK
        have HG := Lib.hid (HK.out hp)
        clear HY HK HP HX HB hp
        go_wp2_with fail
        refine HPK.out.mono ?_
        rintro e w1 ⟨rfl, rfl⟩
        go_wp2
        go_ret
        exact ⟨.inl HG.out, rfl⟩
      | false =>
        rw [hp] at HPK
        have HG := Lib.hid (HY.out hp)
        clear HY HK HP HX HB hp
        go_wp2_with fail
        refine HPK.out.mono ?_
        rintro e w1 ⟨rfl, rfl⟩
        go_wp2
        go_round
        case rel => exact ⟨k + 1, by omega, by go_num, HG⟩
        case measure => simp [intOf]; omega
    · obtain rfl : k = n := by omega
      go_wp2
      go_ret
      exact ⟨.inr ⟨HB.out, rfl⟩, rfl⟩
theorem grown_setB {w wr : World} {b : Nat} (h : w.grownBy wr (some b)) (k : Nat) (u : Value) : w.grownBy (wr.setCell ⟨b, k, none⟩ u) (some b) :=
  ⟨h.os, h.tape, h.output, by simpa using h.size, fun i hi hne => (Below.heap_setCell wr ⟨b, k, none⟩ u i (fun e => hne (by rw [e]))).trans (h.block i hi hne)⟩
theorem grown_setsB {w : World} {b : Nat} : ∀ (vs : List Value) (o : Nat) (wr : World), w.grownBy wr (some b) → w.grownBy (wr.setCells b o vs) (some b)
  | [], _, _, h => h
  | v :: vs, o, wr, h => grown_setsB vs (o + 1) _ (grown_setB h o v)
theorem grown_same (w : World) (row : Option Nat) : w.grownBy w row := ⟨rfl, rfl, rfl, Nat.le_refl _, fun _ _ _ => rfl⟩
set_option maxHeartbeats 2000000 in
theorem delF_any (B b n c : Nat) (L : List Int) (p : Int → Bool) (gC gM : Nat) (w : World) (hown : IntsOwn w B (.slice (some ⟨b, 0, none⟩) n c) L) (hn : L.length = n) (hnc : n ≤ c) (hcm : c ≤ 9223372036854775807) (hL : n ≤ 1048576) (hbw : b < w.heap.size) (hC : gC ≠ b) (hM : gM ≠ b) (hCl : gC < w.heap.size) (hMl : gM < w.heap.size)
    (hp : ∀ (W : World) (i : Nat), i < n → W.heap[gC]? = w.heap[gC]? → W.heap[gM]? = w.heap[gM]? → Calls Try.prog 105 #[.int .i64 (L.getD i 0), .pointer (some ⟨gC, 0, none⟩)] W fun e w' => e = .returned (.bool (p (L.getD i 0))) ∧ W = w') :
    Calls Try.prog 106 #[.slice (some ⟨b, 0, none⟩) n c, .func (.func 105) #[] #[.pointer (some ⟨gC, 0, none⟩)]] w fun e w' =>
      e = .returned (.slice (some ⟨b, 0, none⟩) (keptL p L n).length c) ∧ (∀ i, i < (keptL p L n).length → w'.cell? ⟨b, i, none⟩ = some (.int .i64 ((keptL p L n).getD i 0))) ∧ w.grownBy w' (some b) := by
  have hcell : ∀ i, i < n → w.cell? ⟨b, i, none⟩ = some (.int .i64 (L.getD i 0)) := fun i hi => hown.cell hn hi
  have HIX := Lib.hid (by
    have := idxF_any b c L p gC w (by omega) (fun i hi => hcell i (by omega)) (fun i hi => hp w i (by omega) rfl rfl)
    rw [hn] at this; exact this)
  have hnm : (n : Int) ≤ 1048576 := by omega
  have hncI : (n : Int) ≤ (c : Int) := by omega
  have HP := Lib.hid hp
  have HOWN := Lib.hid hown
  have HN := Lib.hid hn
  have HLE := Lib.hid (keptL_le p L)
  have HSAME := Lib.hid (keptL_same p L)
  have HSUCC := Lib.hid (keptL_succ p L)
  have HCELL := Lib.hid hcell
  clear hown hp hcell
  go_enter Try.func106, Try.ntmps106
  go_wp2_with fail
  refine HIX.out.mono ?_
  rintro e w1 ⟨hor, rfl⟩
  rcases hor with ⟨t, ht, hpt, hbef, rfl⟩ | ⟨hno, rfl⟩
  case inr =>
    have hk : keptL p L n = L := by rw [HSAME.out n (by rw [HN.out]; exact Nat.le_refl _) (fun i hi => hno i hi), ← HN.out, List.take_length]
    have HK := Lib.hid hk
    have HC2 := Lib.hid HCELL.out
    clear HIX HP HOWN HLE HSAME HSUCC HCELL hno hk
    go_wp2
    go_ret
    exact ⟨by rw [HK.out, HN.out]; rfl, fun i hi => by rw [HK.out, HN.out] at hi; rw [HK.out]; exact HC2.out i hi, grown_same _ _⟩
  have hk0 : keptL p L (t + 1) = L.take t := by
    rw [HSUCC.out t (by rw [HN.out]; exact ht), hpt, if_pos rfl]
    exact HSAME.out t (by rw [HN.out]; omega) (fun i hi => hbef i hi)
  have hlen0 : (keptL p L (t + 1)).length = t := by rw [hk0, List.length_take, HN.out]; omega
  have T0 := Lib.hid (show L.take t = keptL p L (t + 1) from hk0.symm)
  have TL := Lib.hid hlen0
  have G0 := Lib.hid (grown_same w (some b))
  have d1 : ((t : Int) == -1) = false := by
    rw [beq_eq_false_iff_ne]; omega
  have hti : (t : Int) < 1048576 := by omega
  clear HIX hpt hbef hk0 hlen0
  go_wp2
  clear d1
  go_loopw [5, 6] (fun i j wr => ∃ (k t : Nat) (R : List Int), k ≤ n ∧ t < k ∧ i = .int .i64 (t : Int) ∧ j = .int .i64 (k : Int) ∧ Hid (t = (keptL p L k).length) ∧ Hid (IntsOwn wr B (.slice (some ⟨b, 0, none⟩) n c) R) ∧ Hid (R.length = n) ∧ Hid (R.take t = keptL p L k) ∧ Hid (∀ s, k ≤ s → s < n → R.getD s 0 = L.getD s 0) ∧ Hid (w.grownBy wr (some b))) (fun _ j _ => n - (intOf j).toNat)
  case atStart => exact ⟨t + 1, t, L, by omega, by omega, rfl, by go_num, Lib.hid TL.out.symm, HOWN, HN, T0, Lib.hid (fun s _ _ => rfl), G0⟩
  case round =>
    clear T0 TL G0
    obtain ⟨k, t, R, hk, htk, rfl, rfl, H1, HO, HRL, HT, HR, HG⟩ := hrel
    by_cases hlt : k < n
    · have hki : (k : Int) < (n : Int) := by omega
      have e1 := HO.out.cell HRL.out hlt
      rw [HR.out k (Nat.le_refl _) hlt] at e1
      have HPK := Lib.hid (HP.out wr k hlt (HG.out.block gC hCl (fun e => hC (Option.some.inj e))) (HG.out.block gM hMl (fun e => hM (Option.some.inj e))))
      have HS := Lib.hid (HSUCC.out k (by rw [HN.out]; exact hlt))
      have HST := Lib.hid (fun (y : Int) => HO.out.stored HRL.out t y)
      have hfr := HO.out.free HRL.out t
      have e2 := HO.out.cell (j := t) HRL.out (by omega)
      generalize hy : L.getD k 0 = y at *
      generalize R.getD t 0 = z at *
      have HYL := Lib.hid hy
      have htn : (t : Int) < (n : Int) := by omega
      clear hy
      cases hpy : p y with
      | true =>
        have HS2 := Lib.hid (show keptL p L (k + 1) = keptL p L k by rw [HS.out, if_pos hpy])
        rw [hpy] at HPK
        clear HS HST hpy hfr e2
        go_wp2_with fail
        refine HPK.out.mono ?_
        rintro e w2 ⟨rfl, rfl⟩
        go_wp2
        go_roundw
        case rel => exact ⟨k + 1, t, R, by omega, by omega, rfl, by go_num, Lib.hid (by rw [HS2.out]; exact H1.out), HO, HRL, Lib.hid (by rw [HS2.out]; exact HT.out), Lib.hid (fun s hs1 hs2 => HR.out s (by omega) hs2), HG⟩
        case measure => simp [intOf]; omega
      | false =>
        have HS2 := Lib.hid (show keptL p L (k + 1) = keptL p L k ++ [y] by rw [HS.out, if_neg (by rw [hpy]; simp)])
        rw [hpy] at HPK
        have HO2 := Lib.hid (HST.out y)
        have HG2 := Lib.hid (grown_setB HG.out t (.int .i64 y))
        clear HS HST hpy
        go_wp2_with fail
        refine HPK.out.mono ?_
        rintro e w2 ⟨rfl, rfl⟩
        go_wp2
        go_roundw
        case rel =>
          refine ⟨k + 1, t + 1, R.set t y, by omega, by omega, by go_num, by go_num, Lib.hid ?_, HO2, Lib.hid (by rw [List.length_set]; exact HRL.out), Lib.hid ?_, Lib.hid ?_, HG2⟩
          · rw [HS2.out, List.length_append, List.length_singleton, H1.out]
          · rw [HS2.out, List.take_succ_eq_append_getElem (by rw [List.length_set, HRL.out]; omega), List.getElem_set_self, List.take_set_of_le (Nat.le_refl _), HT.out]
          · intro s hs1 hs2
            rw [← HR.out s (by omega) hs2, List.getD_eq_getElem?_getD, List.getD_eq_getElem?_getD, List.getElem?_set_ne (by omega)]
        case measure => simp [intOf]; omega
    · obtain rfl : k = n := by omega
      have hlt2 : (t : Int) ≤ (k : Int) := by omega
      have hlt3 : (t : Int) ≤ (c : Int) := by omega
      have HCE := Lib.hid (fun (i : Nat) (hi : i < t) => HO.out.cell (j := i) HRL.out (by omega))
      have HGE := Lib.hid (fun (i : Nat) (hi : i < t) => show R.getD i 0 = (keptL p L k).getD i 0 by rw [← HT.out, List.getD_eq_getElem?_getD, List.getD_eq_getElem?_getD, List.getElem?_take, if_pos hi])
      have hcl : ∀ (m cc : Nat) (ty : TypeId), m = k - t → (Builtin.clear_ #[22] ty #[.slice (some ⟨b, t, none⟩) m cc]).run Try.prog wr = .ok (.tuple #[]) (wr.setCells b t (List.replicate m (.int .i64 0))) := fun m cc ty hm => by
        subst hm
        exact Lib.run_clear_slice wr 22 2 ty (.int .i64 0) Try.underlying22 zeroInt64 rfl rfl b t (k - t) cc (by omega)
          (fun j hj => by rw [HO.out.cell (j := t + j) HRL.out (by omega)]; rfl) (fun j hj => HO.out.free HRL.out (t + j))
      have HG3 := Lib.hid (grown_setsB (List.replicate (k - t) (.int .i64 0)) t _ HG.out)
      have HC3 := Lib.hid (fun (i : Nat) (hi : i < t) => show (wr.setCells b t (List.replicate (k - t) (.int .i64 0))).cell? ⟨b, i, none⟩ = some (.int .i64 ((keptL p L k).getD i 0)) from by
        rw [World.cell?_setCells_out b _ _ _ _ (fun _ _ => .inl hi), HCE.out i hi, HGE.out i hi])
      have hcl1 := fun cc ty => hcl (k - t) cc ty rfl
      clear HP HOWN HLE HSAME HSUCC HCELL HO HT HR HG hcl HCE HGE
      go_wp2_with (simp only [hcl1])
      go_ret
      exact ⟨by rw [← H1.out]; rfl, fun i hi => HC3.out i (by rw [H1.out]; exact hi), HG3.out⟩
end Go.Proofs.Ytainlanblpccjaa
