/- The proof's own lemmas, part 27: WrQ. -/
import Derived.Test.YtainlanblpccjaaProg
import Derived.Test.YtainlanblpccjaaMg14
import Derived.Test.YtainlanblpccjaaMg20
import Derived.Test.YtainlanblpccjaaMg21
import Derived.Test.YtainlanblpccjaaMg19
import Derived.Test.YtainlanblpccjaaMg25
import Derived.Test.YtainlanblpccjaaMg13
/- The block for static levelling: facts, the model's contract. -/
namespace Go.Proofs.Ytainlanblpccjaa
open Go.RowKit
set_option linter.unusedVariables false
set_option linter.unusedSimpArgs false
theorem bestBy_app (c : Int → Int → Int) (l r : List Int) (k : Nat) (h : k < l.length) : bestBy c (l ++ r) k = bestBy c l k := by
  induction k with
  | zero => unfold bestBy; rw [List.getD_eq_getElem?_getD, List.getElem?_append_left h, List.getD_eq_getElem?_getD]
  | succ k ih =>
    have e : (l ++ r).getD (k + 1) 0 = l.getD (k + 1) 0 := by rw [List.getD_eq_getElem?_getD, List.getElem?_append_left h, List.getD_eq_getElem?_getD]
    rw [bestBy, bestBy, e, ih (by omega)]
theorem bestF_app (c : Int → Int → Int) (l r : List Int) (k : Nat) (h : k ≤ l.length) : bestF c (l ++ r) k = bestF c l k := by
  cases k with
  | zero => rfl
  | succ k => exact bestBy_app c l r k (by omega)
/-- The best of the good blocks among the first k that are not excluded. -/
def statF (er : List Int) (bad : List Bool) (ex : List Int) (k : Nat) : Int := bestF (byNum (ordE er true)) (statL bad ex k) (statL bad ex k).length
theorem statF_skip {er : List Int} {bad : List Bool} {ex : List Int} {k : Nat} (h : bad.getD k false = true ∨ (k : Int) ∈ ex) : statF er bad ex (k + 1) = statF er bad ex k := by
  have e : statL bad ex (k + 1) = statL bad ex k := by
    unfold statL
    rw [goodL]
    split
    · rfl
    · rename_i hb
      have hx : (k : Int) ∈ ex := by rcases h with h | h; exact absurd h hb; exact h
      rw [List.filter_append, List.filter_cons, List.filter_nil]
      simp [hx]
  unfold statF; rw [e]
theorem statL_le (bad : List Bool) (ex : List Int) (k : Nat) : (statL bad ex k).length ≤ k := by
  unfold statL
  have := List.length_filter_le (fun x => !(ex.contains x)) (goodL bad k)
  have := goodL_le bad k
  omega
theorem statL_mem (bad : List Bool) (ex : List Int) (k : Nat) (i : Nat) (h : i < (statL bad ex k).length) : 0 ≤ (statL bad ex k).getD i 0 ∧ (statL bad ex k).getD i 0 < (k : Int) := by
  have hm : (statL bad ex k).getD i 0 ∈ goodL bad k := by
    have : (statL bad ex k).getD i 0 ∈ statL bad ex k := by rw [List.getD_eq_getElem?_getD, List.getElem?_eq_getElem h]; exact List.getElem_mem h
    unfold statL at this
    exact (List.mem_filter.1 this).1
  obtain ⟨j, hj, e⟩ := List.getElem_of_mem hm
  have := goodL_mem bad k j hj
  rw [List.getD_eq_getElem?_getD, List.getElem?_eq_getElem hj] at this
  simp only [Option.getD_some, e] at this
  exact this
theorem statF_bd (er : List Int) (bad : List Bool) (ex : List Int) (k : Nat) : ((statL bad ex k).length = 0 ∧ statF er bad ex k = -1) ∨ (0 < (statL bad ex k).length ∧ 0 ≤ statF er bad ex k ∧ statF er bad ex k < (k : Int)) := by
  rcases Nat.eq_zero_or_pos (statL bad ex k).length with e | e
  · exact .inl ⟨e, by unfold statF; rw [e]; rfl⟩
  · obtain ⟨m, hm⟩ : ∃ m, (statL bad ex k).length = m + 1 := ⟨(statL bad ex k).length - 1, by omega⟩
    obtain ⟨i, hi, ei⟩ := bestBy_at (byNum (ordE er true)) (statL bad ex k) m
    have := statL_mem bad ex k i (by omega)
    refine .inr ⟨e, ?_⟩
    unfold statF
    rw [hm]
    show 0 ≤ bestBy _ _ m ∧ bestBy _ _ m < _
    rw [ei]; exact this
theorem statF_take {er : List Int} {bad : List Bool} {ex : List Int} {k : Nat} (h1 : ¬ bad.getD k false = true) (h2 : ¬ (k : Int) ∈ ex) :
    statF er bad ex (k + 1) = if statF er bad ex k < 0 ∨ er.getD k 0 < er.getD (statF er bad ex k).toNat 0 then (k : Int) else statF er bad ex k := by
  have e : statL bad ex (k + 1) = statL bad ex k ++ [(k : Int)] := by
    unfold statL
    rw [goodL, if_neg h1, List.filter_append, List.filter_cons, List.filter_nil]
    simp [h2]
  have hbd := statF_bd er bad ex k
  obtain ⟨l, hl⟩ : ∃ l, l = statL bad ex k := ⟨_, rfl⟩
  have hF : statF er bad ex k = bestF (byNum (ordE er true)) l l.length := by rw [hl]; rfl
  have hG : statF er bad ex (k + 1) = bestF (byNum (ordE er true)) (l ++ [(k : Int)]) (l.length + 1) := by unfold statF; rw [e, ← hl]; simp
  rw [← hl] at hbd
  rw [hG, bestF_step, bestF_app _ _ _ _ (Nat.le_refl _), ← hF]
  have hk : (l ++ [(k : Int)]).getD l.length 0 = (k : Int) := by rw [List.getD_eq_getElem?_getD, List.getElem?_append_right (Nat.le_refl _)]; simp
  rw [hk]
  have hc : byNum (ordE er true) (k : Int) (statF er bad ex k) < 0 ↔ er.getD k 0 < er.getD (statF er bad ex k).toNat 0 ∨ (er.getD k 0 = er.getD (statF er bad ex k).toNat 0 ∧ (k : Int) < statF er bad ex k) := by
    rw [byNum_lt]; simp
  by_cases q : statF er bad ex k < 0 ∨ er.getD k 0 < er.getD (statF er bad ex k).toNat 0
  · rw [if_pos q, if_pos]
    rcases q with q | q
    · exact .inl (by rcases hbd with h | h <;> omega)
    · exact .inr (hc.2 (.inl q))
  · rw [if_neg q, if_neg]
    rintro (z | z)
    · exact q (.inl (by rcases hbd with h | h <;> omega))
    · rcases hc.1 z with z | z
      · exact q (.inr z)
      · rcases hbd with h | h <;> omega
set_option maxHeartbeats 4000000 in
set_option maxRecDepth 100000 in
theorem specStat_any (u v z : Value) (er : List Int) (bad : List Bool) (ex : List Int) (w : World) (hi : Nat) (hu : NI w hi u er) (hv : NB w hi v bad) (hz : NI w hi z ex) (hh : hi ≤ w.heap.size) (h1 : er.length ≤ 1048576) (h2 : bad.length ≤ 1048576) (h3 : ex.length ≤ 1048576) :
    Calls Try.prog 35 #[u, v, z] w fun e w' => e = .returned (.int .i64 (statV er bad ex)) ∧ Below w.heap.size w w' := by
  have HG := Lib.hid (fun (W : World) (b : Below w.heap.size w W) (k : Nat) (h : k ≤ 1048576) => specGood_any v bad k W hi (hv.below b hh) h2 h)
  have HH2 := Lib.hid (fun (W : World) (b : Below w.heap.size w W) (k : Nat) (r : Bool) (hr : r = true ↔ (k : Int) ∈ ex) => has_any z ex (k : Int) r W hi (hz.below b hh) hr h3)
  obtain ⟨A, n, c, rfl, _, _, hn, hA⟩ := hu
  obtain ⟨A', m, c', rfl⟩ := hv.slice
  obtain ⟨A2, m2, c2, rfl⟩ := hz.slice
  rw [hn] at h1
  have hnm : (n : Int) ≤ 1048576 := by omega
  have HA := Lib.hid hA
  have HH := Lib.hid hh
  have B0 := Lib.hid (Below.refl w.heap.size w)
  have HV := Lib.hid (show statV er bad ex = statF er bad ex n by unfold statV firstV statF; rw [hn])
  have HBD := Lib.hid (statF_bd er bad ex)
  have HSK := Lib.hid (fun (k : Nat) h => statF_skip (er := er) (bad := bad) (ex := ex) (k := k) h)
  have HTK := Lib.hid (fun (k : Nat) h1 h2 => statF_take (er := er) (bad := bad) (ex := ex) (k := k) h1 h2)
  obtain ⟨F, hF⟩ : ∃ F, F = statF er bad ex := ⟨_, rfl⟩
  have F0 := Lib.hid (show F 0 = -1 by rw [hF]; rfl)
  rw [← hF] at HV HBD HSK HTK
  clear hA hv hz hh h2 h3 hF hn
  go_enter Try.func35, Try.ntmps35
  go_wp2
  go_loopw [7, 8] (fun b i wr => ∃ k : Nat, k ≤ n ∧ i = .int .i64 k ∧ b = .int .i64 (F k) ∧ Hid (Below w.heap.size w wr)) (fun _ i _ => n - (intOf i).toNat)
  case atStart => exact ⟨0, by omega, rfl, by rw [F0.out], B0⟩
  case round =>
    obtain ⟨k, hk, rfl, rfl, HB⟩ := hrel
    by_cases hlt : k < n
    · have hki : (k : Int) < (n : Int) := by omega
      have HGK := Lib.hid (fun (W : World) (b : Below wr.heap.size wr W) => HG.out W (HB.out.trans (b.mono HB.out.size)) k (by omega))
      obtain ⟨rx, hrx⟩ := prop_dec' ((k : Int) ∈ ex)
      have HHK := Lib.hid (fun (W : World) (b : Below wr.heap.size wr W) => HH2.out W (HB.out.trans (b.mono HB.out.size)) k rx hrx)
      have hbd := HBD.out k
      obtain ⟨pb, po, rfl, hp2, hpx⟩ := HA.out (by omega)
      have cell : ∀ i, i < n → wr.cell? ⟨pb, po + i, none⟩ = some (.int .i64 (er.getD i 0)) := fun i hi => (HB.out.cell (p := ⟨pb, po + i, none⟩) (by have := HH.out; show pb < _; omega)).trans (hpx i hi)
      have e1 := cell k hlt
      obtain ⟨ek, hek⟩ : ∃ e, e = er.getD k 0 := ⟨_, rfl⟩
      rw [← hek] at e1
      cases hb : bad.getD k false with
      | true =>
        have HX := Lib.hid (HSK.out k (.inl hb))
        rw [hb] at HGK
        simp only [Bool.not_true] at HGK
        obtain ⟨x, hx⟩ : ∃ x, x = F k := ⟨_, rfl⟩
        rw [← hx] at HX ⊢
        have e2 := e1
        clear HG HH2 HHK HSK HTK HBD HA hb hrx hbd hx hpx cell hek
        obtain ⟨C, hC⟩ : ∃ C : World → Prop, C = fun W => Below wr.heap.size wr W := ⟨_, rfl⟩
        have HC2 := Lib.hid (fun (W : World) (h : C W) => show Below wr.heap.size wr W by rw [hC] at h; exact h)
        have HC1 := Lib.hid (fun (W : World) (h : C W) => show W.cell? ⟨pb, po + k, none⟩ = some (.int .i64 ek) ∧ W.cell? ⟨pb, po + k, none⟩ = some (.int .i64 ek) by
          rw [hC] at h
          have hpw : pb < wr.heap.size := by have := HH.out; have := HB.out.size; omega
          exact ⟨(h.cell (p := ⟨pb, _, none⟩) hpw).trans e1, (h.cell (p := ⟨pb, _, none⟩) hpw).trans e2⟩)
        have hc0 : C wr.drew := by rw [hC]; exact (Below.refl _ _).drew
        clear hC e1 e2
        go_wp2_with fail
        refine wp_region_own (by kernel_rfl) (by kernel_rfl) hc0 ?_
        repeat (first
          | go_big_quiet_skip
          | (go_big_quiet_want
             go_big_quiet_op
             first
               | go_big_quiet_on
               | (apply Exists.intro
                  refine ⟨fun W hW => ?_, ?_⟩
                  · (first
                      | rfl
                      | (go_at_call 109
                         refine (HGK.out _ (HC2.out _ hW)).mono ?_
                         rintro e w1 ⟨rfl, rfl⟩
                         exact ⟨rfl, hW⟩)
                      | (obtain ⟨k0, k1⟩ := (HC1.out _ hW)
                         simp only [k0, k1, Result.andThen]
                         exact ⟨trivial, rfl⟩))
                  go_big_quiet_on)))
        refine wpQuiet_nil ?_
        intro w1 hw1
        have HB1 := Lib.hid (HB.out.trans ((HC2.out _ hw1).mono HB.out.size))
        clear hw1 hc0
        go_wp2
        go_roundw
        case rel => exact ⟨k + 1, by omega, by go_num, by rw [HX.out], HB1⟩
        case measure => simp [intOf]; omega
      | false =>
      rw [hb] at HGK
      simp only [Bool.not_false] at HGK
      cases rx with
      | true =>
        have HX := Lib.hid (HSK.out k (.inr (hrx.1 rfl)))
        obtain ⟨x, hx⟩ : ∃ x, x = F k := ⟨_, rfl⟩
        rw [← hx] at HX ⊢
        have e2 := e1
        clear HG HH2 HSK HTK HBD HA hb hrx hbd hx hpx cell hek
        obtain ⟨C, hC⟩ : ∃ C : World → Prop, C = fun W => Below wr.heap.size wr W := ⟨_, rfl⟩
        have HC2 := Lib.hid (fun (W : World) (h : C W) => show Below wr.heap.size wr W by rw [hC] at h; exact h)
        have HC1 := Lib.hid (fun (W : World) (h : C W) => show W.cell? ⟨pb, po + k, none⟩ = some (.int .i64 ek) ∧ W.cell? ⟨pb, po + k, none⟩ = some (.int .i64 ek) by
          rw [hC] at h
          have hpw : pb < wr.heap.size := by have := HH.out; have := HB.out.size; omega
          exact ⟨(h.cell (p := ⟨pb, _, none⟩) hpw).trans e1, (h.cell (p := ⟨pb, _, none⟩) hpw).trans e2⟩)
        have hc0 : C wr.drew := by rw [hC]; exact (Below.refl _ _).drew
        clear hC e1 e2
        go_wp2_with fail
        refine wp_region_own (by kernel_rfl) (by kernel_rfl) hc0 ?_
        repeat (first
          | go_big_quiet_skip
          | (go_big_quiet_want
             go_big_quiet_op
             first
               | go_big_quiet_on
               | (apply Exists.intro
                  refine ⟨fun W hW => ?_, ?_⟩
                  · (first
                      | rfl
                      | (go_at_call 109
                         refine (HGK.out _ (HC2.out _ hW)).mono ?_
                         rintro e w1 ⟨rfl, rfl⟩
                         exact ⟨rfl, hW⟩)
                      | (go_at_call 110
                         refine (HHK.out _ (HC2.out _ hW)).mono ?_
                         rintro e w1 ⟨rfl, rfl⟩
                         exact ⟨rfl, hW⟩)
                      | (obtain ⟨k0, k1⟩ := (HC1.out _ hW)
                         simp only [k0, k1, Result.andThen]
                         exact ⟨trivial, rfl⟩))
                  go_big_quiet_on)))
        refine wpQuiet_nil ?_
        intro w1 hw1
        have HB1 := Lib.hid (HB.out.trans ((HC2.out _ hw1).mono HB.out.size))
        clear hw1 hc0
        go_wp2
        go_roundw
        case rel => exact ⟨k + 1, by omega, by go_num, by rw [HX.out], HB1⟩
        case measure => simp [intOf]; omega
      | false =>
      have HX0 := Lib.hid (HTK.out k (by rw [hb]; simp) (fun q => by have := hrx.2 q; cases this))
      obtain ⟨x, hx⟩ : ∃ x, x = F k := ⟨_, rfl⟩
      rw [← hx, ← hek] at HX0
      rw [← hx] at hbd ⊢
      rcases hbd with hbd | hbd
      · have hx1 : x = -1 := hbd.2
        subst hx1
        have HX := Lib.hid (show F (k + 1) = (k : Int) by rw [HX0.out, if_pos (.inl (by omega))])
        have e2 := e1
        clear HG HH2 HSK HTK HBD HA hb hrx hbd hx hpx cell hek HX0
        obtain ⟨C, hC⟩ : ∃ C : World → Prop, C = fun W => Below wr.heap.size wr W := ⟨_, rfl⟩
        have HC2 := Lib.hid (fun (W : World) (h : C W) => show Below wr.heap.size wr W by rw [hC] at h; exact h)
        have HC1 := Lib.hid (fun (W : World) (h : C W) => show W.cell? ⟨pb, po + k, none⟩ = some (.int .i64 ek) ∧ W.cell? ⟨pb, po + k, none⟩ = some (.int .i64 ek) by
          rw [hC] at h
          have hpw : pb < wr.heap.size := by have := HH.out; have := HB.out.size; omega
          exact ⟨(h.cell (p := ⟨pb, _, none⟩) hpw).trans e1, (h.cell (p := ⟨pb, _, none⟩) hpw).trans e2⟩)
        have hc0 : C wr.drew := by rw [hC]; exact (Below.refl _ _).drew
        clear hC e1 e2
        go_wp2_with fail
        refine wp_region_own (by kernel_rfl) (by kernel_rfl) hc0 ?_
        repeat (first
          | go_big_quiet_skip
          | (go_big_quiet_want
             go_big_quiet_op
             first
               | go_big_quiet_on
               | (apply Exists.intro
                  refine ⟨fun W hW => ?_, ?_⟩
                  · (first
                      | rfl
                      | (go_at_call 109
                         refine (HGK.out _ (HC2.out _ hW)).mono ?_
                         rintro e w1 ⟨rfl, rfl⟩
                         exact ⟨rfl, hW⟩)
                      | (go_at_call 110
                         refine (HHK.out _ (HC2.out _ hW)).mono ?_
                         rintro e w1 ⟨rfl, rfl⟩
                         exact ⟨rfl, hW⟩)
                      | (obtain ⟨k0, k1⟩ := (HC1.out _ hW)
                         simp only [k0, k1, Result.andThen]
                         exact ⟨trivial, rfl⟩))
                  go_big_quiet_on)))
        refine wpQuiet_nil ?_
        intro w1 hw1
        have HB1 := Lib.hid (HB.out.trans ((HC2.out _ hw1).mono HB.out.size))
        clear hw1 hc0
        go_wp2
        go_roundw
        case rel => exact ⟨k + 1, by omega, by go_num, by rw [HX.out], HB1⟩
        case measure => simp [intOf]; omega
      · obtain ⟨j, rfl⟩ : ∃ j : Nat, x = j := ⟨x.toNat, by omega⟩
        have hjn : j < n := by omega
        have hji : (j : Int) < (n : Int) := by omega
        have e2 := cell j hjn
        rw [Int.toNat_natCast] at HX0
        generalize er.getD j 0 = ej at *
        have dj : decide ((j : Int) < 0) = false := by simp
        by_cases q : ek < ej
        · have d1 : decide (ek < ej) = true := by simpa using q
          have HX := Lib.hid (show F (k + 1) = (k : Int) by rw [HX0.out, if_pos (.inr q)])
          clear HG HH2 HSK HTK HBD HA hb hrx hbd hx hpx cell hek HX0 q
          obtain ⟨C, hC⟩ : ∃ C : World → Prop, C = fun W => Below wr.heap.size wr W := ⟨_, rfl⟩
          have HC2 := Lib.hid (fun (W : World) (h : C W) => show Below wr.heap.size wr W by rw [hC] at h; exact h)
          have HC1 := Lib.hid (fun (W : World) (h : C W) => show W.cell? ⟨pb, po + k, none⟩ = some (.int .i64 ek) ∧ W.cell? ⟨pb, po + j, none⟩ = some (.int .i64 ej) by
            rw [hC] at h
            have hpw : pb < wr.heap.size := by have := HH.out; have := HB.out.size; omega
            exact ⟨(h.cell (p := ⟨pb, _, none⟩) hpw).trans e1, (h.cell (p := ⟨pb, _, none⟩) hpw).trans e2⟩)
          have hc0 : C wr.drew := by rw [hC]; exact (Below.refl _ _).drew
          clear hC e1 e2
          go_wp2_with fail
          refine wp_region_own (by kernel_rfl) (by kernel_rfl) hc0 ?_
          repeat (first
            | go_big_quiet_skip
            | (go_big_quiet_want
               go_big_quiet_op
               first
                 | go_big_quiet_on
                 | (apply Exists.intro
                    refine ⟨fun W hW => ?_, ?_⟩
                    · (first
                        | rfl
                        | (go_at_call 109
                           refine (HGK.out _ (HC2.out _ hW)).mono ?_
                           rintro e w1 ⟨rfl, rfl⟩
                           exact ⟨rfl, hW⟩)
                        | (go_at_call 110
                           refine (HHK.out _ (HC2.out _ hW)).mono ?_
                           rintro e w1 ⟨rfl, rfl⟩
                           exact ⟨rfl, hW⟩)
                        | (obtain ⟨k0, k1⟩ := (HC1.out _ hW)
                           simp only [k0, k1, Result.andThen]
                           exact ⟨trivial, rfl⟩))
                    go_big_quiet_on)))
          refine wpQuiet_nil ?_
          intro w1 hw1
          have HB1 := Lib.hid (HB.out.trans ((HC2.out _ hw1).mono HB.out.size))
          clear hw1 hc0
          go_wp2
          go_roundw
          case rel => exact ⟨k + 1, by omega, by go_num, by rw [HX.out], HB1⟩
          case measure => simp [intOf]; omega
        · have d1 : decide (ek < ej) = false := by simpa using q
          have HX := Lib.hid (show F (k + 1) = (j : Int) by
            rw [HX0.out, if_neg]
            rintro (z | z)
            · omega
            · exact q z)
          clear HG HH2 HSK HTK HBD HA hb hrx hbd hx hpx cell hek HX0 q
          obtain ⟨C, hC⟩ : ∃ C : World → Prop, C = fun W => Below wr.heap.size wr W := ⟨_, rfl⟩
          have HC2 := Lib.hid (fun (W : World) (h : C W) => show Below wr.heap.size wr W by rw [hC] at h; exact h)
          have HC1 := Lib.hid (fun (W : World) (h : C W) => show W.cell? ⟨pb, po + k, none⟩ = some (.int .i64 ek) ∧ W.cell? ⟨pb, po + j, none⟩ = some (.int .i64 ej) by
            rw [hC] at h
            have hpw : pb < wr.heap.size := by have := HH.out; have := HB.out.size; omega
            exact ⟨(h.cell (p := ⟨pb, _, none⟩) hpw).trans e1, (h.cell (p := ⟨pb, _, none⟩) hpw).trans e2⟩)
          have hc0 : C wr.drew := by rw [hC]; exact (Below.refl _ _).drew
          clear hC e1 e2
          go_wp2_with fail
          refine wp_region_own (by kernel_rfl) (by kernel_rfl) hc0 ?_
          repeat (first
            | go_big_quiet_skip
            | (go_big_quiet_want
               go_big_quiet_op
               first
                 | go_big_quiet_on
                 | (apply Exists.intro
                    refine ⟨fun W hW => ?_, ?_⟩
                    · (first
                        | rfl
                        | (go_at_call 109
                           refine (HGK.out _ (HC2.out _ hW)).mono ?_
                           rintro e w1 ⟨rfl, rfl⟩
                           exact ⟨rfl, hW⟩)
                        | (go_at_call 110
                           refine (HHK.out _ (HC2.out _ hW)).mono ?_
                           rintro e w1 ⟨rfl, rfl⟩
                           exact ⟨rfl, hW⟩)
                        | (obtain ⟨k0, k1⟩ := (HC1.out _ hW)
                           simp only [k0, k1, Result.andThen]
                           exact ⟨trivial, rfl⟩))
                    go_big_quiet_on)))
          refine wpQuiet_nil ?_
          intro w1 hw1
          have HB1 := Lib.hid (HB.out.trans ((HC2.out _ hw1).mono HB.out.size))
          clear hw1 hc0
          go_wp2
          go_roundw
          case rel => exact ⟨k + 1, by omega, by go_num, by rw [HX.out], HB1⟩
          case measure => simp [intOf]; omega
    · obtain rfl : k = n := by omega
      clear HG HH2 HSK HTK HBD HA
      go_wp2
      go_ret
      exact ⟨ret_int HV.out.symm, HB.out⟩
end Go.Proofs.Ytainlanblpccjaa
