/- The model's copy of a map (l09Own): the contract. -/
import Derived.Test.YtgkanacaijlljaaProg
import Derived.Test.YtgkanacaijlljaaPmC
import Derived.Deep.RegionLaw
namespace Go.Proofs.Ytgkanacaijlljaa
open Go.RowKit
set_option linter.unusedVariables false
set_option linter.unusedSimpArgs false
set_option maxHeartbeats 4000000 in
set_option maxRecDepth 100000 in
theorem specOwn_any (g : Nat) (b p : Int) (mp : List Int) (tr : List Bool) (u v : Value) (w : World) (hi : Nat) (hR : Rw w g 59 #[.int .i64 b, .int .i64 p, u, v]) (hu : NI w hi u mp) (hv : NB w hi v tr) (hh : hi ≤ w.heap.size) (h0 : 0 < mp.length) (h0' : 0 < tr.length) (hl : mp.length ≤ 1048576) (hl' : tr.length ≤ 1048576) :
    Calls Try.prog 81 #[.pointer (some ⟨g, 0, none⟩)] w (PmCp b p mp tr w) := by
  obtain ⟨W0, hW0⟩ : ∃ W0, W0 = w.alloc (.cells #[.int .i64 0, .int .i64 0, .slice none 0 0, .slice none 0 0] 59) := ⟨_, rfl⟩
  obtain ⟨z, hzE⟩ : ∃ z, z = w.heap.size := ⟨_, rfl⟩
  have BW0 := Lib.hid (show Below z w W0 ∧ W0.heap.size = z + 1 ∧ Rw W0 z 59 #[.int .i64 0, .int .i64 0, .slice none 0 0, .slice none 0 0] from by
    rw [hW0, hzE]
    exact ⟨(Below.refl w.heap.size w).alloc (Nat.le_refl _) _, by simp, Rw.new w _ _⟩)
  have hg := hR.lt
  rw [← hzE] at hg hh
  have HC := Lib.hid (fun (W : World) (q : Below z w W) => ownInts_any u mp W hi (hu.below q hh) (Nat.le_trans hh (by have := q.size; omega)) h0 hl)
  have HT := Lib.hid (fun (W : World) (q : Below z w W) => hv.below q hh)
  have HN := Lib.hid (And.intro (And.intro h0 h0') hl')
  obtain ⟨A, n, c, rfl⟩ := hu.slice
  obtain ⟨A', n', c', rfl⟩ := hv.slice
  have htl : tr.length = n' := by obtain ⟨X1, X2, X3, e, _, _, hn, _⟩ := hv; injection e with e1 e2 e3; omega
  obtain ⟨pb, po, rfl⟩ : ∃ pb po, A' = some ⟨pb, po, none⟩ := by
    obtain ⟨X1, X2, X3, e, _, _, hn, hA⟩ := hv
    injection e with e1 e2 e3
    obtain ⟨pb, po, e4, _⟩ := hA (by omega)
    exact ⟨pb, po, by rw [e1, e4]⟩
  have HTC := Lib.hid (fun (W : World) (q : Below z w W) => show ∀ i, i < n' → W.cell? ⟨pb, po + i, none⟩ = some (.bool (tr.getD i false)) from by
    obtain ⟨X1, X2, X3, e, _, _, hn, hA⟩ := HT.out W q
    injection e with e1 e2 e3
    obtain ⟨pb', po', e4, _, hx⟩ := hA (by omega)
    have e5 := e1.trans e4
    injection e5 with e5
    injection e5 with e6 e7
    subst e6 e7 e2
    exact hx)
  have KS := Lib.hid (fun (W : World) (q : Below z w W) => show W.cell? ⟨g, 0, none⟩ = some (.int .i64 b) ∧ W.cell? ⟨g, 1, none⟩ = some (.int .i64 p) ∧ W.cell? ⟨g, 2, none⟩ = some (.slice A n c) ∧ W.cell? ⟨g, 3, none⟩ = some (.slice (some ⟨pb, po, none⟩) n' c') from (hR.below q hg).four)
  have KP := Lib.hid (fun (W : World) (q : Below (z + 1) W0 W) => show (W.cell? ⟨g, 0, none⟩ = some (.int .i64 b) ∧ W.cell? ⟨g, 1, none⟩ = some (.int .i64 p) ∧ W.cell? ⟨g, 2, none⟩ = some (.slice A n c) ∧ W.cell? ⟨g, 3, none⟩ = some (.slice (some ⟨pb, po, none⟩) n' c')) ∧ Rw W z 59 #[.int .i64 0, .int .i64 0, .slice none 0 0, .slice none 0 0] ∧ Below z w W from
    ⟨KS.out W (BW0.out.1.trans (q.mono (by omega))), BW0.out.2.2.below q (by omega), BW0.out.1.trans (q.mono (by omega))⟩)
  have HL := Lib.hid htl
  have HZ := Lib.hid BW0.out.2.1
  have hb0 : Below (z + 1) W0 W0 := Below.refl _ _
  have HMD := Lib.hid (BoolsOwn.made W0 (B := z + 1) (Nat.le_of_eq HZ.out.symm))
  have HZE := Lib.hid hzE
  clear hR hu hv hh h0 h0' hl hl' htl
  go_enter Try.func81, Try.ntmps81
  go_upto_region 1 with fail
  rw [← hW0, ← hzE]
  clear hW0 hzE
  obtain ⟨⟨k0, k1, k2, k3⟩, kr, kb⟩ := KP.out _ hb0.drew
  go_region_held3 (fun W => W.cell? ⟨g, 0, none⟩ = some (.int .i64 b) ∧ W.cell? ⟨g, 1, none⟩ = some (.int .i64 p) ∧ W.cell? ⟨g, 2, none⟩ = some (.slice A n c) ∧ W.cell? ⟨g, 3, none⟩ = some (.slice (some ⟨pb, po, none⟩) n' c'))
    (first
      | with_reducible exact (KP.out _ hb0.drew).1
      | with_reducible exact (KP.out _ (hb0.alloc (Nat.le_of_eq HZ.out.symm) _).drew).1
      | with_reducible exact (KP.out _ B2).1
      | with_reducible exact (KP.out _ B1).1
      | with_reducible exact (KP.out _ (B1.alloc Z1 _)).1
      | with_reducible exact KS.out _ (bset (bset (bset (bset (KP.out _ B2).2.2 (Nat.le_refl _) _) (Nat.le_refl _) _) (Nat.le_refl _) _) (Nat.le_refl _) _))
    (first
      | (go_at_call 93
         with_reducible refine (HC.out _ (KP.out _ hb0.drew).2.2).mono ?_
         rintro e w1 ⟨v1, rfl, ho, q⟩
         have B1 := hb0.drew.trans (q.mono (by show _ ≤ W0.heap.size; have := HZ.out; omega))
         obtain ⟨A1, n1, c1, rfl⟩ := ho.sliceOfH
         have Z1 : z + 1 ≤ w1.heap.size := by have := B1.size; have := HZ.out; omega
         have HO := Lib.hid (ho.low (B' := z + 1) (by show _ ≤ W0.heap.size; have := HZ.out; omega)))
      | (go_at_call 93
         with_reducible refine (HC.out _ (KP.out _ (hb0.alloc (Nat.le_of_eq HZ.out.symm) _).drew).2.2).mono ?_
         rintro e w1 ⟨v1, rfl, ho, q⟩
         have B1 := (hb0.alloc (Nat.le_of_eq HZ.out.symm) (.cells #[] 4)).drew.trans (q.mono (by show _ ≤ (W0.alloc _).heap.size; have := HZ.out; simp; omega))
         obtain ⟨A1, n1, c1, rfl⟩ := ho.sliceOfH
         have Z2 : z + 1 ≤ w1.heap.size := by have := B1.size; have := HZ.out; omega
         have HP0 := Lib.hid ((show BoolsOwn (W0.alloc (.cells #[] 4)).drew (z + 1) _ _ from HMD.out).later q (Nat.le_refl _))
         have HO := Lib.hid (And.intro ho Z2))
      | (go_at_call 93
         with_reducible refine (HC.out _ (KP.out _ B1).2.2).mono ?_
         rintro e w2 ⟨v1, rfl, ho, q⟩
         have B2 := B1.trans (q.mono Z3)
         obtain ⟨A1, n1, c1, rfl⟩ := ho.sliceOfH
         have HF := Lib.hid (And.intro (ho.low (B' := z + 1) Z3) (HP.out.later q (Nat.le_refl _)))
         obtain ⟨d0, d1, d2, d3⟩ := (KP.out _ B2).2.1.four
         obtain ⟨f0, f1, f2, f3, _, _, _, _⟩ := (KP.out _ B2).2.1.frees)
      | (refine step_append_boolL rfl (.tmp 16) (.tmp 20) rfl (.slice (some ⟨w1.heap.size, 0, none⟩) 0 0) [] (by simp [Act.eval]) (BoolsOwn.made w1 (B := w1.heap.size) (Nat.le_refl _)) ((Below.refl w1.heap.size w1).alloc (Nat.le_refl _) _) (by simp) pb po n' c' tr (by simp [Act.eval]) HL.out (HTC.out _ (KP.out _ (B1.alloc Z1 _)).2.2) (by have := HN.out.2; have := HL.out; simp; omega) ?_
         intro v2 w2 hp q _
         have B2 := B1.trans (q.mono Z1)
         obtain ⟨A2, n2, c2, rfl⟩ := hp.sliceOf
         have HF := Lib.hid (And.intro (HO.out.later q (Nat.le_refl _)) (show BoolsOwn w2 (z + 1) (.slice A2 n2 c2) tr from by simpa using hp.low (B' := z + 1) Z1))
         obtain ⟨d0, d1, d2, d3⟩ := (KP.out _ B2).2.1.four
         obtain ⟨f0, f1, f2, f3, _, _, _, _⟩ := (KP.out _ B2).2.1.frees)
      | (refine step_append_boolL rfl (.tmp 16) (.tmp 20) rfl (.slice (some ⟨W0.heap.size, 0, none⟩) 0 0) [] (by simp [Act.eval]) HP0.out B1 HO.out.2 pb po n' c' tr (by simp [Act.eval]) HL.out (HTC.out _ (KP.out _ B1).2.2) (by have := HN.out.2; have := HL.out; simp; omega) ?_
         intro v2 w2 hp q hgr
         have B2 := q
         obtain ⟨A2, n2, c2, rfl⟩ := hp.sliceOf
         have HF := Lib.hid (And.intro ((HO.out.1.kept hgr (.inr (fun e => by
           obtain ⟨y, e4⟩ := own_some HO.out.1 HN.out.1.1
           have e3 := (HO.out.1.blockOf (k := y) (by rw [e4]; rfl)).1
           have e5 : (W0.alloc (.cells #[] 4)).heap.size ≤ y := e3
           rw [e4] at e
           have e6 : y = W0.heap.size := Option.some.inj e
           simp at e5
           omega))).low (B' := z + 1) (by show _ ≤ (W0.alloc _).heap.size; have := HZ.out; simp; omega)) (show BoolsOwn w2 (z + 1) (.slice A2 n2 c2) tr from by simpa using hp))
         obtain ⟨d0, d1, d2, d3⟩ := (KP.out _ B2).2.1.four
         obtain ⟨f0, f1, f2, f3, _, _, _, _⟩ := (KP.out _ B2).2.1.frees)
      | (refine step_append_boolL rfl (.tmp 16) (.tmp 20) rfl (.slice (some ⟨W0.heap.size, 0, none⟩) 0 0) [] (by simp [Act.eval]) (show BoolsOwn (W0.alloc (.cells #[] 4)).drew (z + 1) _ _ from HMD.out) (hb0.alloc (Nat.le_of_eq HZ.out.symm) (.cells #[] 4)).drew (by show _ ≤ (W0.alloc _).heap.size; have := HZ.out; simp; omega) pb po n' c' tr (by simp [Act.eval]) HL.out (HTC.out _ (KP.out _ (hb0.alloc (Nat.le_of_eq HZ.out.symm) _).drew).2.2) (by have := HN.out.2; have := HL.out; simp; omega) ?_
         intro v2 w1 hp q _
         have B1 := q
         obtain ⟨A2, n2, c2, rfl⟩ := hp.sliceOf
         have Z3 : z + 1 ≤ w1.heap.size := by have := B1.size; have := HZ.out; omega
         have HP := Lib.hid (show BoolsOwn w1 (z + 1) (.slice A2 n2 c2) tr from by simpa using hp)))
  all_goals (
    go_wp2
    refine bodyPost_ret (results_cell_row Try.results81 _ _ _ _ _ _ _ rfl (((((KP.out _ B2).2.1.set_ 0 _).set_ 1 _).set_ 2 _).set_ 3 _) Try.underlying59 rfl infoPm) rfl ?_
    obtain ⟨y1, rfl⟩ := own_some HF.out.1 HN.out.1.1
    obtain ⟨y2, rfl⟩ := own_someB HF.out.2 HN.out.1.2
    refine ⟨_, _, _, _, _, _, rfl, (HF.out.1.sames fun k e => ?_).low (by have := HZE.out; omega), (HF.out.2.sames fun k e => ?_).low (by have := HZE.out; omega), ?_⟩
    · have := (HF.out.1.blockOf e).1
      repeat rw [Below.heap_setCell _ ⟨_, _, none⟩ _ k (by simp; omega)]
    · have := (HF.out.2.blockOf e).1
      repeat rw [Below.heap_setCell _ ⟨_, _, none⟩ _ k (by simp; omega)]
    · rw [← HZE.out]
      exact bset (bset (bset (bset (KP.out _ B2).2.2 (Nat.le_refl _) _) (Nat.le_refl _) _) (Nat.le_refl _) _) (Nat.le_refl _) _)
end Go.Proofs.Ytgkanacaijlljaa
