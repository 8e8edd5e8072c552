/- NoteWrite's step, in the model and in the program: the contracts. -/
import Derived.Test.YtgkanacaijlljaaProg
import Derived.Test.YtgkanacaijlljaaHtD
import Derived.Test.YtgkanacaijlljaaMn
namespace Go.Proofs.Ytgkanacaijlljaa
open Go.RowKit
set_option linter.unusedVariables false
set_option linter.unusedSimpArgs false
theorem bumpL_ok {c : List Int} {l : Nat} (hl : l < c.length) (h : ∀ i, i < c.length → CntOk c i) : ∀ i, i < (bumpL c l).length → CntOk (bumpL c l) i := by
  intro i hi
  have hi' : i < c.length := by simpa [bumpL] using hi
  have a := h i hi'
  have b := h l hl
  unfold CntOk bumpL at *
  by_cases e : l = i
  · subst e
    simp only [List.getD_eq_getElem?_getD, List.getElem?_set_self hl, Option.getD_some] at *
    omega
  · simp only [List.getD_eq_getElem?_getD, List.getElem?_set_ne e] at *
    exact a
theorem bumpL_length (c : List Int) (l : Nat) : (bumpL c l).length = c.length := by simp [bumpL]
theorem rw_own_ne {w : World} {m q n c B : Nat} {t : TypeId} {cs : Array Value} {L : List Int} (h : Rw w m t cs) (ho : IntsOwn w B (.slice (some ⟨q, 0, none⟩) n c) L) (ht : t ≠ 2) : m ≠ q := by
  rintro rfl
  rcases ho.2 with ⟨h1, _⟩ | ⟨g, cap, cur, h1, h2, h3, h4⟩
  · cases h1
  · injection h1 with h1 _ _
    injection h1 with h1
    injection h1 with h1
    subst h1
    unfold Rw at h
    rw [h] at h3
    injection h3 with h3
    injection h3 with _ e
    exact ht e
theorem noteH_n (cs : List Int) (x : Int) (j : Nat) (h : x + 1 = 16) : noteH ⟨cs, x⟩ j = ⟨decL (bumpL cs j), 0⟩ := by unfold noteH; simp only [h, if_true]; rfl
theorem noteH_y (cs : List Int) (x : Int) (j : Nat) (h : ¬ x + 1 = 16) : noteH ⟨cs, x⟩ j = ⟨bumpL cs j, x + 1⟩ := by unfold noteH; simp only [h, if_false]
theorem own_some {w : World} {B n c : Nat} {A : Option Addr} {L : List Int} (h : IntsOwn w B (.slice A n c) L) (h0 : 0 < L.length) : ∃ q, A = some ⟨q, 0, none⟩ := by
  rcases h.shape with ⟨_, rfl⟩ | ⟨g, cap, e, _⟩
  · simp at h0
  · injection e with e _ _; exact ⟨g, e⟩
theorem own_len {w : World} {B n c : Nat} {A : Option Addr} {L : List Int} (h : IntsOwn w B (.slice A n c) L) : n = L.length := by
  rcases h.shape with ⟨e, rfl⟩ | ⟨g, cap, e, _⟩
  · injection e
  · injection e
set_option maxHeartbeats 4000000 in
set_option maxRecDepth 100000 in
theorem specNoteP_any (g : Nat) (cs : List Int) (x : Int) (j : Nat) (u : Value) (w : World) (hi : Nat) (hR : Rw w g 27 #[u, .int .i64 x]) (hu : NI w hi u cs) (hh : hi ≤ w.heap.size) (ho : HtOk ⟨cs, x⟩) (hj : j < cs.length) :
    Calls Try.prog 66 #[.pointer (some ⟨g, 0, none⟩), .int .i64 (j : Int)] w (HtPost1 (noteH ⟨cs, x⟩ j) w) := by
  obtain ⟨⟨hn1, hn2⟩, ⟨hx0, hx1⟩, hc⟩ := ho
  simp only at hn1 hn2 hx0 hx1 hc
  obtain ⟨W0, hW0⟩ : ∃ W0, W0 = w.alloc (.cells #[.slice none 0 0, .int .i64 0] 27) := ⟨_, rfl⟩
  have BW0 := Lib.hid (show Below w.heap.size w W0 ∧ W0.heap.size = w.heap.size + 1 ∧ Rw W0 w.heap.size 27 #[.slice none 0 0, .int .i64 0] from by
    rw [hW0]
    exact ⟨(Below.refl w.heap.size w).alloc (Nat.le_refl _) _, by simp, Rw.new w _ _⟩)
  have hg := hR.lt
  have HC := Lib.hid (fun (W : World) (b : Below w.heap.size w W) => ownInts_any u cs W hi (hu.below b hh) (Nat.le_trans hh b.size) (by omega) (by omega))
  obtain ⟨n, hn⟩ : ∃ n, n = cs.length := ⟨_, rfl⟩
  have HN := Lib.hid hn
  obtain ⟨A, na, c, rfl⟩ := hu.slice
  have KP := Lib.hid (fun (W : World) (b : Below (w.heap.size + 1) W0 W) => show (W.cell? ⟨g, 0, none⟩ = some (.slice A na c) ∧ W.cell? ⟨g, 1, none⟩ = some (.int .i64 x)) ∧ Rw W w.heap.size 27 #[.slice none 0 0, .int .i64 0] ∧ Below w.heap.size w W from
    ⟨((hR.below BW0.out.1 hg).below b (by omega)).two, BW0.out.2.2.below b (by omega), BW0.out.1.trans (b.mono (by omega))⟩)
  have HCN := Lib.hid (show ∀ i, i < cs.length → CntOk cs i from hc)
  have HJ := Lib.hid hj
  have hw : IntKind.i64.wrap (x + 1) = x + 1 := IntWalk.i64_in _ (by omega)
  have hnm : n ≤ 48 := by omega
  have hjn : j < n := by omega
  have hb0 : Below (w.heap.size + 1) W0 W0 := Below.refl _ _
  have hz1 : W0.heap.size = w.heap.size + 1 := BW0.out.2.1
  have HZ := Lib.hid hz1
  clear hR hu hh hc hn hn1 hn2 hj hz1
  go_enter Try.func66, Try.ntmps66
  go_upto_region 1 with fail
  rw [← hW0]
  clear hW0
  go_cut [5] (fun p5 wx => ∃ m q n' c', p5 = .pointer (some ⟨m, 0, none⟩) ∧ Hid (Rw wx m 27 #[.slice (some ⟨q, 0, none⟩) n' c', .int .i64 (x + 1)]) ∧ Hid (IntsOwn wx (w.heap.size + 1) (.slice (some ⟨q, 0, none⟩) n' c') cs) ∧ Hid (w.heap.size + 1 ≤ m) ∧ Hid (Rw wx w.heap.size 27 #[.slice none 0 0, .int .i64 0]) ∧ Hid (Below w.heap.size w wx))
  case first =>
    obtain ⟨⟨k0, k1⟩, kr, kb⟩ := KP.out _ hb0.drew
    have hzz := Nat.le_refl W0.heap.size
    go_region_held3 (fun W => W.cell? ⟨g, 0, none⟩ = some (.slice A na c) ∧ W.cell? ⟨g, 1, none⟩ = some (.int .i64 x))
      (first
        | with_reducible exact (KP.out _ hb0.drew).1
        | with_reducible exact (KP.out _ (hb0.alloc (Nat.le_of_eq HZ.out.symm) _).drew).1
        | with_reducible exact (KP.out _ B1).1
        | with_reducible exact (KP.out _ (B1.alloc Z1 _)).1
        | with_reducible exact (KP.out _ (bset (bset B1 Z2 _) Z2 _)).1
        | with_reducible exact (KP.out _ (bset (bset (B1.alloc Z1 _) Z2 _) Z2 _)).1)
      (first
        | (go_at_call 93
           refine (HC.out _ (KP.out _ hb0.drew).2.2).mono ?_
           rintro e w1 ⟨v, rfl, ho, b⟩
           have B1 := hb0.drew.trans (b.mono (by show _ ≤ W0.heap.size; have := HZ.out; omega))
           obtain ⟨A1, n1, c1, rfl⟩ := ho.sliceOfH
           have Z1 : w.heap.size + 1 ≤ w1.heap.size := by have := B1.size; have := HZ.out; omega
           have Z2 : w.heap.size + 1 ≤ w1.heap.size := Z1
           have HO := Lib.hid ho)
        | (go_at_call 93
           refine (HC.out _ (KP.out _ (hb0.alloc (Nat.le_of_eq HZ.out.symm) _).drew).2.2).mono ?_
           rintro e w1 ⟨v, rfl, ho, b⟩
           have B1 := (hb0.alloc (Nat.le_of_eq HZ.out.symm) (.cells #[.slice none 0 0, .int .i64 0] 27)).drew.trans (b.mono (by show _ ≤ (W0.alloc _).heap.size; have := HZ.out; simp; omega))
           obtain ⟨A1, n1, c1, rfl⟩ := ho.sliceOfH
           have RZ := Lib.hid ((show Rw (W0.alloc (.cells #[.slice none 0 0, .int .i64 0] 27)).drew W0.heap.size 27 #[.slice none 0 0, .int .i64 0] from Rw.new W0 27 #[.slice none 0 0, .int .i64 0]).below b (by show _ < (W0.alloc _).heap.size; simp))
           obtain ⟨d0, d1⟩ := RZ.out.two
           obtain ⟨f0, f1, _, _, _, _, _, _⟩ := RZ.out.frees
           have Z2 : w.heap.size + 1 ≤ W0.heap.size := Nat.le_of_eq HZ.out.symm
           have HO := Lib.hid ho))
    · obtain ⟨q, rfl⟩ : ∃ q, A1 = some ⟨q, 0, none⟩ := own_some HO.out (by have := HJ.out; omega)
      go_wp2_with fail
      go_meet
      case rel => exact ⟨w1.heap.size, q, n1, c1, rfl, Lib.hid (Rw.new w1 _ _), Lib.hid (show IntsOwn _ _ _ _ from (show IntsOwn (w1.alloc _) _ _ _ from World.ownsRow.alloc HO.out _).low (by show _ ≤ W0.heap.size; have := HZ.out; omega)), Lib.hid Z1, Lib.hid (KP.out _ (B1.alloc Z1 _)).2.1, Lib.hid (KP.out _ (B1.alloc Z1 _)).2.2⟩
    · obtain ⟨q, rfl⟩ : ∃ q, A1 = some ⟨q, 0, none⟩ := own_some HO.out (by have := HJ.out; omega)
      go_wp2_with fail
      go_meet
      case rel => exact ⟨W0.heap.size, q, n1, c1, rfl, Lib.hid ((RZ.out.set_ 0 _).set_ 1 _), Lib.hid ((HO.out.sames fun k e => by
          have := (HO.out.blockOf e).1
          have h2 : (W0.alloc (.cells #[.slice none 0 0, .int .i64 0] 27)).heap.size ≤ k := this
          simp only [World.size_alloc] at h2
          repeat rw [Below.heap_setCell _ ⟨_, _, none⟩ _ k (by simp; omega)]).low (by show _ ≤ (W0.alloc _).heap.size; have := HZ.out; simp; omega)), Lib.hid Z2, Lib.hid (KP.out _ (bset (bset B1 Z2 _) Z2 _)).2.1, Lib.hid (KP.out _ (bset (bset B1 Z2 _) Z2 _)).2.2⟩
  case rest =>
    obtain ⟨m, q, n', c', rfl, RM, HO, HM, R0, HB⟩ := hcut
    obtain ⟨rfl, hn'⟩ : n' = n ∧ True := ⟨by have := own_len HO.out; have := HN.out; omega, trivial⟩
    have HQ := Lib.hid (rw_own_ne RM.out HO.out (by decide))
    have hln : cs.length = n' := HN.out.symm
    obtain ⟨c0, c1⟩ := RM.out.two
    obtain ⟨f0, f1, _, _, _, _, _, _⟩ := RM.out.frees
    have d0 := HO.out.cell (j := j) hln hjn
    have g0 := HO.out.free hln j
    have hjk : (j : Int) < (n' : Int) := by omega
    have HS := Lib.hid (HO.out.stored hln j (min (cs.getD j 0 + 1) 1000000))
    have HRM := Lib.hid (RM.out.farA (g' := q) (k := j) HQ.out (.int .i64 (min (cs.getD j 0 + 1) 1000000)))
    have hqb := (HO.out.blockOf (k := q) rfl).1
    have HR0 := Lib.hid (R0.out.farA (g' := q) (k := j) (by omega) (.int .i64 (min (cs.getD j 0 + 1) 1000000)))
    have HBB := Lib.hid (bset HB.out (g := q) (k := j) (by omega) (.int .i64 (min (cs.getD j 0 + 1) 1000000)))
    have hy := HCN.out j HJ.out
    unfold CntOk at hy
    have HBU := Lib.hid (show bumpL cs j = cs.set j (min (cs.getD j 0 + 1) 1000000) from rfl)
    generalize cs.getD j 0 = y at *
    have hw2 : IntKind.i64.wrap (y + 1) = y + 1 := IntWalk.i64_in _ (by omega)
    have HMI := Lib.hid (fun (W : World) => min_any (y + 1) 1000000 W)
    clear RM HO R0 HB KP HC hb0
    go_wp2_with fail
    go_region_with (go_at_call 94; refine (HMI.out _).mono ?_; rintro e w1 ⟨rfl, rfl⟩)
    all_goals (
      obtain ⟨W2, hW2⟩ : ∃ W, W = (wc.setCell ⟨q, j, none⟩ (.int .i64 (min (y + 1) 1000000))).drew := ⟨_, rfl⟩
      have TM := Lib.hid (show Rw W2 m 27 #[.slice (some ⟨q, 0, none⟩) n' c', .int .i64 (x + 1)] by rw [hW2]; exact HRM.out)
      have TO := Lib.hid (show IntsOwn W2 (w.heap.size + 1) (.slice (some ⟨q, 0, none⟩) n' c') (bumpL cs j) by rw [hW2, HBU.out]; exact HS.out)
      have T0 := Lib.hid (show Rw W2 w.heap.size 27 #[.slice none 0 0, .int .i64 0] by rw [hW2]; exact HR0.out)
      have TB := Lib.hid (show Below w.heap.size w W2 by rw [hW2]; exact HBB.out.drew)
      rw [← hW2]
      clear hW2 HRM HS HR0 HBB c0 c1 f0 f1 d0 g0 hqb
      obtain ⟨c0, c1⟩ := TM.out.two
      by_cases h16 : x + 1 = 16
      · have hq16 : (x + 1 == 16) = true := by simpa using h16
        have HD := Lib.hid (specDecayP_any m (bumpL cs j) (x + 1) _ W2 W2.heap.size TM.out (IO.mk_ TO.out).reads (Nat.le_refl _) (by rw [bumpL_length]; omega) (by rw [bumpL_length]; omega) (bumpL_ok HJ.out HCN.out))
        have HNH := Lib.hid (noteH_n cs x j h16)
        clear h16
        go_wp2_with fail
        refine HD.out.mono ?_
        rintro e w3 ⟨v, rfl, ⟨a, rfl, hi3⟩, b3⟩
        have hx := hi3.1
        obtain ⟨A3, n3, c3, rfl⟩ := hx.sliceOfH
        have S0 := Lib.hid (T0.out.below b3 T0.out.lt)
        have HW := Lib.hid T0.out.lt
        have B3 := Lib.hid (TB.out.trans (b3.mono TB.out.size))
        have HX := Lib.hid hx
        clear c0 c1 hx hi3 b3 HD TM TO T0
        obtain ⟨c0, c1⟩ := S0.out.two
        obtain ⟨f0, f1, _, _, _, _, _, _⟩ := S0.out.frees
        unfold htc
        go_wp2
        refine bodyPost_ret (results_cell_row Try.results66 _ _ _ _ _ _ _ rfl ((S0.out.set_ 0 _).set_ 1 _) Try.underlying27 rfl infoHt) rfl ?_
        rw [HNH.out]
        refine ⟨_, rfl, ⟨_, rfl, ⟨(HX.out.sames fun k e => ?_).low TB.out.size, fun k e => ?_⟩⟩, ?_⟩
        · have := (HX.out.blockOf e).1
          have h2 := HW.out
          repeat rw [Below.heap_setCell _ ⟨_, _, none⟩ _ k (by simp; omega)]
        · have := (HX.out.blockOf e).2; simp; omega
        · repeat refine bset ?_ (Nat.le_refl _) _
          exact B3.out
      · have hq16 : (x + 1 == 16) = false := by simpa using h16
        have HNH := Lib.hid (noteH_y cs x j h16)
        clear h16
        obtain ⟨r0, r1⟩ := T0.out.two
        obtain ⟨f0, f1, _, _, _, _, _, _⟩ := T0.out.frees
        go_wp2
        refine bodyPost_ret (results_cell_row Try.results66 _ _ _ _ _ _ _ rfl ((T0.out.set_ 0 _).set_ 1 _) Try.underlying27 rfl infoHt) rfl ?_
        rw [HNH.out]
        refine ⟨_, rfl, ⟨_, rfl, ⟨(TO.out.sames fun k e => ?_).low (by omega), fun k e => ?_⟩⟩, ?_⟩
        · have := (TO.out.blockOf e).1
          repeat rw [Below.heap_setCell _ ⟨_, _, none⟩ _ k (by simp; omega)]
        · have := (TO.out.blockOf e).2; simp; omega
        · repeat refine bset ?_ (Nat.le_refl _) _
          exact TB.out)
set_option maxHeartbeats 4000000 in
set_option maxRecDepth 100000 in
theorem implNoteP_any (m q n c : Nat) (cs : List Int) (x : Int) (j : Nat) (B B0 : Nat) (w : World) (hR : Rw w m 27 #[.slice (some ⟨q, 0, none⟩) n c, .int .i64 x]) (hO : IntsOwn w B (.slice (some ⟨q, 0, none⟩) n c) cs) (hn : cs.length = n) (hB0 : B0 ≤ m ∧ B0 ≤ q) (ho : HtOk ⟨cs, x⟩) (hj : j < n) :
    Calls Try.prog 69 #[.pointer (some ⟨m, 0, none⟩), .int .i64 (j : Int)] w fun e w' => e = .returned (.tuple #[]) ∧ Rw w' m 27 #[.slice (some ⟨q, 0, none⟩) n c, .int .i64 (noteH ⟨cs, x⟩ j).n] ∧ IntsOwn w' B (.slice (some ⟨q, 0, none⟩) n c) (noteH ⟨cs, x⟩ j).c ∧ (∀ k, k ≠ m → k ≠ q → w'.heap[k]? = w.heap[k]?) ∧ Below B0 w w' ∧ w'.heap.size = w.heap.size := by
  obtain ⟨⟨hn1, hn2⟩, ⟨hx0, hx1⟩, hc⟩ := ho
  simp only at hn1 hn2 hx0 hx1 hc
  have HQ := Lib.hid (rw_own_ne hR hO (by decide))
  have HB0 := Lib.hid hB0
  obtain ⟨c0, c1⟩ := hR.two
  obtain ⟨f0, f1, _, _, _, _, _, _⟩ := hR.frees
  have d0 := hO.cell (j := j) hn hj
  have g0 := hO.free hn j
  have hjk : (j : Int) < (n : Int) := by omega
  have HS := Lib.hid (hO.stored hn j (min (cs.getD j 0 + 1) 1000000))
  have HRM := Lib.hid (hR.farA (g' := q) (k := j) HQ.out (.int .i64 (min (cs.getD j 0 + 1) 1000000)))
  have hy := hc j (by omega)
  unfold CntOk at hy
  have HBU := Lib.hid (show bumpL cs j = cs.set j (min (cs.getD j 0 + 1) 1000000) from rfl)
  have HCN := Lib.hid hc
  have HN := Lib.hid hn
  have HL := Lib.hid (And.intro hn1 hn2)
  have HK := Lib.hid (show (∀ k, k ≠ m → k ≠ q → (w.setCell ⟨q, j, none⟩ (.int .i64 (min (cs.getD j 0 + 1) 1000000))).heap[k]? = w.heap[k]?) ∧ Below B0 w (w.setCell ⟨q, j, none⟩ (.int .i64 (min (cs.getD j 0 + 1) 1000000))) ∧ (w.setCell ⟨q, j, none⟩ (.int .i64 (min (cs.getD j 0 + 1) 1000000))).heap.size = w.heap.size from
    ⟨fun k h1 h2 => Below.heap_setCell w ⟨q, j, none⟩ _ k h2, bset (Below.refl _ _) hB0.2 _, by simp⟩)
  generalize cs.getD j 0 = y at *
  have hw2 : IntKind.i64.wrap (y + 1) = y + 1 := IntWalk.i64_in _ (by omega)
  have hw3 : IntKind.i64.wrap (x + 1) = x + 1 := IntWalk.i64_in _ (by omega)
  clear hR hO hc hn hn1 hn2 hB0
  go_enter Try.func69, Try.ntmps69
  go_wp2_with fail
  go_region
  all_goals (
    obtain ⟨W2, hW2⟩ : ∃ W, W = (w.setCell ⟨q, j, none⟩ (.int .i64 (min (y + 1) 1000000))).drew := ⟨_, rfl⟩
    have TM := Lib.hid (show Rw W2 m 27 #[.slice (some ⟨q, 0, none⟩) n c, .int .i64 x] by rw [hW2]; exact HRM.out)
    have TO := Lib.hid (show IntsOwn W2 B (.slice (some ⟨q, 0, none⟩) n c) (bumpL cs j) by rw [hW2, HBU.out]; exact HS.out)
    have TK := Lib.hid (show (∀ k, k ≠ m → k ≠ q → W2.heap[k]? = w.heap[k]?) ∧ Below B0 w W2 ∧ W2.heap.size = w.heap.size by rw [hW2]; exact ⟨HK.out.1, HK.out.2.1.drew, HK.out.2.2⟩)
    rw [show (if (1000000 : Int) < y + 1 then (1000000 : Int) else y + 1) = min (y + 1) 1000000 by split <;> omega, ← hW2]
    clear hW2 HRM HS HK c0 c1 f0 f1 d0 g0
    obtain ⟨c0, c1⟩ := TM.out.two
    obtain ⟨f0, f1, _, _, _, _, _, _⟩ := TM.out.frees
    have UM := Lib.hid (TM.out.set_ 1 (.int .i64 (x + 1)))
    have UO := Lib.hid (TO.out.sames (w' := W2.setCell ⟨m, 1, none⟩ (.int .i64 (x + 1))) fun k e => Below.heap_setCell W2 ⟨m, 1, none⟩ _ k (by have e2 : q = k := Option.some.inj e; have := HQ.out; show k ≠ m; omega))
    have UK := Lib.hid (show (∀ k, k ≠ m → k ≠ q → (W2.setCell ⟨m, 1, none⟩ (.int .i64 (x + 1))).heap[k]? = w.heap[k]?) ∧ Below B0 w (W2.setCell ⟨m, 1, none⟩ (.int .i64 (x + 1))) ∧ (W2.setCell ⟨m, 1, none⟩ (.int .i64 (x + 1))).heap.size = w.heap.size from
      ⟨fun k h1 h2 => (Below.heap_setCell W2 ⟨m, 1, none⟩ _ k h1).trans (TK.out.1 k h1 h2), bset TK.out.2.1 HB0.out.1 _, by simpa using TK.out.2.2⟩)
    by_cases h16 : x + 1 = 16
    · have hq16 : (x + 1 == 16) = true := by simpa using h16
      have HNH := Lib.hid (noteH_n cs x j h16)
      have HD := Lib.hid (implDecayP_any m q n c (bumpL cs j) (x + 1) B B0 _ UM.out UO.out (by rw [bumpL_length]; exact HN.out) HQ.out HB0.out (by have := HL.out.2; have := HN.out; omega) (bumpL_ok (by have := HN.out; omega) HCN.out))
      clear h16 TM TO TK UM UO
      go_wp2_with fail
      refine HD.out.mono ?_
      rintro e w3 ⟨rfl, dm, dO, dk, db, dz⟩
      have D := Lib.hid (And.intro dm (And.intro dO (And.intro dk (And.intro db dz))))
      clear dm dO dk db dz HD c0 c1 f0 f1
      go_wp2
      go_end0
      rw [HNH.out]
      exact ⟨rfl, D.out.1, D.out.2.1, fun k h1 h2 => (D.out.2.2.1 k h1 h2).trans (UK.out.1 k h1 h2), UK.out.2.1.trans D.out.2.2.2.1, D.out.2.2.2.2.trans UK.out.2.2⟩
    · have hq16 : (x + 1 == 16) = false := by simpa using h16
      have HNH := Lib.hid (noteH_y cs x j h16)
      clear h16
      go_wp2
      go_end0
      rw [HNH.out]
      exact ⟨rfl, UM.out, UO.out, UK.out⟩)
end Go.Proofs.Ytgkanacaijlljaa
