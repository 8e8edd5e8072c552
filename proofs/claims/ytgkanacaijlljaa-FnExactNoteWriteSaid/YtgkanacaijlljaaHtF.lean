/- DecayHeat and NoteWrite, in the model and in the program: the contracts. -/
import Derived.Test.YtgkanacaijlljaaProg
import Derived.Test.YtgkanacaijlljaaHtE
import Derived.Test.YtgkanacaijlljaaHtJ
namespace Go.Proofs.Ytgkanacaijlljaa
open Go.RowKit
set_option linter.unusedVariables false
set_option linter.unusedSimpArgs false
set_option maxHeartbeats 4000000 in
set_option maxRecDepth 100000 in
theorem specDecay_any (u : Value) (M : Ht) (r : Bool) (w : World) (hi : Nat) (h : HtIn w hi u M) (hh : hi ≤ w.heap.size) (hr : r = true ↔ HtOk M) (hl : HtSz M) :
    Calls Try.prog 28 #[u] w (HtPost1 (decayE M r) w) := by
  obtain ⟨a, rfl, h1⟩ := h
  obtain ⟨A, n, c, rfl⟩ := h1.slice
  obtain ⟨cs, x⟩ := M
  unfold htc
  simp only at *
  obtain ⟨r0, r1, bb⟩ := Rw.two_new w 27 27 #[.slice A n c, .int .i64 x] #[.slice none 0 0, .int .i64 0]
  obtain ⟨W0, hW0⟩ : ∃ W0, W0 = ((w.alloc (.cells #[.slice A n c, .int .i64 x] 27)).alloc (.cells #[.slice none 0 0, .int .i64 0] 27)) := ⟨_, rfl⟩
  have hz0 : W0.heap.size = w.heap.size + 2 := by rw [hW0]; simp
  rw [← hW0] at r0 r1 bb
  have hn : cs.length = n := by obtain ⟨X1, X2, X3, e, _, _, hn, _⟩ := h1; injection e with e1 e2 e3; omega
  have hlz : cs.length ≤ 1048576 := by unfold HtSz at hl; simpa using hl
  have HSZ := Lib.hid hz0
  have KP := Lib.hid (fun (W : World) (b : Below (w.heap.size + 2) W0 W) => show Rw W w.heap.size 27 #[.slice A n c, .int .i64 x] ∧ Rw W (w.heap.size + 1) 27 #[.slice none 0 0, .int .i64 0] ∧ Below w.heap.size w W ∧ NI W hi (.slice A n c) cs ∧ hi ≤ W.heap.size from
    ⟨r0.below b (by omega), r1.below b (by omega), bb.trans (b.mono (by omega)), (h1.below bb hh).below b (by omega), by have := b.size; omega⟩)
  have HN := Lib.hid hn
  have HOK := Lib.hid hr
  have HLZ := Lib.hid hlz
  have HS := Lib.hid (specOkH_any w.heap.size cs x _ r W0 hi r0 (h1.below bb hh) (by omega) hr hlz)
  clear h1 hr hl r0 r1 bb hn hlz hz0
  go_enter Try.func28, Try.ntmps28
  go_wp2_with fail
  rw [← hW0]
  clear hW0
  refine HS.out.mono ?_
  rintro e w1 ⟨rfl, b1⟩
  have B1 := Lib.hid (show Below (w.heap.size + 2) W0 w1 from b1.mono (by rw [HSZ.out]; omega))
  have K := Lib.hid (KP.out _ B1.out)
  clear b1 HS
  obtain ⟨c0, c1⟩ := K.out.2.1.two
  obtain ⟨f0, f1, _, _, _, _, _, _⟩ := K.out.2.1.frees
  cases r with
  | false =>
    go_wp2
    refine bodyPost_ret (results_cell_row Try.results28 _ _ _ _ _ _ _ rfl ((K.out.2.1.set_ 0 _).set_ 1 _) Try.underlying27 rfl infoHt) rfl ⟨_, rfl, HtOwn.zero _ _ _, bset (bset K.out.2.2.1 (by omega) _) (by omega) _⟩
  | true =>
    have HD := Lib.hid (specDecayP_any w.heap.size cs x _ w1 hi K.out.1 K.out.2.2.2.1 K.out.2.2.2.2 (HOK.out.1 rfl).1.1 (HOK.out.1 rfl).1.2 (HOK.out.1 rfl).2.2)
    have HE : Hid (decayE ⟨cs, x⟩ true = ⟨decL cs, 0⟩) := Lib.hid rfl
    go_wp2_with fail
    refine HD.out.mono ?_
    rintro e w2 ⟨v, rfl, ⟨y, rfl, hx⟩, b2⟩
    have hx1 := hx.1
    obtain ⟨A2, n2, c2, rfl⟩ := hx1.sliceOfH
    have hq : w.heap.size + 2 ≤ w1.heap.size := by have := B1.out.size; rw [HSZ.out] at this; exact this
    have B2 := Lib.hid (B1.out.trans (b2.mono hq))
    have K2 := Lib.hid (KP.out _ B2.out)
    have HX := Lib.hid (hx1.low hq)
    clear hx hx1 b2 HD c0 c1 f0 f1
    obtain ⟨c0, c1⟩ := K2.out.2.1.two
    obtain ⟨f0, f1, _, _, _, _, _, _⟩ := K2.out.2.1.frees
    rw [HE.out]
    unfold htc
    go_wp2
    refine bodyPost_ret (results_cell_row Try.results28 _ _ _ _ _ _ _ rfl ((K2.out.2.1.set_ 0 _).set_ 1 _) Try.underlying27 rfl infoHt) rfl ?_
    refine ⟨_, rfl, ⟨_, rfl, ⟨(HX.out.sames fun k e => ?_).low (by have := HSZ.out; omega), fun k e => ?_⟩⟩, ?_⟩
    · have := (HX.out.blockOf e).1
      have hz := HSZ.out
      repeat rw [Below.heap_setCell _ ⟨_, _, none⟩ _ k (by simp; omega)]
    · have := (HX.out.blockOf e).2; simp; omega
    · repeat refine bset ?_ (by omega) _
      exact K2.out.2.2.1
set_option maxHeartbeats 4000000 in
set_option maxRecDepth 100000 in
theorem implDecay_any (u : Value) (M : Ht) (r : Bool) (w : World) (hi : Nat) (h : HtIn w hi u M) (hh : hi ≤ w.heap.size) (hr : r = true ↔ HtOk M) (hl : HtSz M) :
    Calls Try.prog 29 #[u] w (HtPost1 (decayE M r) w) := by
  obtain ⟨a, rfl, h1⟩ := h
  obtain ⟨A, n, c, rfl⟩ := h1.slice
  obtain ⟨cs, x⟩ := M
  unfold htc
  simp only at *
  obtain ⟨r0, r1, bb⟩ := Rw.two_new w 27 27 #[.slice A n c, .int .i64 x] #[.slice none 0 0, .int .i64 0]
  obtain ⟨W0, hW0⟩ : ∃ W0, W0 = ((w.alloc (.cells #[.slice A n c, .int .i64 x] 27)).alloc (.cells #[.slice none 0 0, .int .i64 0] 27)) := ⟨_, rfl⟩
  have hz0 : W0.heap.size = w.heap.size + 2 := by rw [hW0]; simp
  rw [← hW0] at r0 r1 bb
  have hn : cs.length = n := by obtain ⟨X1, X2, X3, e, _, _, hn, _⟩ := h1; injection e with e1 e2 e3; omega
  have hlz : cs.length ≤ 1048576 := by unfold HtSz at hl; simpa using hl
  have HSZ := Lib.hid hz0
  have KP := Lib.hid (fun (W : World) (b : Below (w.heap.size + 2) W0 W) => show Rw W w.heap.size 27 #[.slice A n c, .int .i64 x] ∧ Rw W (w.heap.size + 1) 27 #[.slice none 0 0, .int .i64 0] ∧ Below w.heap.size w W ∧ NI W hi (.slice A n c) cs ∧ hi ≤ W.heap.size from
    ⟨r0.below b (by omega), r1.below b (by omega), bb.trans (b.mono (by omega)), (h1.below bb hh).below b (by omega), by have := b.size; omega⟩)
  have HN := Lib.hid hn
  have HOK := Lib.hid hr
  have HLZ := Lib.hid hlz
  obtain ⟨k0, k1⟩ := r0.two
  have HS := Lib.hid (implHtOk_any (.agg (htc ⟨cs, x⟩ (.slice A n c))) ⟨cs, x⟩ r W0 hi ⟨_, rfl, h1.below bb hh⟩ (by omega) hr hl)
  unfold htc at HS
  clear h1 hr hl r0 r1 bb hn hlz hz0
  go_enter Try.func29, Try.ntmps29
  go_wp2_with fail
  rw [← hW0]
  clear hW0
  refine HS.out.mono ?_
  rintro e w1 ⟨rfl, b1⟩
  have B1 := Lib.hid (show Below (w.heap.size + 2) W0 w1 from b1.mono (by rw [HSZ.out]; omega))
  have K := Lib.hid (KP.out _ B1.out)
  clear b1 HS k0 k1
  obtain ⟨c0, c1⟩ := K.out.2.1.two
  obtain ⟨f0, f1, _, _, _, _, _, _⟩ := K.out.2.1.frees
  cases r with
  | false =>
    go_wp2
    refine bodyPost_ret (results_cell_row Try.results29 _ _ _ _ _ _ _ rfl ((K.out.2.1.set_ 0 _).set_ 1 _) Try.underlying27 rfl infoHt) rfl ⟨_, rfl, HtOwn.zero _ _ _, bset (bset K.out.2.2.1 (by omega) _) (by omega) _⟩
  | true =>
    have hv := HOK.out.1 rfl
    have hcl : 0 < cs.length := by have := hv.1.1; simp only at this; omega
    have HC := Lib.hid (cloneHt_any w.heap.size cs x _ w1 hi K.out.1 K.out.2.2.2.1 K.out.2.2.2.2 hcl HLZ.out)
    have HV := Lib.hid hv
    have HCL := Lib.hid hcl
    clear hv hcl
    go_wp2_with fail
    refine HC.out.mono ?_
    rintro e w2 ⟨v, rfl, ⟨y, rfl, hx⟩, b2⟩
    have hx1 := hx.1
    obtain ⟨A2, n2, c2, rfl⟩ := hx1.sliceOfH
    obtain ⟨q, rfl⟩ := own_some hx1 HCL.out
    obtain rfl : n2 = n := by rw [own_len hx1]; exact HN.out
    have hq : w.heap.size + 2 ≤ w1.heap.size := by have := B1.out.size; rw [HSZ.out] at this; exact this
    have hq2 := b2.size
    have B2 := Lib.hid ((B1.out.trans (b2.mono hq)).alloc (by rw [HSZ.out] at *; omega) (.cells #[.slice (some ⟨q, 0, none⟩) n2 c2, .int .i64 x] 27))
    obtain ⟨W3, hW3⟩ : ∃ W, W = w2.alloc (.cells #[.slice (some ⟨q, 0, none⟩) n2 c2, .int .i64 x] 27) := ⟨_, rfl⟩
    have RM := Lib.hid (show Rw W3 w2.heap.size 27 #[.slice (some ⟨q, 0, none⟩) n2 c2, .int .i64 x] by rw [hW3]; exact Rw.new w2 _ _)
    have OW := Lib.hid (show IntsOwn W3 (w.heap.size + 2) (.slice (some ⟨q, 0, none⟩) n2 c2) cs by rw [hW3]; exact (show IntsOwn (w2.alloc _) _ _ _ from World.ownsRow.alloc hx1 _).low hq)
    have hqq := (hx1.blockOf (k := q) rfl)
    rw [← hW3] at B2
    have K2 := Lib.hid (KP.out _ B2.out)
    have HQ := Lib.hid (show w.heap.size + 2 ≤ w2.heap.size ∧ w.heap.size + 2 ≤ q by omega)
    have HQ1 := Lib.hid (show w.heap.size + 1 ≠ w2.heap.size ∧ w.heap.size + 1 ≠ q by omega)
    clear hx hx1 b2 HC c0 c1 f0 f1 hq hq2 hqq
    unfold htc
    have HD := Lib.hid (implDecayP_any w2.heap.size q n2 c2 cs x (w.heap.size + 2) (w.heap.size + 2) W3 RM.out OW.out HN.out (rw_own_ne RM.out OW.out (by decide)) HQ.out (by have := HV.out.1.2; have := HN.out; simp only at *; omega) HV.out.2.2)
    have HE : Hid (decayE ⟨cs, x⟩ true = ⟨decL cs, 0⟩) := Lib.hid rfl
    rw [HE.out]
    go_wp2_with fail
    rw [← hW3]
    clear hW3
    refine HD.out.mono ?_
    rintro e w3 ⟨rfl, dm, dO, dk, db, dz⟩
    have DM := Lib.hid dm
    have HX := Lib.hid dO
    have B3 := Lib.hid (B2.out.trans (db.mono (by omega)))
    have K3 := Lib.hid (show Rw w3 (w.heap.size + 1) 27 #[.slice none 0 0, .int .i64 0] ∧ Below w.heap.size w w3 from ⟨(dk _ HQ1.out.1 HQ1.out.2).trans K2.out.2.1, (KP.out _ B3.out).2.2.1⟩)
    clear dm dO dk db dz HD
    obtain ⟨c0, c1⟩ := DM.out.two
    obtain ⟨d0, d1⟩ := K3.out.1.two
    obtain ⟨f0, f1, _, _, _, _, _, _⟩ := K3.out.1.frees
    go_wp2
    refine bodyPost_ret (results_cell_row Try.results29 _ _ _ _ _ _ _ rfl ((K3.out.1.set_ 0 _).set_ 1 _) Try.underlying27 rfl infoHt) rfl ?_
    refine ⟨_, rfl, ⟨_, rfl, ⟨(HX.out.sames fun k e => ?_).low (by have := HSZ.out; omega), fun k e => ?_⟩⟩, ?_⟩
    · have := (HX.out.blockOf e).1
      have hz := HSZ.out
      repeat rw [Below.heap_setCell _ ⟨_, _, none⟩ _ k (by simp; omega)]
    · have := (HX.out.blockOf e).2; simp; omega
    · repeat refine bset ?_ (by omega) _
      exact K3.out.2
set_option maxHeartbeats 4000000 in
set_option maxRecDepth 100000 in
theorem specNote_any (u : Value) (M : Ht) (l : Int) (r : Bool) (G : Ht) (cc : Int) (w : World) (hi : Nat) (h : HtIn w hi u M) (hh : hi ≤ w.heap.size) (hr : r = true ↔ HtOk M) (hG : NoteIs M r l G cc) (hl : HtSz M) :
    Calls Try.prog 26 #[u, .int .i64 l] w (HtPost G cc w) := by
  obtain ⟨a, rfl, h1⟩ := h
  obtain ⟨A, n, c, rfl⟩ := h1.slice
  obtain ⟨cs, x⟩ := M
  unfold htc
  simp only at *
  obtain ⟨r0, r1, bb⟩ := Rw.two_new w 27 27 #[.slice A n c, .int .i64 x] #[.slice none 0 0, .int .i64 0]
  obtain ⟨W0, hW0⟩ : ∃ W0, W0 = ((w.alloc (.cells #[.slice A n c, .int .i64 x] 27)).alloc (.cells #[.slice none 0 0, .int .i64 0] 27)) := ⟨_, rfl⟩
  have hz0 : W0.heap.size = w.heap.size + 2 := by rw [hW0]; simp
  rw [← hW0] at r0 r1 bb
  have hn : cs.length = n := by obtain ⟨X1, X2, X3, e, _, _, hn, _⟩ := h1; injection e with e1 e2 e3; omega
  have hlz : cs.length ≤ 1048576 := by unfold HtSz at hl; simpa using hl
  have HSZ := Lib.hid hz0
  have KP := Lib.hid (fun (W : World) (b : Below (w.heap.size + 2) W0 W) => show Rw W w.heap.size 27 #[.slice A n c, .int .i64 x] ∧ Rw W (w.heap.size + 1) 27 #[.slice none 0 0, .int .i64 0] ∧ Below w.heap.size w W ∧ NI W hi (.slice A n c) cs ∧ hi ≤ W.heap.size from
    ⟨r0.below b (by omega), r1.below b (by omega), bb.trans (b.mono (by omega)), (h1.below bb hh).below b (by omega), by have := b.size; omega⟩)
  have HN := Lib.hid hn
  have HOK := Lib.hid hr
  have HLZ := Lib.hid hlz
  have HS := Lib.hid (specOkH_any w.heap.size cs x _ r W0 hi r0 (h1.below bb hh) (by omega) hr hlz)
  clear h1 hr hl r0 r1 bb hn hlz hz0
  go_enter Try.func26, Try.ntmps26
  go_wp2_with fail
  rw [← hW0]
  clear hW0
  refine HS.out.mono ?_
  rintro e w1 ⟨rfl, b1⟩
  have B1 := Lib.hid (show Below (w.heap.size + 2) W0 w1 from b1.mono (by rw [HSZ.out]; omega))
  have K := Lib.hid (KP.out _ B1.out)
  clear b1 HS
  obtain ⟨c0, c1⟩ := K.out.2.1.two
  obtain ⟨f0, f1, _, _, _, _, _, _⟩ := K.out.2.1.frees
  cases r with
  | false =>
    obtain ⟨rfl, rfl⟩ : G = Ht.zero ∧ cc = 1 := by rcases hG with ⟨_, h1, h2⟩ | ⟨h, _⟩ | ⟨h, _⟩; exact ⟨h1, h2⟩; cases h; cases h
    clear hG
    go_wp2
    refine bodyPost_ret (results_row_tmp Try.results26 _ _ _ _ _ _ _ rfl ((K.out.2.1.set_ 0 _).set_ 1 _) Try.underlying27 rfl infoHt) rfl ⟨_, rfl, HtOwn.zero _ _ _, bset (bset K.out.2.2.1 (by omega) _) (by omega) _⟩
  | true =>
    obtain ⟨q0, q1⟩ := K.out.1.two
    have hnm : (n : Int) ≤ 48 := by have := (HOK.out.1 rfl).1.2; have := HN.out; simp only at *; omega
    have hw1 : IntKind.i64.wrap ((n : Int) - 1) = (n : Int) - 1 := IntWalk.i64_in _ (by omega)
    by_cases hin : 0 ≤ l ∧ l ≤ (n : Int) - 1
    case neg =>
      have HI := Lib.hid (fun (W : World) => inr_no l 0 ((n : Int) - 1) W hin)
      obtain ⟨rfl, rfl⟩ : G = Ht.zero ∧ cc = 2 := by
        rcases hG with ⟨h, _⟩ | ⟨_, _, h1, h2⟩ | ⟨_, h, _⟩
        · cases h
        · exact ⟨h1, h2⟩
        · have := HN.out; simp only at h; omega
      clear hG hin
      go_wp2_with fail
      refine (HI.out _).mono ?_
      rintro e w2 ⟨rfl, rfl⟩
      go_wp2
      refine bodyPost_ret (results_row_tmp Try.results26 _ _ _ _ _ _ _ rfl ((K.out.2.1.set_ 0 _).set_ 1 _) Try.underlying27 rfl infoHt) rfl ⟨_, rfl, HtOwn.zero _ _ _, bset (bset K.out.2.2.1 (by omega) _) (by omega) _⟩
    have HI := Lib.hid (fun (W : World) => inr_yes l 0 ((n : Int) - 1) W hin.1 hin.2)
    obtain ⟨j, rfl⟩ : ∃ j : Nat, l = j := ⟨l.toNat, by omega⟩
    obtain ⟨rfl, rfl⟩ : G = noteH ⟨cs, x⟩ j ∧ cc = 0 := by
      rcases hG with ⟨h, _⟩ | ⟨_, h, _⟩ | ⟨_, _, h1, h2⟩
      · cases h
      · have := HN.out; simp only at h; omega
      · rw [Int.toNat_natCast] at h1; exact ⟨h1, h2⟩
    have HD := Lib.hid (specNoteP_any w.heap.size cs x j _ w1 hi K.out.1 K.out.2.2.2.1 K.out.2.2.2.2 (HOK.out.1 rfl) (by have := HN.out; omega))
    clear hG hin
    go_wp2_with fail
    refine (HI.out _).mono ?_
    rintro e w2 ⟨rfl, rfl⟩
    go_wp2_with fail
    refine HD.out.mono ?_
    rintro e w2 ⟨v, rfl, ⟨y, rfl, hx⟩, b2⟩
    have hx1 := hx.1
    obtain ⟨A2, n2, c2, rfl⟩ := hx1.sliceOfH
    have hq : w.heap.size + 2 ≤ w1.heap.size := by have := B1.out.size; rw [HSZ.out] at this; exact this
    have B2 := Lib.hid (B1.out.trans (b2.mono hq))
    have K2 := Lib.hid (KP.out _ B2.out)
    have HX := Lib.hid (hx1.low hq)
    clear hx hx1 b2 HD c0 c1 f0 f1 q0 q1
    obtain ⟨c0, c1⟩ := K2.out.2.1.two
    obtain ⟨f0, f1, _, _, _, _, _, _⟩ := K2.out.2.1.frees
    unfold htc
    go_wp2
    refine bodyPost_ret (results_row_tmp Try.results26 _ _ _ _ _ _ _ rfl ((K2.out.2.1.set_ 0 _).set_ 1 _) Try.underlying27 rfl infoHt) rfl ?_
    refine ⟨_, rfl, ⟨_, rfl, ⟨(HX.out.sames fun k e => ?_).low (by have := HSZ.out; omega), fun k e => ?_⟩⟩, ?_⟩
    · have := (HX.out.blockOf e).1
      have hz := HSZ.out
      repeat rw [Below.heap_setCell _ ⟨_, _, none⟩ _ k (by simp; omega)]
    · have := (HX.out.blockOf e).2; simp; omega
    · repeat refine bset ?_ (by omega) _
      exact K2.out.2.2.1
set_option maxHeartbeats 4000000 in
set_option maxRecDepth 100000 in
theorem implNote_any (u : Value) (M : Ht) (l : Int) (r : Bool) (G : Ht) (cc : Int) (w : World) (hi : Nat) (h : HtIn w hi u M) (hh : hi ≤ w.heap.size) (hr : r = true ↔ HtOk M) (hG : NoteIs M r l G cc) (hl : HtSz M) :
    Calls Try.prog 27 #[u, .int .i64 l] w (HtPost G cc w) := by
  obtain ⟨a, rfl, h1⟩ := h
  obtain ⟨A, n, c, rfl⟩ := h1.slice
  obtain ⟨cs, x⟩ := M
  unfold htc
  simp only at *
  obtain ⟨r0, r1, bb⟩ := Rw.two_new w 27 27 #[.slice A n c, .int .i64 x] #[.slice none 0 0, .int .i64 0]
  obtain ⟨W0, hW0⟩ : ∃ W0, W0 = ((w.alloc (.cells #[.slice A n c, .int .i64 x] 27)).alloc (.cells #[.slice none 0 0, .int .i64 0] 27)) := ⟨_, rfl⟩
  have hz0 : W0.heap.size = w.heap.size + 2 := by rw [hW0]; simp
  rw [← hW0] at r0 r1 bb
  have hn : cs.length = n := by obtain ⟨X1, X2, X3, e, _, _, hn, _⟩ := h1; injection e with e1 e2 e3; omega
  have hlz : cs.length ≤ 1048576 := by unfold HtSz at hl; simpa using hl
  have HSZ := Lib.hid hz0
  have KP := Lib.hid (fun (W : World) (b : Below (w.heap.size + 2) W0 W) => show Rw W w.heap.size 27 #[.slice A n c, .int .i64 x] ∧ Rw W (w.heap.size + 1) 27 #[.slice none 0 0, .int .i64 0] ∧ Below w.heap.size w W ∧ NI W hi (.slice A n c) cs ∧ hi ≤ W.heap.size from
    ⟨r0.below b (by omega), r1.below b (by omega), bb.trans (b.mono (by omega)), (h1.below bb hh).below b (by omega), by have := b.size; omega⟩)
  have HN := Lib.hid hn
  have HOK := Lib.hid hr
  have HLZ := Lib.hid hlz
  obtain ⟨k0, k1⟩ := r0.two
  have HS := Lib.hid (implHtOk_any (.agg (htc ⟨cs, x⟩ (.slice A n c))) ⟨cs, x⟩ r W0 hi ⟨_, rfl, h1.below bb hh⟩ (by omega) hr hl)
  unfold htc at HS
  clear h1 hr hl r0 r1 bb hn hlz hz0
  go_enter Try.func27, Try.ntmps27
  go_wp2_with fail
  rw [← hW0]
  clear hW0
  refine HS.out.mono ?_
  rintro e w1 ⟨rfl, b1⟩
  have B1 := Lib.hid (show Below (w.heap.size + 2) W0 w1 from b1.mono (by rw [HSZ.out]; omega))
  have K := Lib.hid (KP.out _ B1.out)
  clear b1 HS k0 k1
  obtain ⟨c0, c1⟩ := K.out.2.1.two
  obtain ⟨f0, f1, _, _, _, _, _, _⟩ := K.out.2.1.frees
  cases r with
  | false =>
    obtain ⟨rfl, rfl⟩ : G = Ht.zero ∧ cc = 1 := by rcases hG with ⟨_, h1, h2⟩ | ⟨h, _⟩ | ⟨h, _⟩; exact ⟨h1, h2⟩; cases h; cases h
    clear hG
    go_wp2
    refine bodyPost_ret (results_row_tmp Try.results27 _ _ _ _ _ _ _ rfl ((K.out.2.1.set_ 0 _).set_ 1 _) Try.underlying27 rfl infoHt) rfl ⟨_, rfl, HtOwn.zero _ _ _, bset (bset K.out.2.2.1 (by omega) _) (by omega) _⟩
  | true =>
    have hv := HOK.out.1 rfl
    have hcl : 0 < cs.length := by have := hv.1.1; simp only at this; omega
    have hnm : n ≤ 1048576 := by have := HLZ.out; have := HN.out; omega
    by_cases hin : 0 ≤ l ∧ l < (n : Int)
    case neg =>
      have HI := Lib.hid (hasLogicalH_any w.heap.size A n c x l false w1 K.out.1 (by omega) (by simp; omega))
      obtain ⟨rfl, rfl⟩ : G = Ht.zero ∧ cc = 2 := by
        rcases hG with ⟨h, _⟩ | ⟨_, _, h1, h2⟩ | ⟨_, h, _⟩
        · cases h
        · exact ⟨h1, h2⟩
        · have := HN.out; simp only at h; omega
      clear hG hin hv hcl
      go_wp2_with fail
      refine HI.out.mono ?_
      rintro e w2 ⟨rfl, rfl⟩
      go_wp2
      refine bodyPost_ret (results_row_tmp Try.results27 _ _ _ _ _ _ _ rfl ((K.out.2.1.set_ 0 _).set_ 1 _) Try.underlying27 rfl infoHt) rfl ⟨_, rfl, HtOwn.zero _ _ _, bset (bset K.out.2.2.1 (by omega) _) (by omega) _⟩
    have HI := Lib.hid (hasLogicalH_any w.heap.size A n c x l true w1 K.out.1 (by omega) (by simp; omega))
    obtain ⟨j, rfl⟩ : ∃ j : Nat, l = j := ⟨l.toNat, by omega⟩
    have hjn : j < n := by omega
    obtain ⟨rfl, rfl⟩ : G = noteH ⟨cs, x⟩ j ∧ cc = 0 := by
      rcases hG with ⟨h, _⟩ | ⟨_, h, _⟩ | ⟨_, _, h1, h2⟩
      · cases h
      · have := HN.out; simp only at h; omega
      · rw [Int.toNat_natCast] at h1; exact ⟨h1, h2⟩
    clear hG hin
    have HC := Lib.hid (cloneHt_any w.heap.size cs x _ w1 hi K.out.1 K.out.2.2.2.1 K.out.2.2.2.2 hcl HLZ.out)
    have HV := Lib.hid hv
    have HCL := Lib.hid hcl
    clear hv hcl
    go_wp2_with fail
    refine HI.out.mono ?_
    rintro e w2 ⟨rfl, rfl⟩
    go_wp2_with fail
    refine HC.out.mono ?_
    rintro e w2 ⟨v, rfl, ⟨y, rfl, hx⟩, b2⟩
    have hx1 := hx.1
    obtain ⟨A2, n2, c2, rfl⟩ := hx1.sliceOfH
    obtain ⟨q, rfl⟩ := own_some hx1 HCL.out
    obtain rfl : n2 = n := by rw [own_len hx1]; exact HN.out
    have hq : w.heap.size + 2 ≤ w1.heap.size := by have := B1.out.size; rw [HSZ.out] at this; exact this
    have hq2 := b2.size
    have B2 := Lib.hid ((B1.out.trans (b2.mono hq)).alloc (by rw [HSZ.out] at *; omega) (.cells #[.slice (some ⟨q, 0, none⟩) n2 c2, .int .i64 x] 27))
    obtain ⟨W3, hW3⟩ : ∃ W, W = w2.alloc (.cells #[.slice (some ⟨q, 0, none⟩) n2 c2, .int .i64 x] 27) := ⟨_, rfl⟩
    have RM := Lib.hid (show Rw W3 w2.heap.size 27 #[.slice (some ⟨q, 0, none⟩) n2 c2, .int .i64 x] by rw [hW3]; exact Rw.new w2 _ _)
    have OW := Lib.hid (show IntsOwn W3 (w.heap.size + 2) (.slice (some ⟨q, 0, none⟩) n2 c2) cs by rw [hW3]; exact (show IntsOwn (w2.alloc _) _ _ _ from World.ownsRow.alloc hx1 _).low hq)
    have hqq := (hx1.blockOf (k := q) rfl)
    rw [← hW3] at B2
    have K2 := Lib.hid (KP.out _ B2.out)
    have HQ := Lib.hid (show w.heap.size + 2 ≤ w2.heap.size ∧ w.heap.size + 2 ≤ q by omega)
    have HQ1 := Lib.hid (show w.heap.size + 1 ≠ w2.heap.size ∧ w.heap.size + 1 ≠ q by omega)
    clear hx hx1 b2 HC c0 c1 f0 f1 hq hq2 hqq
    unfold htc
    have HD := Lib.hid (implNoteP_any w2.heap.size q n2 c2 cs x j (w.heap.size + 2) (w.heap.size + 2) W3 RM.out OW.out HN.out HQ.out HV.out hjn)
    go_wp2_with fail
    rw [← hW3]
    clear hW3
    refine HD.out.mono ?_
    rintro e w3 ⟨rfl, dm, dO, dk, db, dz⟩
    have DM := Lib.hid dm
    have HX := Lib.hid dO
    have B3 := Lib.hid (B2.out.trans (db.mono (by omega)))
    have K3 := Lib.hid (show Rw w3 (w.heap.size + 1) 27 #[.slice none 0 0, .int .i64 0] ∧ Below w.heap.size w w3 from ⟨(dk _ HQ1.out.1 HQ1.out.2).trans K2.out.2.1, (KP.out _ B3.out).2.2.1⟩)
    clear dm dO dk db dz HD
    obtain ⟨c0, c1⟩ := DM.out.two
    obtain ⟨d0, d1⟩ := K3.out.1.two
    obtain ⟨f0, f1, _, _, _, _, _, _⟩ := K3.out.1.frees
    go_wp2
    refine bodyPost_ret (results_row_tmp Try.results27 _ _ _ _ _ _ _ rfl ((K3.out.1.set_ 0 _).set_ 1 _) Try.underlying27 rfl infoHt) rfl ?_
    refine ⟨_, rfl, ⟨_, rfl, ⟨(HX.out.sames fun k e => ?_).low (by have := HSZ.out; omega), fun k e => ?_⟩⟩, ?_⟩
    · have := (HX.out.blockOf e).1
      have hz := HSZ.out
      repeat rw [Below.heap_setCell _ ⟨_, _, none⟩ _ k (by simp; omega)]
    · have := (HX.out.blockOf e).2; simp; omega
    · repeat refine bset ?_ (by omega) _
      exact K3.out.2
end Go.Proofs.Ytgkanacaijlljaa
