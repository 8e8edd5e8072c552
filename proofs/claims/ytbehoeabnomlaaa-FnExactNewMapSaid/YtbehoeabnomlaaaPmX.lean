/- NewMap, in the model: the contract. -/
import Derived.Test.YtbehoeabnomlaaaProg
import Derived.Test.YtbehoeabnomlaaaPmW
import Derived.Test.YtbehoeabnomlaaaPmK
namespace Go.Proofs.Ytbehoeabnomlaaa
open Go.RowKit
set_option linter.unusedVariables false
set_option linter.unusedSimpArgs false
/-- Rows of different types are different blocks. -/
theorem ownApart {w : World} {B : Nat} {v u : Value} {l : List Int} {m : List Bool} (h : IntsOwn w B v l) (k : BoolsOwn w B u m) : v.ownBlock = none ∨ v.ownBlock ≠ u.ownBlock := by
  rcases h.2 with ⟨h1, _⟩ | ⟨g, cap, cur, h1, h2, h3, h4⟩
  · left; rw [h1]; rfl
  · right
    rcases k.2 with ⟨k1, _⟩ | ⟨g', cap', cur', k1, k2, k3, k4⟩
    · rw [h1, k1]; intro e; cases e
    · rw [h1, k1]
      intro e
      obtain rfl : g = g' := Option.some.inj e
      rw [h3] at k3
      injection k3 with k3
      injection k3 with e1 e2
      exact absurd e2 (by decide)
theorem wpList_append_intG {Q : Exit → Act → World → Prop} {ops : Array Oper} {rest : List Oper} {o : Oper} {a : Act} {w0 wr : World} {B : Nat} (hgd : o.guard = none) (s x : Operand)
    (ho : o.op = .call { callee := .builtin .append, args := #[s, x], argTypes := #[22, 22] })
    (v : Value) (l : List Int) (hs : a.eval s = v) (hown : IntsOwn wr B v l) (hb : Below B w0 wr) (hB : B ≤ wr.heap.size)
    (b : Int) (c : Nat) (hx : a.eval x = .slice (some ⟨wr.heap.size, 0, none⟩) 1 c) (hl : l.length + 1 ≤ 1000000)
    (h : ∀ v' w', IntsOwn w' B v' (l ++ [b]) → Below B w0 w' → wr.grownBy w' v.ownBlock → wpList Try.prog ops Q rest (a.put o.dst v') w') :
    wpList Try.prog ops Q (o :: rest) a (wr.alloc (.cells #[.int .i64 b] 2)) := by
  obtain ⟨i0, hi, hz0, hz1, hz2⟩ := info_parts info64
  refine wpList_append_own _ hgd s x _ ho B 2 i0 (.int .i64 0) 1 8 Try.underlying22 hi hz0 hz1 hz2 rfl (by decide) v l.length (l.map (Value.int .i64)) hs (World.ownsRow.alloc hown _) ⟨wr.heap.size, 0, none⟩ 1 c [.int .i64 b] hx rfl ?_ ?_ (by unfold maxLen; omega) (by omega) (by simp; omega) ?_
  · intro j u hj
    match j, hj with
    | 0, hj => simp at hj; subst hj; simp [Addr.add]
  · intro u hu; simp at hu; subst hu; rfl
  · intro v' w' h1 h2 _
    refine h v' w' ?_ ?_ ?_
    · unfold IntsOwn; simpa using h1
    · exact (hb.alloc hB _).grown h2 (by simp; omega) fun k hk => (World.ownsRow.lt hown k hk).1
    · exact ⟨h2.os, h2.tape, h2.output, Nat.le_trans (by simp) h2.size, fun j hj hne => (h2.block j (by simp; omega) hne).trans (Below.heap_alloc wr _ j hj)⟩
theorem wpList_append_boolG {Q : Exit → Act → World → Prop} {ops : Array Oper} {rest : List Oper} {o : Oper} {a : Act} {w0 wr : World} {B : Nat} (hgd : o.guard = none) (s x : Operand)
    (ho : o.op = .call { callee := .builtin .append, args := #[s, x], argTypes := #[23, 23] })
    (v : Value) (l : List Bool) (hs : a.eval s = v) (hown : BoolsOwn wr B v l) (hb : Below B w0 wr) (hB : B ≤ wr.heap.size)
    (b : Bool) (c : Nat) (hx : a.eval x = .slice (some ⟨wr.heap.size, 0, none⟩) 1 c) (hl : l.length + 1 ≤ 1000000)
    (h : ∀ v' w', BoolsOwn w' B v' (l ++ [b]) → Below B w0 w' → wr.grownBy w' v.ownBlock → wpList Try.prog ops Q rest (a.put o.dst v') w') :
    wpList Try.prog ops Q (o :: rest) a (wr.alloc (.cells #[.bool b] 4)) := by
  obtain ⟨i0, hi, hz0, hz1, hz2⟩ := info_parts infoBo
  refine wpList_append_own _ hgd s x _ ho B 4 i0 (.bool false) 1 1 Try.underlying23 hi hz0 hz1 hz2 rfl (by decide) v l.length (l.map Value.bool) hs (World.ownsRow.alloc hown _) ⟨wr.heap.size, 0, none⟩ 1 c [.bool b] hx rfl ?_ ?_ (by unfold maxLen; omega) (by omega) (by simp; omega) ?_
  · intro j u hj
    match j, hj with
    | 0, hj => simp at hj; subst hj; simp [Addr.add]
  · intro u hu; simp at hu; subst hu; rfl
  · intro v' w' h1 h2 _
    refine h v' w' ?_ ?_ ?_
    · unfold BoolsOwn; simpa using h1
    · exact (hb.alloc hB _).grown h2 (by simp; omega) fun k hk => (World.ownsRow.lt hown k hk).1
    · exact ⟨h2.os, h2.tape, h2.output, Nat.le_trans (by simp) h2.size, fun j hj hne => (h2.block j (by simp; omega) hne).trans (Below.heap_alloc wr _ j hj)⟩
set_option maxHeartbeats 4000000 in
set_option maxRecDepth 100000 in
theorem specNew9_any (n : Nat) (b p : Int) (w : World) (hn : n ≤ 48) : Calls Try.prog 63 #[.int .i64 (n : Int), .int .i64 b, .int .i64 p] w fun e w' => ∃ u, e = .returned u ∧ PmOwn w' w.heap.size w'.heap.size u (newPm n b p) ∧ Below w.heap.size w w' := by
  obtain ⟨r0, r1, bb⟩ := Rw.two_new w 28 28 #[.int .i64 0, .int .i64 0, .slice none 0 0, .slice none 0 0] #[.int .i64 b, .int .i64 p, .slice none 0 0, .slice none 0 0]
  obtain ⟨W0, hW0⟩ : ∃ W0, W0 = (w.alloc (.cells #[.int .i64 0, .int .i64 0, .slice none 0 0, .slice none 0 0] 28)).alloc (.cells #[.int .i64 b, .int .i64 p, .slice none 0 0, .slice none 0 0] 28) := ⟨_, rfl⟩
  have hz0 : W0.heap.size = w.heap.size + 2 := by rw [hW0]; simp
  rw [← hW0] at r0 r1 bb
  have R0 := Lib.hid r0
  have R1 := Lib.hid r1
  have BB := Lib.hid bb
  have HW := Lib.hid hW0
  have hnm : (n : Int) ≤ 48 := by omega
  obtain ⟨g, hg⟩ : ∃ g, g = w.heap.size + 1 := ⟨_, rfl⟩
  have HG := Lib.hid hg
  clear r0 r1 bb hg
  go_enter Try.func63, Try.ntmps63
  go_wp2
  rw [← hW0]
  clear hW0
  rw [← HG.out] at R1 ⊢
  go_loopw [8] (fun i wr => ∃ k : Nat, ∃ u v, k ≤ n ∧ i = .int .i64 (k : Int) ∧ Hid (IntsOwn wr W0.heap.size u (List.replicate k (-1))) ∧ Hid (BoolsOwn wr W0.heap.size v (List.replicate k false)) ∧ Hid (Rw wr w.heap.size 28 #[.int .i64 0, .int .i64 0, .slice none 0 0, .slice none 0 0]) ∧ Hid (Rw wr g 28 #[.int .i64 b, .int .i64 p, u, v]) ∧ Hid (Below w.heap.size w wr) ∧ Hid (W0.heap.size ≤ wr.heap.size)) (fun i _ => n - (intOf i).toNat)
  case atStart => exact ⟨0, _, _, by omega, rfl, Lib.hid (show IntsOwn _ _ _ [] from World.ownsRow_nil W0 _ _ 1), Lib.hid (show BoolsOwn _ _ _ [] from World.ownsRow_nil W0 _ _ 1), R0, R1, BB, Lib.hid (Nat.le_refl _)⟩
  case round =>
    obtain ⟨k, u, v, hk, rfl, HI, HT, HR0, HR1, HB, HZ⟩ := hrel
    obtain ⟨A, na, ca, rfl⟩ := HI.out.sliceOf'
    obtain ⟨A', na', ca', rfl⟩ := HT.out.sliceOf
    obtain ⟨c0, c1, c2, c3⟩ := HR1.out.four
    obtain ⟨f0, f1, f2, f3, _, _, _, _⟩ := HR1.out.frees
    have hgw : g < W0.heap.size := by rw [HG.out]; omega
    by_cases hlt : k < n
    · have hki : (k : Int) < (n : Int) := by omega
      have hI := HI.out
      have hB := HB.out
      have hZ := HZ.out
      have hBW : Below W0.heap.size wr wr := Below.refl _ _
      have hT := HT.out
      have hap := ownApart hI hT
      go_wp2_with (first
        | (at_builtin
           refine wpList_append_intG rfl _ _ rfl _ _ rfl hI hBW hZ _ _ rfl (by simp; omega) ?_
           intro u1 w1 hI1 hb1 hg1
           have hT1 := hT.kept hg1 (own_ne hap)
           obtain ⟨A1, n1, cc1, rfl⟩ := hI1.sliceOf'
           have hI2 : IntsOwn (w1.setCell ⟨g, 2, none⟩ (.slice A1 n1 cc1)) W0.heap.size (.slice A1 n1 cc1) (List.replicate k (-1) ++ [-1]) := hI1.sames fun q e => Below.heap_setCell w1 ⟨g, 2, none⟩ _ q (by have := (hI1.blockOf e).1; show q ≠ g; omega)
           have hT2 : BoolsOwn (w1.setCell ⟨g, 2, none⟩ (.slice A1 n1 cc1)) W0.heap.size (.slice A' na' ca') (List.replicate k false) := hT1.sames fun q e => Below.heap_setCell w1 ⟨g, 2, none⟩ _ q (by have := (hT1.blockOf e).1; show q ≠ g; omega)
           have hz2 : W0.heap.size ≤ (w1.setCell ⟨g, 2, none⟩ (.slice A1 n1 cc1)).heap.size := by have := Nat.le_trans hZ hb1.size; simpa using this
           have hap2 := ownApart hI2 hT2
           have hsz : (w1.setCell ⟨g, 2, none⟩ (.slice A1 n1 cc1)).heap.size = w1.heap.size := by simp
           have r1 := Lib.hid (HR1.out.below hb1 hgw)
           have r1' := Lib.hid (r1.out.set_ 2 (.slice A1 n1 cc1))
           have q1 := Lib.hid ((HR0.out.below hb1 (by omega)).farA (k := 2) (show w.heap.size ≠ g by rw [HG.out]; omega) (.slice A1 n1 cc1))
           have BB1 := Lib.hid (bset (HB.out.trans (hb1.mono (by omega))) (show w.heap.size ≤ g by rw [HG.out]; omega) (k := 2) (.slice A1 n1 cc1))
           obtain ⟨d0, d1, d2, d3⟩ := r1.out.four
           obtain ⟨e0, e1, e2, e3, _, _, _, _⟩ := r1.out.frees
           clear c0 c1 c2 c3 f0 f1 f2 f3)
        | (at_builtin
           refine wpList_append_boolG rfl _ _ rfl _ _ rfl hT2 (Below.refl _ _) hz2 _ 1 (by rw [hsz]; rfl) (by simp; omega) ?_
           intro u2 w2 hT3 hb3 hg3
           have hI3 := hI2.kept hg3 hap2
           obtain ⟨A2, n2, cc2, rfl⟩ := hT3.sliceOf
           have r2 := Lib.hid (r1'.out.below hb3 hgw)
           have q2 := Lib.hid ((q1.out.below hb3 (by omega)).farA (k := 3) (show w.heap.size ≠ g by rw [HG.out]; omega) (.slice A2 n2 cc2))
           have BB2 := Lib.hid (bset (BB1.out.trans (hb3.mono (by omega))) (show w.heap.size ≤ g by rw [HG.out]; omega) (k := 3) (.slice A2 n2 cc2))
           have hI4 : IntsOwn (w2.setCell ⟨g, 3, none⟩ (.slice A2 n2 cc2)) W0.heap.size (.slice A1 n1 cc1) (List.replicate k (-1) ++ [-1]) := hI3.sames fun q e => Below.heap_setCell w2 ⟨g, 3, none⟩ _ q (by have := (hI3.blockOf e).1; show q ≠ g; omega)
           have hT4 : BoolsOwn (w2.setCell ⟨g, 3, none⟩ (.slice A2 n2 cc2)) W0.heap.size (.slice A2 n2 cc2) (List.replicate k false ++ [false]) := hT3.sames fun q e => Below.heap_setCell w2 ⟨g, 3, none⟩ _ q (by have := (hT3.blockOf e).1; show q ≠ g; omega)
           have hz3 : W0.heap.size ≤ (w2.setCell ⟨g, 3, none⟩ (.slice A2 n2 cc2)).heap.size := by have := Nat.le_trans hz2 hb3.size; simpa using this
           rw [← List.replicate_succ'] at hI4 hT4
           have r3 := Lib.hid (r2.out.set_ 3 (.slice A2 n2 cc2))
           have HI4 := Lib.hid hI4
           have HT4 := Lib.hid hT4
           have HZ4 := Lib.hid hz3
           obtain ⟨d0, d1, d2, d3⟩ := r2.out.four
           obtain ⟨e0, e1, e2, e3, _, _, _, _⟩ := r2.out.frees
           clear hsz hI2 hT2 hap2 hI3 hT3 hb3 hg3 hI4 hT4 hz2 hz3))
      go_roundw
      case rel => exact ⟨k + 1, _, _, by omega, by go_num, HI4, HT4, q2, r3, BB2, HZ4⟩
      case measure => simp [intOf]; omega
    · obtain rfl : k = n := by omega
      have hI := HI.out
      have hT := HT.out
      have hZ := HZ.out
      have hap := ownApart hI hT
      obtain ⟨d0, d1, d2, d3⟩ := HR0.out.four
      obtain ⟨e0, e1, e2, e3, _, _, _, _⟩ := HR0.out.frees
      have keep : ∀ q, W0.heap.size ≤ q → ((((wr.setCell ⟨w.heap.size, 0, none⟩ (.int .i64 b)).setCell ⟨w.heap.size, 1, none⟩ (.int .i64 p)).setCell ⟨w.heap.size, 2, none⟩ (.slice A na ca)).setCell ⟨w.heap.size, 3, none⟩ (.slice A' na' ca')).heap[q]? = wr.heap[q]? := by
        intro q hq
        repeat rw [Below.heap_setCell _ ⟨_, _, none⟩ _ q (by simp; omega)]
      have KEEP := Lib.hid keep
      have HAP := Lib.hid hap
      have HLE := Lib.hid (show w.heap.size ≤ W0.heap.size by omega)
      have HK := Lib.hid hk
      clear keep hap hI hT hZ
      go_wp2
      refine bodyPost_ret (results_cell_row Try.results63 _ _ _ _ _ _ _ rfl ((((HR0.out.set_ 0 _).set_ 1 _).set_ 2 _).set_ 3 _) Try.underlying28 rfl infoPm) rfl ⟨_, rfl, ?_, ?_⟩
      · refine ⟨_, _, rfl, ?_, ?_, HAP.out⟩
        · have := HI.out.sames fun q e => KEEP.out q (HI.out.blockOf e).1
          exact ⟨by simpa [newPm] using this.low HLE.out, fun q e => by have := (HI.out.blockOf e).2; simpa using this⟩
        · have := HT.out.sames fun q e => KEEP.out q (HT.out.blockOf e).1
          exact ⟨by simpa [newPm] using this.low HLE.out, fun q e => by have := (HT.out.blockOf e).2; simpa using this⟩
      · repeat refine bset ?_ (Nat.le_refl _) _
        exact HB.out
set_option maxHeartbeats 4000000 in
theorem specNew_any (l b p : Int) (M : Pm) (c : Int) (w : World) (hm : NewIs l b p M c) : Calls Try.prog 20 #[.int .i64 l, .int .i64 b, .int .i64 p] w (PmPost M c w) := by
  obtain ⟨r, hr⟩ := prop_dec' (SizeOk l b p)
  have HV := Lib.hid (fun (W : World) => specSizes_any l b p r W hr)
  have R0 := Lib.hid (Rw.new w 28 #[.int .i64 0, .int .i64 0, .slice none 0 0, .slice none 0 0])
  have BB := Lib.hid ((Below.refl w.heap.size w).alloc (Nat.le_refl _) (.cells #[.int .i64 0, .int .i64 0, .slice none 0 0, .slice none 0 0] 28))
  have HSZ := Lib.hid (show (w.alloc (.cells #[.int .i64 0, .int .i64 0, .slice none 0 0, .slice none 0 0] 28)).heap.size = w.heap.size + 1 by simp)
  obtain ⟨o0, o1, o2, o3⟩ := R0.out.four
  obtain ⟨f0, f1, f2, f3, _, _, _, _⟩ := R0.out.frees
  rcases hm with ⟨hs, rfl, rfl⟩ | ⟨hs, rfl, rfl⟩
  case inr =>
    obtain rfl : r = false := not_true hr hs
    clear hr hs
    go_enter Try.func20, Try.ntmps20
    go_wp2_with fail
    refine (HV.out _).mono ?_
    rintro e w1 ⟨rfl, rfl⟩
    go_wp2
    exact bodyPost_ret (results_row_tmp Try.results20 _ _ _ _ _ _ _ rfl R0.out Try.underlying28 rfl infoPm) rfl ⟨_, rfl, PmOwn.zero _ _ _, BB.out⟩
  obtain rfl : r = true := hr.2 hs
  obtain ⟨n, rfl⟩ : ∃ n : Nat, l = n := ⟨l.toNat, by have := hs.1; omega⟩
  have hn : n ≤ 48 := by have := hs.1.2; omega
  have HN := Lib.hid (fun (W : World) => specNew9_any n b p W hn)
  clear hr hs
  go_enter Try.func20, Try.ntmps20
  go_wp2_with fail
  refine (HV.out _).mono ?_
  rintro e w1 ⟨rfl, rfl⟩
  go_wp2_with fail
  refine (HN.out _).mono ?_
  rintro e w2 ⟨u, rfl, ⟨x, y, rfl, hi, ht, hap⟩, b2⟩
  rw [HSZ.out] at b2 hi ht
  have hx := hi.1
  have hy := ht.1
  obtain ⟨A, na, ca, rfl⟩ := hx.sliceOf'
  obtain ⟨A', na', ca', rfl⟩ := hy.sliceOf
  have S0 := Lib.hid (R0.out.below b2 (by omega))
  have B2 := Lib.hid (BB.out.trans (b2.mono (by omega)))
  have keep : ∀ q, w.heap.size + 1 ≤ q → ((((w2.setCell ⟨w.heap.size, 0, none⟩ (.int .i64 b)).setCell ⟨w.heap.size, 1, none⟩ (.int .i64 p)).setCell ⟨w.heap.size, 2, none⟩ (.slice A na ca)).setCell ⟨w.heap.size, 3, none⟩ (.slice A' na' ca')).heap[q]? = w2.heap[q]? := by
    intro q hq
    repeat rw [Below.heap_setCell _ ⟨_, _, none⟩ _ q (by simp; omega)]
  have KEEP := Lib.hid keep
  have HX := Lib.hid hx
  have HY := Lib.hid hy
  have HAP := Lib.hid hap
  obtain ⟨d0, d1, d2, d3⟩ := S0.out.four
  obtain ⟨e0, e1, e2, e3, _, _, _, _⟩ := S0.out.frees
  unfold pmc newPm
  clear keep hx hy hap hi ht b2 o0 o1 o2 o3 f0 f1 f2 f3 hn
  go_wp2
  refine bodyPost_ret (results_row_tmp Try.results20 _ _ _ _ _ _ _ rfl ((((S0.out.set_ 0 _).set_ 1 _).set_ 2 _).set_ 3 _) Try.underlying28 rfl infoPm) rfl ⟨_, rfl, ?_, ?_⟩
  · refine ⟨_, _, rfl, ?_, ?_, HAP.out⟩
    · have := HX.out.sames fun q e => KEEP.out q (HX.out.blockOf e).1
      exact ⟨by simpa [newPm] using this.low (by omega), fun q e => by have := (HX.out.blockOf e).2; simpa using this⟩
    · have := HY.out.sames fun q e => KEEP.out q (HY.out.blockOf e).1
      exact ⟨by simpa [newPm] using this.low (by omega), fun q e => by have := (HY.out.blockOf e).2; simpa using this⟩
  · repeat refine bset ?_ (Nat.le_refl _) _
    exact B2.out
end Go.Proofs.Ytbehoeabnomlaaa
