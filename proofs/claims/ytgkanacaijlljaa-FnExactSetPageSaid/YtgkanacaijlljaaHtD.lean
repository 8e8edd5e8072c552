/- DecayHeat, in the model and in the program: the contracts. -/
import Derived.Test.YtgkanacaijlljaaProg
import Derived.Test.YtgkanacaijlljaaHtC
import Derived.Deep.RegionLaw
namespace Go.Proofs.Ytgkanacaijlljaa
open Go.RowKit
set_option linter.unusedVariables false
set_option linter.unusedSimpArgs false
/-- One integer appended, inside a region that draws its order. -/
theorem step_append_int {Q : Exit → Act → World → Prop} {K : Act → World → Prop} {E : Prop} {ops : Array Oper} {o : Oper} {a : Act} {w0 w : World} {B : Nat} (hgd : o.guard = none) (s x : Operand)
    (ho : o.op = .call { callee := .builtin .append, args := #[s, x], argTypes := #[22, 22] })
    (v : Value) (l : List Int) (hs : a.eval s = v) (hown : IntsOwn w B v l) (hb : Below B w0 w) (hB : B ≤ w.heap.size)
    (g c : Nat) (b : Int) (hx : a.eval x = .slice (some ⟨g, 0, none⟩) 1 c) (hcell : w.cell? ⟨g, 0, none⟩ = some (.int .i64 b)) (hl : l.length + 1 ≤ 1000000)
    (h : ∀ v' w', IntsOwn w' B v' (l ++ [b]) → Below B w0 w' → K (a.put o.dst v') w') :
    if Region.wanted o (yielded ops a.tmps) = true then Oper.wp Try.prog o a w K Q else E := by
  have hw : Region.wanted o (yielded ops a.tmps) = true := by simp [Region.wanted, hgd]
  rw [if_pos hw]
  obtain ⟨i0, hi, hz0, hz1, hz2⟩ := info_parts info64
  refine wp_append_own w s x _ ho B 2 i0 (.int .i64 0) 1 8 Try.underlying22 hi hz0 hz1 hz2 rfl (by decide) v l.length (l.map (Value.int .i64)) hs hown ⟨g, 0, none⟩ 1 c [.int .i64 b] hx rfl ?_ ?_ (by unfold maxLen; omega) (by omega) hB ?_
  · intro j u hj
    match j, hj with
    | 0, hj => simp at hj; subst hj; simpa [Addr.add] using hcell
  · intro u hu; simp at hu; subst hu; rfl
  · intro v' w' h1 h2 _
    refine h v' w' ?_ (hb.grown h2 hB fun k hk => (World.ownsRow.lt hown k hk).1)
    unfold IntsOwn; simpa using h1
theorem decTake (c : List Int) (k : Nat) (h : k < c.length) : (decL c).take k ++ [c.getD k 0 / 2] = (decL c).take (k + 1) := by
  have hl := decL_length c
  rw [List.take_succ_eq_append_getElem (by omega : k < (decL c).length), ← decL_at c k h, List.getD_eq_getElem?_getD, List.getElem?_eq_getElem (by omega : k < (decL c).length)]; rfl
theorem tdiv2 {y : Int} (h : 0 ≤ y) : y.tdiv 2 = y / 2 := Int.tdiv_eq_ediv_of_nonneg h
set_option maxHeartbeats 4000000 in
set_option maxRecDepth 100000 in
theorem specDecayP_any (g : Nat) (cs : List Int) (x : Int) (u : Value) (w : World) (hi : Nat) (hR : Rw w g 27 #[u, .int .i64 x]) (hu : NI w hi u cs) (hh : hi ≤ w.heap.size) (hl1 : 1 ≤ cs.length) (hl2 : cs.length ≤ 48) (hc : ∀ i, i < cs.length → CntOk cs i) :
    Calls Try.prog 70 #[.pointer (some ⟨g, 0, none⟩)] w (HtPost1 ⟨decL cs, 0⟩ w) := by
  obtain ⟨A, n, c, rfl, _, _, hn, hA⟩ := hu
  obtain ⟨pb, po, rfl, hp2, hpx⟩ := hA (by omega)
  have hg := hR.lt
  obtain ⟨r0, r1, bb⟩ := Rw.two_new w 27 27 #[.slice none 0 0, .int .i64 0] #[.slice none 0 0, .int .i64 0]
  obtain ⟨W0, hW0⟩ : ∃ W0, W0 = (w.alloc (.cells #[.slice none 0 0, .int .i64 0] 27)).alloc (.cells #[.slice none 0 0, .int .i64 0] 27) := ⟨_, rfl⟩
  have hz0 : W0.heap.size = w.heap.size + 2 := by rw [hW0]; simp
  rw [← hW0] at r0 r1 bb
  obtain ⟨m, hm⟩ : ∃ m, m = w.heap.size + 1 := ⟨_, rfl⟩
  rw [← hm] at r1
  have HM := Lib.hid hm
  have R0 := Lib.hid r0
  have R1 := Lib.hid r1
  have BB := Lib.hid bb
  have HX := Lib.hid (fun (W : World) (b : Below w.heap.size w W) => show (W.cell? ⟨g, 0, none⟩ = some (.slice (some ⟨pb, po, none⟩) n c)) ∧ ∀ i, i < n → W.cell? ⟨pb, po + i, none⟩ = some (.int .i64 (cs.getD i 0)) from
    ⟨(hR.below b hg).two.1, fun i hi => (b.cell (p := ⟨pb, po + i, none⟩) (by show pb < _; omega)).trans (hpx i hi)⟩)
  have HC := Lib.hid (fun (i : Nat) (h : i < n) => show 0 ≤ cs.getD i 0 ∧ cs.getD i 0 ≤ 1000000 from hc i (by rw [hn]; exact h))
  have HN := Lib.hid hn
  have HZ0 := Lib.hid hz0
  have hnm : (n : Int) ≤ 48 := by omega
  clear hR hA hpx hc hl1 hl2 r0 r1 bb hm hn hp2
  go_enter Try.func70, Try.ntmps70
  go_wp2
  rw [← hW0]
  clear hW0
  rw [← HM.out]
  go_loopw [4] (fun i wr => ∃ k : Nat, ∃ v, k ≤ n ∧ i = .int .i64 (k : Int) ∧ Hid (IntsOwn wr W0.heap.size v ((decL cs).take k)) ∧ Hid (Rw wr w.heap.size 27 #[.slice none 0 0, .int .i64 0]) ∧ Hid (Rw wr m 27 #[v, .int .i64 0]) ∧ Hid (Below w.heap.size w wr) ∧ Hid (W0.heap.size ≤ wr.heap.size)) (fun i _ => n - (intOf i).toNat)
  case atStart => exact ⟨0, _, by omega, rfl, Lib.hid (show IntsOwn _ _ _ [] from World.ownsRow_nil W0 _ _ 1), R0, R1, BB, Lib.hid (Nat.le_refl _)⟩
  case round =>
    obtain ⟨k, v, hk, rfl, HI, HR0, HR1, HB, HZ⟩ := hrel
    obtain ⟨A, na, ca, rfl⟩ := HI.out.sliceOfH
    obtain ⟨c0, c1⟩ := HR1.out.two
    obtain ⟨f0, f1, _, _, _, _, _, _⟩ := HR1.out.frees
    obtain ⟨e0, ee⟩ := HX.out _ HB.out
    by_cases hlt : k < n
    · have hki : (k : Int) < (n : Int) := by omega
      have e1 := ee k hlt
      obtain ⟨y0, y1⟩ := HC.out k hlt
      have HT := Lib.hid (decTake cs k (by rw [HN.out]; exact hlt))
      have hlen : ((decL cs).take k).length ≤ 48 := by rw [List.length_take]; omega
      have HLN := Lib.hid hlen
      obtain ⟨y, hy⟩ : ∃ y, y = cs.getD k 0 := ⟨_, rfl⟩
      have HYY := Lib.hid hy.symm
      rw [← hy] at e1 y0 y1 HT
      clear hy
      have ht := tdiv2 y0
      have hw : IntKind.i64.wrap (y.tdiv 2) = y / 2 := by rw [ht]; exact IntWalk.i64_in _ (by omega)
      have hw' : IntKind.i64.wrap (y / 2) = y / 2 := IntWalk.i64_in _ (by omega)
      have HI2 := Lib.hid (fun (o : Obj) => show IntsOwn (wr.alloc o).drew W0.heap.size (.slice A na ca) ((decL cs).take k) from World.ownsRow.alloc HI.out o)
      have HB2 := Lib.hid (fun (o : Obj) => ((Below.refl W0.heap.size wr).alloc HZ.out o).drew)
      have HCL := Lib.hid (fun (q : Int) => show (wr.alloc (.cells #[.int .i64 q] 2)).drew.cell? ⟨wr.heap.size, 0, none⟩ = some (.int .i64 q) from by show (wr.alloc _).cell? _ = _; rw [World.cell?_alloc_at _ _ _ _ rfl]; rfl)
      have HMW := Lib.hid (show m < W0.heap.size ∧ w.heap.size < W0.heap.size ∧ w.heap.size < m by rw [HZ0.out, HM.out]; omega)
      have hzz : W0.heap.size ≤ wr.heap.size := HZ.out
      have c0a : ∀ o, (wr.alloc o).cell? ⟨m, 0, none⟩ = some (.slice A na ca) := fun o => (HR1.out.alloc o).two.1
      have e0a : ∀ o, (wr.alloc o).cell? ⟨g, 0, none⟩ = some (.slice (some ⟨pb, po, none⟩) n c) := fun o => (HX.out _ (HB.out.alloc HB.out.size o)).1
      have e1a : ∀ o, (wr.alloc o).cell? ⟨pb, po + k, none⟩ = some (.int .i64 y) := fun o => by have := (HX.out _ (HB.out.alloc HB.out.size o)).2 k hlt; rw [HYY.out] at this; exact this
      clear ee hlen
      go_wp2_with fail
      go_region_law (refine step_append_int rfl (.tmp 16) (.tmp 25) rfl (.slice A na ca) _ (by simp [Act.eval]) (HI2.out _) (HB2.out _) (by simp; omega) wr.heap.size 1 (y / 2) (by simp [Act.eval]) (HCL.out _) (by have := HLN.out; omega) ?_; intro v' w1 hown' hb'; obtain ⟨A1, n1, cc1, rfl⟩ := hown'.sliceOfH; have r1 := HR1.out.below hb' HMW.out.1; obtain ⟨d0, d1⟩ := r1.two; obtain ⟨g0, g1, _, _, _, _, _, _⟩ := r1.frees; have R1n := Lib.hid r1; have HOn := Lib.hid hown'; have HBn := Lib.hid hb'; clear r1 hown' hb')
      all_goals (
        have O2 := Lib.hid (HOn.out.sames (w' := w1.setCell ⟨m, 0, none⟩ (.slice A1 n1 cc1)) fun q e => Below.heap_setCell w1 ⟨m, 0, none⟩ _ q (by have := (HOn.out.blockOf e).1; have := HMW.out; show q ≠ m; omega))
        have Q0 := Lib.hid ((HR0.out.below HBn.out HMW.out.2.1).farA (g' := m) (k := 0) (by have := HMW.out; omega) (.slice A1 n1 cc1))
        have Q1 := Lib.hid (R1n.out.set_ 0 (.slice A1 n1 cc1))
        have Q2 := Lib.hid (bset (HB.out.trans (HBn.out.mono (by have := HMW.out; omega))) (g := m) (k := 0) (by have := HMW.out; omega) (.slice A1 n1 cc1))
        have Q3 := Lib.hid (show W0.heap.size ≤ (w1.setCell ⟨m, 0, none⟩ (.slice A1 n1 cc1)).heap.size by have := HBn.out.size; simp; omega)
        clear HOn R1n HBn HI HR0 HR1 HB HZ HI2 HB2 HCL c0 c1 f0 f1 d0 d1 g0 g1 c0a e0a e1a e0 e1
        go_wp2
        go_roundw
        case rel => exact ⟨k + 1, _, by omega, by go_num, Lib.hid (by rw [← HT.out]; exact O2.out), Q0, Q1, Q2, Q3⟩
        case measure => simp [intOf]; omega)
    · obtain rfl : k = n := by omega
      obtain ⟨d0, d1⟩ := HR0.out.two
      obtain ⟨g0, g1, _, _, _, _, _, _⟩ := HR0.out.frees
      have hlen := decL_length cs
      have HO := Lib.hid (show IntsOwn wr W0.heap.size (.slice A na ca) (decL cs) from by have := HI.out; rwa [List.take_of_length_le (by rw [hlen, HN.out]; omega)] at this)
      clear hlen HI
      go_wp2
      refine bodyPost_ret (results_cell_row Try.results70 _ _ _ _ _ _ _ rfl ((HR0.out.set_ 0 _).set_ 1 _) Try.underlying27 rfl infoHt) rfl ?_
      have hz := HZ0.out
      refine ⟨_, rfl, ⟨_, rfl, ⟨(HO.out.sames fun q e => ?_).low (by omega), fun q e => ?_⟩⟩, ?_⟩
      · have := (HO.out.blockOf e).1
        repeat rw [Below.heap_setCell _ ⟨_, _, none⟩ _ q (by simp; omega)]
      · have := (HO.out.blockOf e).2; simp; omega
      · repeat refine bset ?_ (Nat.le_refl _) _
        exact HB.out
set_option maxHeartbeats 2000000 in
set_option maxRecDepth 100000 in
/-- Counters halved in place: the variable's row m, the list's own block q. -/
theorem implDecayP_any (m q n c : Nat) (cs : List Int) (x : Int) (B B0 : Nat) (w : World) (hR : Rw w m 27 #[.slice (some ⟨q, 0, none⟩) n c, .int .i64 x]) (ho : IntsOwn w B (.slice (some ⟨q, 0, none⟩) n c) cs) (hn : cs.length = n) (hmq : m ≠ q) (hB0 : B0 ≤ m ∧ B0 ≤ q) (hl2 : n ≤ 48) (hc : ∀ i, i < cs.length → CntOk cs i) :
    Calls Try.prog 71 #[.pointer (some ⟨m, 0, none⟩)] w fun e w' => e = .returned (.tuple #[]) ∧ Rw w' m 27 #[.slice (some ⟨q, 0, none⟩) n c, .int .i64 0] ∧ IntsOwn w' B (.slice (some ⟨q, 0, none⟩) n c) (decL cs) ∧ (∀ j, j ≠ m → j ≠ q → w'.heap[j]? = w.heap[j]?) ∧ Below B0 w w' ∧ w'.heap.size = w.heap.size := by
  have R0 := Lib.hid hR
  have HO := Lib.hid ho
  have HN := Lib.hid hn
  have HQ := Lib.hid (And.intro hmq hB0)
  have HP := Lib.hid (heatPages_any m (some ⟨q, 0, none⟩) n c x w hR (by omega))
  have HC := Lib.hid (fun (i : Nat) (h : i < n) => show 0 ≤ cs.getD i 0 ∧ cs.getD i 0 ≤ 1000000 from hc i (by rw [hn]; exact h))
  have hnm : (n : Int) ≤ 48 := by omega
  clear hR ho hmq hB0 hc hn
  go_enter Try.func71, Try.ntmps71
  go_wp2_with fail
  refine HP.out.mono ?_
  rintro e w1 ⟨rfl, rfl⟩
  go_wp2_with fail
  go_loopw [5] (fun i wr => ∃ k : Nat, k ≤ n ∧ i = .int .i64 (k : Int) ∧ Hid (IntsOwn wr B (.slice (some ⟨q, 0, none⟩) n c) ((decL cs).take k ++ cs.drop k)) ∧ Hid (Rw wr m 27 #[.slice (some ⟨q, 0, none⟩) n c, .int .i64 x]) ∧ Hid ((∀ j, j ≠ m → j ≠ q → wr.heap[j]? = w.heap[j]?) ∧ Below B0 w wr ∧ wr.heap.size = w.heap.size)) (fun i _ => n - (intOf i).toNat)
  case atStart => exact ⟨0, by omega, rfl, HO, R0, Lib.hid ⟨fun _ _ _ => rfl, Below.refl _ _, rfl⟩⟩
  case round =>
    obtain ⟨k, hk, rfl, HI, HR, HB⟩ := hrel
    obtain ⟨c0, c1⟩ := HR.out.two
    obtain ⟨f0, f1, _, _, _, _, _, _⟩ := HR.out.frees
    have hlen : ((decL cs).take k ++ cs.drop k).length = n := by have := decL_length cs; have := HN.out; simp; omega
    by_cases hlt : k < n
    · have hki : (k : Int) < (n : Int) := by omega
      have d0 := HI.out.cell (j := k) hlen hlt
      have g0 := HI.out.free hlen k
      have hs := HI.out.stored hlen k (cs.getD k 0 / 2)
      rw [decL_step cs k (by rw [HN.out]; exact hlt)] at hs
      rw [decL_mid cs k k (Nat.le_refl _) (by rw [HN.out]; exact hlt)] at d0
      obtain ⟨y0, y1⟩ := HC.out k hlt
      have HS := Lib.hid hs
      have HR2 := Lib.hid (HR.out.farA (g' := q) (k := k) HQ.out.1 (.int .i64 (cs.getD k 0 / 2)))
      have HB2 := Lib.hid (show (∀ j, j ≠ m → j ≠ q → (wr.setCell ⟨q, k, none⟩ (.int .i64 (cs.getD k 0 / 2))).heap[j]? = w.heap[j]?) ∧ Below B0 w (wr.setCell ⟨q, k, none⟩ (.int .i64 (cs.getD k 0 / 2))) ∧ (wr.setCell ⟨q, k, none⟩ (.int .i64 (cs.getD k 0 / 2))).heap.size = w.heap.size from
        ⟨fun j h1 h2 => (Below.heap_setCell wr ⟨q, k, none⟩ _ j h2).trans (HB.out.1 j h1 h2), bset HB.out.2.1 HQ.out.2.2 _, by simpa using HB.out.2.2⟩)
      generalize cs.getD k 0 = y at *
      have ht := tdiv2 y0
      have hw' : IntKind.i64.wrap (y / 2) = y / 2 := IntWalk.i64_in _ (by omega)
      clear hs hlen HI HR HB
      go_wp2
      go_roundw
      case rel => exact ⟨k + 1, by omega, by go_num, HS, HR2, HB2⟩
      case measure => simp [intOf]; omega
    · obtain rfl : k = n := by omega
      have HI2 := Lib.hid (show IntsOwn wr B (.slice (some ⟨q, 0, none⟩) k c) (decL cs) from by
        have := HI.out
        rwa [List.take_of_length_le (by rw [decL_length, HN.out]; omega), List.drop_of_length_le (by rw [HN.out]; omega), List.append_nil] at this)
      clear hlen HI
      go_wp2
      go_end0
      refine ⟨rfl, HR.out.set_ 1 _, HI2.out.sames fun j e => Below.heap_setCell wr ⟨m, 1, none⟩ _ j (by have e2 : q = j := Option.some.inj e; have := HQ.out.1; show j ≠ m; omega), fun j h1 h2 => (Below.heap_setCell wr ⟨m, 1, none⟩ _ j h1).trans (HB.out.1 j h1 h2), bset HB.out.2.1 HQ.out.2.1 _, by simpa using HB.out.2.2⟩
end Go.Proofs.Ytgkanacaijlljaa
