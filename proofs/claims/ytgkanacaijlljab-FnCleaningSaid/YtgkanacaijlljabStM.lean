/- Slices of BlockStat in memory, and what the laws' helpers for them do. -/
import Derived.Test.YtgkanacaijlljabProg
import Derived.Test.YtgkanacaijlljabStN
import Derived.Test.YtgkanacaijlljabVs
import Derived.StillTailTactics
namespace Go.Proofs.Ytgkanacaijlljab
open Go.RowKit
set_option linter.unusedVariables false
set_option linter.unusedSimpArgs false
abbrev StI (w : World) (hi : Nat) (v : Value) (L : List St) : Prop := VI 3 stF w hi v L
abbrev StOwn (w : World) (B : Nat) (v : Value) (L : List St) : Prop := VOwn 56 3 stF w B v L
abbrev StO (w : World) (lo hi : Nat) (v : Value) (L : List St) : Prop := VO 56 3 stF w lo hi v L
theorem infoSt : (Try.prog.info? 56).map (fun i => (i.zero, i.size, i.bytes)) = some (some (.agg #[.int .i64 0, .int .i64 0, .bool false]), 3, 24) := by kernel_rfl
theorem infoStK : (Try.prog.info? 56).map (·.size) = some 3 := by kernel_rfl
theorem wpList_make_St {Q : Exit → Act → World → Prop} {ops : Array Oper} {rest : List Oper} {o : Oper} {a : Act} {w0 w : World} {B : Nat} (hgd : o.guard = none) (l c : Operand)
    (ho : o.op = Op.makeSlice 25 l c) (n : Nat) (hl : a.eval l = .int .i64 (n : Int)) (hc : a.eval c = .int .i64 (n : Int)) (hn : n ≤ 1048576)
    (hb : Below B w0 w) (hB : B ≤ w.heap.size)
    (h : ∀ w', StOwn w' B (.slice (some ⟨w.heap.size, 0, none⟩) n n) (List.replicate n St.zero) → Below B w0 w' → wpList Try.prog ops Q rest (a.put o.dst (.slice (some ⟨w.heap.size, 0, none⟩) n n)) w') :
    wpList Try.prog ops Q (o :: rest) a w := by
  obtain ⟨i0, hi, hz0, hz1, hz2⟩ := info_parts infoSt
  refine wpList_make_full w hgd l c _ ho B 56 i0 (.agg #[.int .i64 0, .int .i64 0, .bool false]) 3 Try.underlying25 hi hz0 hz1 .i64 .i64 (n : Int) (n : Int) n hl hc rfl rfl (by rw [hz2]; omega) (by unfold maxLen; omega) hB ?_
  intro w' h1 h2
  refine h w' ?_ (hb.grown h2 hB fun k hk => by simp at hk)
  have e := fl_replicate (f := stF) (k := 3) (n := n) St.zero stF_len
  have e2 : (Value.agg #[.int .i64 0, .int .i64 0, .bool false]).cells = (stF St.zero).toArray := rfl
  rw [e2, e] at h1
  show World.ownsRow _ _ _ _ _ _ _
  rw [List.length_replicate]
  exact h1
theorem wpList_append_St {Q : Exit → Act → World → Prop} {ops : Array Oper} {rest : List Oper} {o : Oper} {a : Act} {w0 wr : World} {B : Nat} (hgd : o.guard = none) (s x : Operand)
    (ho : o.op = .call { callee := .builtin .append, args := #[s, x], argTypes := #[25, 25] })
    (v : Value) (L : List St) (hs : a.eval s = v) (hown : StOwn wr B v L) (hb : Below B w0 wr) (hB : B ≤ wr.heap.size)
    (g c : Nat) (y : St) (hx : a.eval x = .slice (some ⟨g, 0, none⟩) 1 c) (hcell : Rw wr g 56 #[.int .i64 y.l, .int .i64 y.a, .bool y.u]) (hl : L.length + 1 ≤ 1000000)
    (h : ∀ v' w', StOwn w' B v' (L ++ [y]) → Below B w0 w' → wr.grownBy w' v.ownBlock → wpList Try.prog ops Q rest (a.put o.dst v') w') :
    wpList Try.prog ops Q (o :: rest) a wr := by
  obtain ⟨i0, hi, hz0, hz1, hz2⟩ := info_parts infoSt
  refine wpList_append_own wr hgd s x _ ho B 56 i0 (.agg #[.int .i64 0, .int .i64 0, .bool false]) 3 24 Try.underlying25 hi hz0 hz1 hz2 rfl (by decide) v L.length (fl stF L) hs hown ⟨g, 0, none⟩ 1 c (stF y) hx rfl ?_ ?_ (by unfold maxLen; omega) (by omega) hB ?_
  · intro j u hj
    rw [Addr.add_lit, Nat.zero_add, hcell.cell j, ← hj]
    simp [stF]
  · intro u hu; simp [stF] at hu; rcases hu with rfl | rfl | rfl <;> rfl
  · intro v' w' h1 h2 _
    refine h v' w' ?_ (hb.grown h2 hB fun k hk => (World.ownsRow.lt hown k hk).1) h2
    show World.ownsRow _ _ _ _ _ _ _
    rw [List.length_append, fl_app, fl_one]
    exact h1
theorem eqSt_any (x0 : Int) (x1 : Int) (x2 : Bool) (w : World) : Calls Try.prog 76 #[.agg #[.int .i64 x0, .int .i64 x1, .bool x2], .agg #[.int .i64 x0, .int .i64 x1, .bool x2]] w fun e w' => e = .returned (.bool true) ∧ Below w.heap.size w w' := by
  have n0 : (x0 != x0) = false := by simp
  have n1 : (x1 != x1) = false := by simp
  have n2 : (x2 != x2) = false := by simp
  obtain ⟨r0, r1, b0⟩ := Rw.two_new w 56 56 #[.int .i64 x0, .int .i64 x1, .bool x2] #[.int .i64 x0, .int .i64 x1, .bool x2]
  have HB := Lib.hid b0
  clear b0 r0 r1
  go_enter Try.func76, Try.ntmps76
  go_wp2
  go_ret
  exact ⟨rfl, HB.out⟩
set_option maxRecDepth 100000 in
theorem eqSts_any (u v : Value) (L : List St) (w : World) (hi hi' : Nat) (hu : StI w hi u L) (hv : StI w hi' v L) (h1 : hi ≤ w.heap.size) (h2 : hi' ≤ w.heap.size) (hl : L.length ≤ 1048576) :
    Calls Try.prog 19 #[u, v] w fun e w' => e = .returned (.bool true) ∧ Below w.heap.size w w' := by
  obtain ⟨A, cap, rfl⟩ := hu.slice
  obtain ⟨A', cap', rfl⟩ := hv.slice
  obtain ⟨_, _, hA⟩ := hu.elem stF_len St.zero
  obtain ⟨_, _, hA'⟩ := hv.elem stF_len St.zero
  obtain ⟨n, hn⟩ : ∃ n, n = L.length := ⟨_, rfl⟩
  rw [← hn] at hA hA' hl ⊢
  have hnm : (n : Int) ≤ 1048576 := by omega
  clear hu hv hn
  rcases Nat.eq_zero_or_pos n with h0 | h0
  · subst h0
    clear hA hA'
    go_enter Try.func19, Try.ntmps19
    go_wp2
    go_loopw [5] (fun i wr => i = .int .i64 0 ∧ wr = w) (fun _ _ => 0)
    case atStart => exact ⟨rfl, rfl⟩
    case round =>
      obtain ⟨rfl, rfl⟩ := hrel
      go_wp2
      go_ret
      exact ⟨rfl, Below.refl _ _⟩
  · obtain ⟨g, off, rfl, hg, hx⟩ := hA h0
    obtain ⟨g', off', rfl, hg', hx'⟩ := hA' h0
    have HX := Lib.hid hx
    have HX' := Lib.hid hx'
    clear hA hA' hx hx'
    go_enter Try.func19, Try.ntmps19
    go_wp2
    go_loopw [5] (fun i wr => ∃ k : Nat, k ≤ n ∧ i = .int .i64 k ∧ Below w.heap.size w wr) (fun i _ => n - (intOf i).toNat)
    case atStart => exact ⟨0, by omega, rfl, Below.refl _ _⟩
    case round =>
      obtain ⟨k, hk, rfl, hb⟩ := hrel
      by_cases hlt : k < n
      · have hki : (k : Int) < (n : Int) := by omega
        have q0 := (hb.cell (p := ⟨g, off + k * 3, none⟩) (by simp; omega)).trans (HX.out k hlt 0 (by omega))
        have q1 := (hb.cell (p := ⟨g, off + k * 3 + 1, none⟩) (by simp; omega)).trans (HX.out k hlt 1 (by omega))
        have q2 := (hb.cell (p := ⟨g, off + k * 3 + 2, none⟩) (by simp; omega)).trans (HX.out k hlt 2 (by omega))
        have t0 := (hb.cell (p := ⟨g', off' + k * 3, none⟩) (by simp; omega)).trans (HX'.out k hlt 0 (by omega))
        have t1 := (hb.cell (p := ⟨g', off' + k * 3 + 1, none⟩) (by simp; omega)).trans (HX'.out k hlt 1 (by omega))
        have t2 := (hb.cell (p := ⟨g', off' + k * 3 + 2, none⟩) (by simp; omega)).trans (HX'.out k hlt 2 (by omega))
        simp only [stF, List.getElem?_cons_zero, List.getElem?_cons_succ] at q0 q1 q2 t0 t1 t2
        have hsz := hb.size
        generalize (L.getD k St.zero).l = x0 at *
        generalize (L.getD k St.zero).a = x1 at *
        generalize (L.getD k St.zero).u = x2 at *
        have HB := Lib.hid hb
        clear hb
        go_wp2_with fail
        go_still_tail 8, (by kernel_rfl)
        change wpList _ _ _ _ _ wr.drew
        go_wp2_with fail
        refine (eqSt_any x0 x1 x2 _).mono ?_
        rintro e w1 ⟨rfl, hb1⟩
        have HB1 := Lib.hid (HB.out.drew.trans (hb1.mono (by simpa using hsz)))
        clear hb1 HB
        go_wp2
        go_roundw
        case rel => exact ⟨k + 1, by omega, by go_num, HB1.out⟩
        case measure => simp [intOf]; omega
      · obtain rfl : k = n := by omega
        go_wp2
        go_ret
        exact ⟨rfl, hb⟩
theorem szSts_any (v : Value) (L : List St) (w : World) (hi : Nat) (h : StI w hi v L) :
    Calls Try.prog 15 #[v, .int .i64 1048576] w fun e w' => ∃ x : Int, e = .returned (.int .i64 x) ∧ Left 1048576 L.length x ∧ w' = w := by
  obtain ⟨A, cap, rfl, hlc, hcm, hA⟩ := h
  obtain ⟨n, hn⟩ : ∃ n, n = L.length := ⟨_, rfl⟩
  rw [← hn] at hlc ⊢
  have hnm : (n : Int) ≤ 9223372036854775807 := by omega
  clear hA hn
  by_cases hbig : (1048576 : Int) < (n : Int)
  · go_enter Try.func15, Try.ntmps15
    go_wp2
    go_ret
    exact ⟨_, rfl, .inr ⟨by omega, rfl⟩, rfl⟩
  · have hs : (n : Int) ≤ 1048576 := by omega
    go_enter Try.func15, Try.ntmps15
    go_wp2
    go_ret
    exact ⟨_, rfl, .inl ⟨by omega, by omega⟩, rfl⟩
theorem toSt_any (x0 : Int) (x1 : Int) (x2 : Bool) (w : World) : Calls Try.prog 75 #[.agg #[.int .i64 x0, .int .i64 x1, .bool x2]] w fun e w' => e = .returned (.agg #[.int .i64 x0, .int .i64 x1, .bool x2]) ∧ Below w.heap.size w w' := by
  obtain ⟨_, r1, _, hb⟩ := Rw.three_new w 111 56 56 #[.int .i64 x0, .int .i64 x1, .bool x2] #[.int .i64 x0, .int .i64 x1, .bool x2] #[.int .i64 x0, .int .i64 x1, .bool x2]
  have R1 := Lib.hid r1
  have HB := Lib.hid hb
  clear r1 hb
  go_enter Try.func75, Try.ntmps75
  go_wp2
  exact bodyPost_ret (results_cell_row Try.results75 _ _ _ _ _ _ _ rfl R1.out Try.underlying56 rfl infoStK) rfl ⟨rfl, HB.out⟩
theorem getD_setSt (L : List St) (i : Nat) (y : St) {z : St} (h : i < L.length) : (L.set i y).getD i z = y := by simp [List.getD_eq_getElem?_getD, h]
theorem getD_oldSt (L : List St) (n k : Nat) {z : St} (hL : L.length = n) (h : k < n) : (L.take k ++ List.replicate (n - k) z).getD k z = z := by
  rw [List.getD_eq_getElem?_getD, List.getElem?_append_right (by simp; omega)]
  simp [show min k L.length = k by omega, show 0 < n - k by omega]
theorem take_stepSt (L : List St) (n k : Nat) {z : St} (hL : L.length = n) (h : k < n) (y : St) (hy : y = L.getD k z) : (L.take k ++ List.replicate (n - k) z).set k y = L.take (k + 1) ++ List.replicate (n - (k + 1)) z := by
  rw [List.set_append_right _ _ (by simp; omega), List.length_take, Nat.min_eq_left (by omega), Nat.sub_self, show n - k = (n - (k + 1)) + 1 by omega, List.replicate_succ, List.set_cons_zero, List.take_succ_eq_append_getElem (by omega : k < L.length), List.append_assoc, hy, List.getD_eq_getElem?_getD, List.getElem?_eq_getElem (by omega : k < L.length)]; rfl
set_option maxHeartbeats 1000000 in
theorem toSts_any (v : Value) (L : List St) (w : World) (hi : Nat) (h : StI w hi v L) (hh : hi ≤ w.heap.size) (hl : L.length ≤ 1048576) :
    Calls Try.prog 17 #[v] w fun e w' => ∃ u, e = .returned u ∧ StOwn w' w.heap.size u L ∧ Below w.heap.size w w' := by
  obtain ⟨A, cap, rfl⟩ := h.slice
  obtain ⟨_, _, hA⟩ := h.elem stF_len St.zero
  obtain ⟨n, hN⟩ : ∃ n, L.length = n := ⟨_, rfl⟩
  rw [hN] at hA hl ⊢
  have hnm : (n : Int) ≤ 1048576 := by omega
  clear h
  rcases Nat.eq_zero_or_pos n with hz | hz
  · subst hz
    obtain rfl : L = [] := List.eq_nil_of_length_eq_zero (by omega)
    clear hA hN
    go_enter Try.func17, Try.ntmps17
    go_wp2_with (refine wpList_make_St rfl _ _ rfl 0 rfl rfl (by omega) (Below.refl w.heap.size w) (Nat.le_refl _) ?_; intro w1 hown hb)
    go_loop [4] (fun i => i = .int .i64 0) (fun _ => 0)
    case atStart => rfl
    case round =>
      obtain rfl := hrel
      go_wp2
      go_ret
      exact ⟨_, rfl, hown, hb⟩
  · obtain ⟨g, off, rfl, hg, hx⟩ := hA hz
    have HX := Lib.hid hx
    have HN := Lib.hid hN
    clear hA hx hN
    go_enter Try.func17, Try.ntmps17
    go_wp2_with (refine wpList_make_St rfl _ _ rfl n rfl rfl (by omega) (Below.refl w.heap.size w) (Nat.le_refl _) ?_; intro w1 hown hb)
    go_loopw [4] (fun i wr => ∃ k : Nat, k ≤ n ∧ i = .int .i64 k ∧ StOwn wr w.heap.size (.slice (some ⟨w.heap.size, 0, none⟩) n n) (L.take k ++ List.replicate (n - k) St.zero) ∧ Below w.heap.size w wr) (fun i _ => n - (intOf i).toNat)
    case atStart => exact ⟨0, by omega, rfl, by simpa using hown, hb⟩
    case round =>
      clear hown hb
      obtain ⟨k, hk, rfl, hown, hb⟩ := hrel
      have hN := HN.out
      by_cases hlt : k < n
      · have hki : (k : Int) < (n : Int) := by omega
        have q0 := (hb.cell (p := ⟨g, off + k * 3, none⟩) (by simp; omega)).trans (HX.out k hlt 0 (by omega))
        have q1 := (hb.cell (p := ⟨g, off + k * 3 + 1, none⟩) (by simp; omega)).trans (HX.out k hlt 1 (by omega))
        have q2 := (hb.cell (p := ⟨g, off + k * 3 + 2, none⟩) (by simp; omega)).trans (HX.out k hlt 2 (by omega))
        simp only [stF, List.getElem?_cons_zero, List.getElem?_cons_succ] at q0 q1 q2
        have HS := Lib.hid (take_stepSt L n k hN hlt ⟨(L.getD k St.zero).l, (L.getD k St.zero).a, (L.getD k St.zero).u⟩ rfl)
        have hsz := hb.size
        generalize (L.getD k St.zero).l = x0 at *
        generalize (L.getD k St.zero).a = x1 at *
        generalize (L.getD k St.zero).u = x2 at *
        have HOWN := Lib.hid hown
        have HB := Lib.hid hb
        clear hown hb
        go_wp2_with fail
        refine (toSt_any x0 x1 x2 _).mono ?_
        rintro e w1 ⟨rfl, hb1⟩
        have o2 := HOWN.out.later hb1 (Nat.le_refl _)
        have hsz1 := hb1.size
        have f0 := o2.free (by simp; omega) (k * 3)
        have f1 := o2.free (by simp; omega) (k * 3 + 1)
        have f2 := o2.free (by simp; omega) (k * 3 + 2)
        have d0 := o2.cell (n := n) (by simp; omega) stF_len St.zero (i := k) (j := 0) hlt (by omega)
        have d1 := o2.cell (n := n) (by simp; omega) stF_len St.zero (i := k) (j := 1) hlt (by omega)
        have d2 := o2.cell (n := n) (by simp; omega) stF_len St.zero (i := k) (j := 2) hlt (by omega)
        simp only [getD_oldSt L n k hN hlt, stF, St.zero, List.getElem?_cons_zero, List.getElem?_cons_succ, Nat.add_zero] at d0 d1 d2
        have o3 := o2.put (n := n) (i := k) (by simp; omega) stF_len St.zero 0 (.int .i64 x0) ⟨x0, 0, false⟩ hlt (by omega) (by rw [getD_oldSt L n k hN hlt]; rfl)
        have o4 := o3.put (n := n) (i := k) (by simp; omega) stF_len St.zero 1 (.int .i64 x1) ⟨x0, x1, false⟩ hlt (by omega) (by rw [getD_setSt _ _ _ (by simp; omega)]; rfl)
        have o5 := o4.put (n := n) (i := k) (by simp; omega) stF_len St.zero 2 (.bool x2) ⟨x0, x1, x2⟩ hlt (by omega) (by rw [getD_setSt _ _ _ (by simp; omega)]; rfl)
        have O3 := Lib.hid o5
        have HB2 := Lib.hid (HB.out.trans (hb1.mono hsz))
        clear o2 o3 o4 o5 hb1 HOWN HB q0 q1 q2
        go_wp2
        go_roundw
        case rel =>
          have o3 := O3.out
          simp only [List.set_set] at o3
          rw [HS.out] at o3
          exact ⟨k + 1, by omega, by go_num, o3, (bset (bset (bset HB2.out (Nat.le_refl _) _) (Nat.le_refl _) _) (Nat.le_refl _) _)⟩
        case measure => simp [intOf]; omega
      · obtain rfl : k = n := by omega
        rw [Nat.sub_self, List.replicate_zero, List.append_nil, List.take_of_length_le (by omega)] at hown
        clear hN
        go_wp2
        go_ret
        exact ⟨_, rfl, hown, hb⟩
end Go.Proofs.Ytgkanacaijlljab
