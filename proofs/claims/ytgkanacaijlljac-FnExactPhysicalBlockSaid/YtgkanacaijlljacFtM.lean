/- Lists of faults in memory, and what the laws' helpers for them do. -/
import Derived.Test.YtgkanacaijlljacProg
import Derived.Test.YtgkanacaijlljacFtN
import Derived.Test.YtgkanacaijlljacTbM
import Derived.StillTailTactics
namespace Go.Proofs.Ytgkanacaijlljac
open Go.RowKit
set_option linter.unusedVariables false
/-- The value v is a slice of n faults, in the blocks below hi, whose fields are the integers l. -/
def QI (w : World) (hi : Nat) (v : Value) (n : Nat) (l : List Int) : Prop :=
  ∃ A cap, v = .slice A n cap ∧ n ≤ cap ∧ cap ≤ 9223372036854775807 ∧ l.length = n * 4 ∧ (0 < n → ∃ b off, A = some ⟨b, off, none⟩ ∧ b < hi ∧ ∀ i, i < n * 4 → w.cell? ⟨b, off + i, none⟩ = some (.int .i64 (l.getD i 0)))
/-- .. of the call's own. -/
def QOwn (w : World) (B : Nat) (v : Value) (n : Nat) (l : List Int) : Prop := w.ownsRow B 73 4 v n (l.map (Value.int .i64)) ∧ l.length = n * 4
def QO (w : World) (lo hi : Nat) (v : Value) (n : Nat) (l : List Int) : Prop := QOwn w lo v n l ∧ ∀ k, v.ownBlock = some k → k < hi
theorem infoFt : (Try.prog.info? 73).map (fun i => (i.zero, i.size, i.bytes)) = some (some (.agg #[.int .i64 0, .int .i64 0, .int .i64 0, .int .i64 0]), 4, 32) := by kernel_rfl
theorem infoFt4 : (Try.prog.info? 73).map (·.size) = some 4 := by kernel_rfl
section
variable {w w' : World} {lo hi lo' hi' B n : Nat} {v : Value} {l : List Int}
theorem QI.below (h : QI w hi v n l) (hb : Below B w w') (hB : hi ≤ B) : QI w' hi v n l := by
  obtain ⟨A, cap, rfl, h1, h2, hl, hc⟩ := h
  refine ⟨A, cap, rfl, h1, h2, hl, fun h0 => ?_⟩
  obtain ⟨b, off, rfl, hbl, hx⟩ := hc h0
  exact ⟨b, off, rfl, hbl, fun i hi => (hb.cell (p := ⟨b, off + i, none⟩) (Nat.lt_of_lt_of_le hbl hB)).trans (hx i hi)⟩
theorem QI.wide (h : QI w hi v n l) (hh : hi ≤ hi') : QI w hi' v n l := by
  obtain ⟨A, cap, rfl, h1, h2, hl, hc⟩ := h
  refine ⟨A, cap, rfl, h1, h2, hl, fun h0 => ?_⟩
  obtain ⟨b, off, rfl, hbl, hx⟩ := hc h0
  exact ⟨b, off, rfl, by omega, hx⟩
theorem QI.len (h : QI w hi v n l) : l.length = n * 4 ∧ n ≤ 9223372036854775807 := by obtain ⟨A, cap, rfl, h1, h2, hl, hc⟩ := h; exact ⟨hl, by omega⟩
theorem QOwn.blockOf (h : QOwn w lo v n l) {k : Nat} (e : v.ownBlock = some k) : lo ≤ k ∧ k < w.heap.size := World.ownsRow.lt h.1 k e
theorem QOwn.shape (h : QOwn w B v n l) : (v = .slice none 0 0 ∧ n = 0) ∨ ∃ g cap, v = .slice (some ⟨g, 0, none⟩) n cap ∧ n ≤ cap ∧ cap ≤ 9223372036854775807 ∧ B ≤ g ∧ g < w.heap.size := by
  rcases h.1.2 with ⟨h1, h2⟩ | ⟨g, cap, cur, h1, h2, h3, h4, h5, _⟩
  · exact .inl ⟨h1, h2⟩
  · have hlt := World.ownsRow.lt h.1 g (by rw [h1]; rfl)
    exact .inr ⟨g, cap, h1, by omega, by unfold maxLen at h5; omega, hlt.1, hlt.2⟩
theorem QOwn.cell {g cap : Nat} (h : QOwn w B (.slice (some ⟨g, 0, none⟩) n cap) n l) {j : Nat} (hj : j < n * 4) : w.cell? ⟨g, j, none⟩ = some (.int .i64 (l.getD j 0)) := by
  rw [World.ownsRow.cellAt h.1 j hj]
  have := h.2
  simp [show j < l.length by omega]
theorem QOwn.free {g cap : Nat} (h : QOwn w B (.slice (some ⟨g, 0, none⟩) n cap) n l) (j : Nat) : w.frozen? ⟨g, j, none⟩ = false := World.ownsRow.frozenAt h.1 j
theorem QOwn.stored {g cap : Nat} (h : QOwn w B (.slice (some ⟨g, 0, none⟩) n cap) n l) (j : Nat) (b : Int) : QOwn (w.setCell ⟨g, j, none⟩ (.int .i64 b)) B (.slice (some ⟨g, 0, none⟩) n cap) n (l.set j b) := by
  refine ⟨?_, by rw [List.length_set]; exact h.2⟩
  have := (World.ownsRow.stored h.1 j (.int .i64 b)).1
  rw [List.map_set]
  exact this
theorem QOwn.sames (h : QOwn w lo v n l) (hs : ∀ k, v.ownBlock = some k → w'.heap[k]? = w.heap[k]?) : QOwn w' lo v n l := by
  refine ⟨⟨h.1.1, ?_⟩, h.2⟩
  rcases h.1.2 with h2 | ⟨g, cap, cur, h1, h2, h3, h4⟩
  · exact .inl h2
  · exact .inr ⟨g, cap, cur, h1, h2, (hs g (by rw [h1]; rfl)).trans h3, h4⟩
theorem QOwn.later (h : QOwn w B v n l) {B' : Nat} (hb : Below B' w w') (hB : w.heap.size ≤ B') : QOwn w' B v n l := h.sames fun k e => hb.block k (by have := (h.blockOf e).2; omega)
theorem QOwn.reads (h : QOwn w lo v n l) : QI w w.heap.size v n l := by
  have h2 := h.2
  rcases h.shape with ⟨rfl, rfl⟩ | ⟨g, cap, rfl, h3, h4, h5, h6⟩
  · exact ⟨none, 0, rfl, by omega, by omega, h2, fun h => by omega⟩
  · exact ⟨_, cap, rfl, h3, h4, h2, fun _ => ⟨g, 0, rfl, h6, fun i hi => by rw [Nat.zero_add]; exact h.cell hi⟩⟩
theorem QO.mk_ (h : QOwn w lo v n l) : QO w lo w.heap.size v n l := ⟨h, fun k e => (h.blockOf e).2⟩
theorem QO.same (h : QO w lo hi v n l) (hs : Same lo hi w w') : QO w' lo hi v n l := ⟨h.1.sames fun k e => hs k (h.1.blockOf e).1 (h.2 k e), h.2⟩
theorem QO.below (h : QO w lo hi v n l) (hb : Below B w w') (hB : hi ≤ B) : QO w' lo hi v n l := h.same (sm hb lo hB)
theorem QO.reads (h : QO w lo hi v n l) : QI w hi v n l := by
  obtain ⟨A, cap, rfl, h1, h2, hl, hc⟩ := h.1.reads
  refine ⟨A, cap, rfl, h1, h2, hl, fun h0 => ?_⟩
  obtain ⟨b, off, rfl, hbl, hx⟩ := hc h0
  refine ⟨b, off, rfl, ?_, hx⟩
  rcases h.1.shape with ⟨e, _⟩ | ⟨g, cap', e, _⟩
  · cases e
  · injection e with e1 e2 e3
    injection e1 with e1
    injection e1 with e1 e4
    subst e1
    exact h.2 b rfl
theorem QOwn.nil (w : World) (B : Nat) : QOwn w B (.slice none 0 0) 0 [] := ⟨World.ownsRow_nil w B _ 4, rfl⟩
theorem QOwn.made (w : World) {B : Nat} (h : B ≤ w.heap.size) : QOwn (w.alloc (.cells #[] 73)) B (.slice (some ⟨w.heap.size, 0, none⟩) 0 0) 0 [] :=
  ⟨World.ownsRow_made w #[] 0 h (by unfold maxLen; omega) rfl, rfl⟩
theorem QOwn.sliceOf (h : QOwn w B v n l) : ∃ A c, v = .slice A n c := by
  rcases h.shape with ⟨rfl, rfl⟩ | ⟨g, cap, rfl, _⟩ <;> exact ⟨_, _, rfl⟩
theorem QOwn.low {B' : Nat} (h : QOwn w B v n l) (hB : B' ≤ B) : QOwn w B' v n l := by
  refine ⟨⟨h.1.1, ?_⟩, h.2⟩
  rcases h.1.2 with h2 | ⟨g, cap, cur, h1, h2, h3, h4, h5⟩
  · exact .inl h2
  · exact .inr ⟨g, cap, cur, h1, by omega, h3, h4, h5⟩
end
theorem wpList_make_faults {Q : Exit → Act → World → Prop} {ops : Array Oper} {rest : List Oper} {o : Oper} {a : Act} {w0 w : World} {B : Nat} (hgd : o.guard = none) (l c : Operand)
    (ho : o.op = Op.makeSlice 65 l c) (n : Nat) (hl : a.eval l = .int .i64 (n : Int)) (hc : a.eval c = .int .i64 (n : Int)) (hn : n ≤ 1048576)
    (hb : Below B w0 w) (hB : B ≤ w.heap.size)
    (h : ∀ w', QOwn w' B (.slice (some ⟨w.heap.size, 0, none⟩) n n) n (List.replicate (n * 4) 0) → Below B w0 w' → wpList Try.prog ops Q rest (a.put o.dst (.slice (some ⟨w.heap.size, 0, none⟩) n n)) w') :
    wpList Try.prog ops Q (o :: rest) a w := by
  obtain ⟨i0, hi, hz0, hz1, hz2⟩ := info_parts infoFt
  refine wpList_make_full w hgd l c _ ho B 73 i0 (.agg #[.int .i64 0, .int .i64 0, .int .i64 0, .int .i64 0]) 4 Try.underlying65 hi hz0 hz1 .i64 .i64 (n : Int) (n : Int) n hl hc rfl rfl (by rw [hz2]; omega) (by unfold maxLen; omega) hB ?_
  intro w' h1 h2
  refine h w' ⟨?_, by simp⟩ (hb.grown h2 hB fun k hk => by simp at hk)
  have e : (madeCells (Value.agg #[.int .i64 0, .int .i64 0, .int .i64 0, .int .i64 0]).cells (n * 4)).toList = (List.replicate (n * 4) (0 : Int)).map (Value.int .i64) := by
    apply List.ext_getElem
    · simp [madeCells]
    · intro i h1 h2
      have hm : i % 4 < 4 := Nat.mod_lt _ (by omega)
      obtain h0 | h0 | h0 | h0 : i % 4 = 0 ∨ i % 4 = 1 ∨ i % 4 = 2 ∨ i % 4 = 3 := by omega
      all_goals simp [madeCells, Value.cells, h0]
  rw [e] at h1
  exact h1
theorem wpList_append_fault {Q : Exit → Act → World → Prop} {ops : Array Oper} {rest : List Oper} {o : Oper} {a : Act} {w0 wr : World} {B : Nat} (hgd : o.guard = none) (s x : Operand)
    (ho : o.op = .call { callee := .builtin .append, args := #[s, x], argTypes := #[65, 65] })
    (v : Value) (n : Nat) (l : List Int) (hs : a.eval s = v) (hown : QOwn wr B v n l) (hb : Below B w0 wr) (hB : B ≤ wr.heap.size)
    (b0 b1 b2 b3 : Int) (c : Nat) (hx : a.eval x = .slice (some ⟨wr.heap.size, 0, none⟩) 1 c) (hl : n + 1 ≤ 1000000)
    (h : ∀ v' w', QOwn w' B v' (n + 1) (l ++ [b0, b1, b2, b3]) → Below B w0 w' → wpList Try.prog ops Q rest (a.put o.dst v') w') :
    wpList Try.prog ops Q (o :: rest) a (wr.alloc (.cells #[.int .i64 b0, .int .i64 b1, .int .i64 b2, .int .i64 b3] 73)) := by
  obtain ⟨i0, hi, hz0, hz1, hz2⟩ := info_parts infoFt
  have hlen := hown.2
  refine wpList_append_own _ hgd s x _ ho B 73 i0 (.agg #[.int .i64 0, .int .i64 0, .int .i64 0, .int .i64 0]) 4 32 Try.underlying65 hi hz0 hz1 hz2 rfl (by decide) v n (l.map (Value.int .i64)) hs (World.ownsRow.alloc hown.1 _) ⟨wr.heap.size, 0, none⟩ 1 c [.int .i64 b0, .int .i64 b1, .int .i64 b2, .int .i64 b3] hx rfl ?_ ?_ (by unfold maxLen; omega) (by omega) (by simp; omega) ?_
  · intro j u hj
    match j, hj with
    | 0, hj => simp at hj; subst hj; simp [Addr.add]
    | 1, hj => simp at hj; subst hj; simp [Addr.add]
    | 2, hj => simp at hj; subst hj; simp [Addr.add]
    | 3, hj => simp at hj; subst hj; simp [Addr.add]
  · intro u hu; simp at hu; rcases hu with rfl | rfl | rfl | rfl <;> rfl
  · intro v' w' h1 h2 _
    refine h v' w' ⟨?_, by simp [hlen]; omega⟩ ?_
    · simpa using h1
    · exact (hb.alloc hB _).grown h2 (by simp; omega) fun k hk => (World.ownsRow.lt hown.1 k hk).1
theorem step_append_fault {Q : Exit → Act → World → Prop} {K : Act → World → Prop} {E : Prop} {ops : Array Oper} {o : Oper} {a : Act} {w0 w : World} {B : Nat} (hgd : o.guard = none) (s x : Operand)
    (ho : o.op = .call { callee := .builtin .append, args := #[s, x], argTypes := #[65, 65] })
    (v : Value) (n : Nat) (l : List Int) (hs : a.eval s = v) (hown : QOwn w B v n l) (hb : Below B w0 w) (hB : B ≤ w.heap.size)
    (g c : Nat) (b0 b1 b2 b3 : Int) (hx : a.eval x = .slice (some ⟨g, 0, none⟩) 1 c) (hcell : Rw w g 73 #[.int .i64 b0, .int .i64 b1, .int .i64 b2, .int .i64 b3]) (hl : n + 1 ≤ 1000000)
    (h : ∀ v' w', QOwn w' B v' (n + 1) (l ++ [b0, b1, b2, b3]) → Below B w0 w' → K (a.put o.dst v') w') :
    if Region.wanted o (yielded ops a.tmps) = true then Oper.wp Try.prog o a w K Q else E := by
  have hw : Region.wanted o (yielded ops a.tmps) = true := by simp [Region.wanted, hgd]
  rw [if_pos hw]
  obtain ⟨i0, hi, hz0, hz1, hz2⟩ := info_parts infoFt
  have hlen := hown.2
  refine wp_append_own w s x _ ho B 73 i0 (.agg #[.int .i64 0, .int .i64 0, .int .i64 0, .int .i64 0]) 4 32 Try.underlying65 hi hz0 hz1 hz2 rfl (by decide) v n (l.map (Value.int .i64)) hs hown.1 ⟨g, 0, none⟩ 1 c [.int .i64 b0, .int .i64 b1, .int .i64 b2, .int .i64 b3] hx rfl ?_ ?_ (by unfold maxLen; omega) (by omega) hB ?_
  · intro j u hj
    rw [Addr.add_lit, Nat.zero_add, hcell.cell j, ← hj]
    simp
  · intro u hu; simp at hu; rcases hu with rfl | rfl | rfl | rfl <;> rfl
  · intro v' w' h1 h2 _
    refine h v' w' ⟨?_, by simp [hlen]; omega⟩ (hb.grown h2 hB fun k hk => (World.ownsRow.lt hown.1 k hk).1)
    simpa using h1
theorem eqFault_any (a b c d : Int) (w : World) : Calls Try.prog 102 #[.agg #[.int .i64 a, .int .i64 b, .int .i64 c, .int .i64 d], .agg #[.int .i64 a, .int .i64 b, .int .i64 c, .int .i64 d]] w fun e w' => e = .returned (.bool true) ∧ Below w.heap.size w w' := by
  have n1 : (a != a) = false := by simp
  have n2 : (b != b) = false := by simp
  have n3 : (c != c) = false := by simp
  have n4 : (d != d) = false := by simp
  obtain ⟨_, _, b0⟩ := Rw.two_new w 73 73 #[.int .i64 a, .int .i64 b, .int .i64 c, .int .i64 d] #[.int .i64 a, .int .i64 b, .int .i64 c, .int .i64 d]
  have HB := Lib.hid b0
  clear b0
  go_enter Try.func102, Try.ntmps102
  go_wp2
  go_ret
  exact ⟨rfl, HB.out⟩
set_option maxRecDepth 100000 in
theorem eqFaults_any (u v : Value) (n : Nat) (l : List Int) (w : World) (hi hi' : Nat) (hu : QI w hi u n l) (hv : QI w hi' v n l) (h1 : hi ≤ w.heap.size) (h2 : hi' ≤ w.heap.size) (hl : n ≤ 1048576) :
    Calls Try.prog 49 #[u, v] w fun e w' => e = .returned (.bool true) ∧ Below w.heap.size w w' := by
  obtain ⟨A, cap, rfl, _, _, hn, hA⟩ := hu
  obtain ⟨A', cap', rfl, _, _, hn', hA'⟩ := hv
  have hnm : (n : Int) ≤ 1048576 := by omega
  rcases Nat.eq_zero_or_pos n with h0 | h0
  · subst h0
    clear hA hA' hn hn'
    go_enter Try.func49, Try.ntmps49
    go_wp2
    go_loopw [5] (fun i wr => i = .int .i64 0 ∧ wr = w) (fun _ _ => 0)
    case atStart => exact ⟨rfl, rfl⟩
    case round =>
      obtain ⟨rfl, rfl⟩ := hrel
      go_wp2
      go_ret
      exact ⟨rfl, Below.refl _ _⟩
  · obtain ⟨g, off, rfl, hg, hx⟩ := hA h0
    obtain ⟨g', off', rfl, hg', hx'⟩ := hA' h0
    have HX := Lib.hid hx
    have HX' := Lib.hid hx'
    clear hA hA' hx hx' hn hn'
    go_enter Try.func49, Try.ntmps49
    go_wp2
    go_loopw [5] (fun i wr => ∃ k : Nat, k ≤ n ∧ i = .int .i64 k ∧ Below w.heap.size w wr) (fun i _ => n - (intOf i).toNat)
    case atStart => exact ⟨0, by omega, rfl, Below.refl _ _⟩
    case round =>
      obtain ⟨k, hk, rfl, hb⟩ := hrel
      by_cases hlt : k < n
      · have hki : (k : Int) < (n : Int) := by omega
        have q0 := (hb.cell (p := ⟨g, off + k * 4, none⟩) (by simp; omega)).trans (HX.out (k * 4) (by omega))
        have q1 := (hb.cell (p := ⟨g, off + k * 4 + 1, none⟩) (by simp; omega)).trans (HX.out (k * 4 + 1) (by omega))
        have q2 := (hb.cell (p := ⟨g, off + k * 4 + 2, none⟩) (by simp; omega)).trans (HX.out (k * 4 + 2) (by omega))
        have q3 := (hb.cell (p := ⟨g, off + k * 4 + 3, none⟩) (by simp; omega)).trans (HX.out (k * 4 + 3) (by omega))
        have t0 := (hb.cell (p := ⟨g', off' + k * 4, none⟩) (by simp; omega)).trans (HX'.out (k * 4) (by omega))
        have t1 := (hb.cell (p := ⟨g', off' + k * 4 + 1, none⟩) (by simp; omega)).trans (HX'.out (k * 4 + 1) (by omega))
        have t2 := (hb.cell (p := ⟨g', off' + k * 4 + 2, none⟩) (by simp; omega)).trans (HX'.out (k * 4 + 2) (by omega))
        have t3 := (hb.cell (p := ⟨g', off' + k * 4 + 3, none⟩) (by simp; omega)).trans (HX'.out (k * 4 + 3) (by omega))
        have hsz := hb.size
        generalize l.getD (k * 4) 0 = x0 at *
        generalize l.getD (k * 4 + 1) 0 = x1 at *
        generalize l.getD (k * 4 + 2) 0 = x2 at *
        generalize l.getD (k * 4 + 3) 0 = x3 at *
        have HB := Lib.hid hb
        clear hb
        go_wp2_with fail
        go_still_tail 8, (by kernel_rfl)
        change wpList _ _ _ _ _ wr.drew
        go_wp2_with fail
        refine (eqFault_any x0 x1 x2 x3 _).mono ?_
        rintro e w1 ⟨rfl, hb1⟩
        have HB1 := Lib.hid (HB.out.drew.trans (hb1.mono (by simpa using hsz)))
        clear hb1 HB
        go_wp2
        go_roundw
        case rel => exact ⟨k + 1, by omega, by go_num, HB1.out⟩
        case measure => simp [intOf]; omega
      · obtain rfl : k = n := by omega
        go_wp2
        go_ret
        exact ⟨rfl, hb⟩
theorem szFaults_any (v : Value) (n : Nat) (l : List Int) (w : World) (hi : Nat) (h : QI w hi v n l) :
    Calls Try.prog 45 #[v, .int .i64 1048576] w fun e w' => ∃ x : Int, e = .returned (.int .i64 x) ∧ Left 1048576 n x ∧ w' = w := by
  obtain ⟨A, cap, rfl, hlc, hcm, hn, hA⟩ := h
  have hnm : (n : Int) ≤ 9223372036854775807 := by omega
  clear hA hn
  by_cases hbig : (1048576 : Int) < (n : Int)
  · go_enter Try.func45, Try.ntmps45
    go_wp2
    go_ret
    exact ⟨_, rfl, .inr ⟨by omega, rfl⟩, rfl⟩
  · have hs : (n : Int) ≤ 1048576 := by omega
    go_enter Try.func45, Try.ntmps45
    go_wp2
    go_ret
    exact ⟨_, rfl, .inl ⟨by omega, by omega⟩, rfl⟩
theorem take_set4 (L : List Int) (n k : Nat) (hL : L.length = n * 4) (h : k < n) :
    (((((L.take (k * 4) ++ List.replicate (n * 4 - k * 4) 0).set (k * 4) (L.getD (k * 4) 0)).set (k * 4 + 1) (L.getD (k * 4 + 1) 0)).set (k * 4 + 2) (L.getD (k * 4 + 2) 0)).set (k * 4 + 3) (L.getD (k * 4 + 3) 0)) = L.take ((k + 1) * 4) ++ List.replicate (n * 4 - (k + 1) * 4) 0 := by
  have s := fun j (hj : j < L.length) => take_setI L j hj
  rw [hL] at s
  have e0 := s (k * 4) (by omega)
  have e1 := s (k * 4 + 1) (by omega)
  have e2 := s (k * 4 + 2) (by omega)
  have e3 := s (k * 4 + 3) (by omega)
  rw [e0, e1, e2, e3]
  rw [show (k + 1) * 4 = k * 4 + 3 + 1 by omega]
theorem toFault_any (a b c d : Int) (w : World) : Calls Try.prog 52 #[.agg #[.int .i64 a, .int .i64 b, .int .i64 c, .int .i64 d]] w fun e w' => e = .returned (.agg #[.int .i64 a, .int .i64 b, .int .i64 c, .int .i64 d]) ∧ Below w.heap.size w w' := by
  obtain ⟨_, r1, _, hb⟩ := Rw.three_new w 71 73 73 #[.int .i64 a, .int .i64 b, .int .i64 c, .int .i64 d] #[.int .i64 a, .int .i64 b, .int .i64 c, .int .i64 d] #[.int .i64 a, .int .i64 b, .int .i64 c, .int .i64 d]
  have R1 := Lib.hid r1
  have HB := Lib.hid hb
  clear r1 hb
  go_enter Try.func52, Try.ntmps52
  go_wp2
  exact bodyPost_ret (results_cell_row Try.results52 _ _ _ _ _ _ _ rfl R1.out Try.underlying73 rfl infoFt4) rfl ⟨rfl, HB.out⟩
set_option maxHeartbeats 1000000 in
theorem toFaults_any (v : Value) (n : Nat) (l : List Int) (w : World) (hi : Nat) (h : QI w hi v n l) (hh : hi ≤ w.heap.size) (hl : n ≤ 1048576) :
    Calls Try.prog 47 #[v] w fun e w' => ∃ u, e = .returned u ∧ QOwn w' w.heap.size u n l ∧ Below w.heap.size w w' := by
  obtain ⟨A, cap, rfl, hlc, hcm, hn, hA⟩ := h
  have hnm : (n : Int) ≤ 1048576 := by omega
  rcases Nat.eq_zero_or_pos n with hz | hz
  · subst hz
    obtain rfl : l = [] := List.eq_nil_of_length_eq_zero (by omega)
    clear hA hn hlc hcm
    go_enter Try.func47, Try.ntmps47
    go_wp2_with (refine wpList_make_faults rfl _ _ rfl 0 rfl rfl (by omega) (Below.refl w.heap.size w) (Nat.le_refl _) ?_; intro w1 hown hb)
    go_loop [4] (fun i => i = .int .i64 0) (fun _ => 0)
    case atStart => rfl
    case round =>
      obtain rfl := hrel
      go_wp2
      go_ret
      exact ⟨_, rfl, hown, hb⟩
  · obtain ⟨g, off, rfl, hg, hx⟩ := hA hz
    have HX := Lib.hid hx
    have HN := Lib.hid hn
    clear hA hx hn hlc hcm
    go_enter Try.func47, Try.ntmps47
    go_wp2_with (refine wpList_make_faults rfl _ _ rfl n rfl rfl (by omega) (Below.refl w.heap.size w) (Nat.le_refl _) ?_; intro w1 hown hb)
    go_loopw [4] (fun i wr => ∃ k : Nat, k ≤ n ∧ i = .int .i64 k ∧ QOwn wr w.heap.size (.slice (some ⟨w.heap.size, 0, none⟩) n n) n (l.take (k * 4) ++ List.replicate (n * 4 - k * 4) 0) ∧ Below w.heap.size w wr) (fun i _ => n - (intOf i).toNat)
    case atStart => exact ⟨0, by omega, rfl, by simpa using hown, hb⟩
    case round =>
      clear hown hb
      obtain ⟨k, hk, rfl, hown, hb⟩ := hrel
      have hN := HN.out
      by_cases hlt : k < n
      · have hki : (k : Int) < (n : Int) := by omega
        have q0 := (hb.cell (p := ⟨g, off + k * 4, none⟩) (by simp; omega)).trans (HX.out (k * 4) (by omega))
        have q1 := (hb.cell (p := ⟨g, off + k * 4 + 1, none⟩) (by simp; omega)).trans (HX.out (k * 4 + 1) (by omega))
        have q2 := (hb.cell (p := ⟨g, off + k * 4 + 2, none⟩) (by simp; omega)).trans (HX.out (k * 4 + 2) (by omega))
        have q3 := (hb.cell (p := ⟨g, off + k * 4 + 3, none⟩) (by simp; omega)).trans (HX.out (k * 4 + 3) (by omega))
        have HS := Lib.hid (take_set4 l n k hN hlt)
        have hsz := hb.size
        generalize l.getD (k * 4) 0 = x0 at *
        generalize l.getD (k * 4 + 1) 0 = x1 at *
        generalize l.getD (k * 4 + 2) 0 = x2 at *
        generalize l.getD (k * 4 + 3) 0 = x3 at *
        have HOWN := Lib.hid hown
        have HB := Lib.hid hb
        clear hown hb hN
        go_wp2_with fail
        refine (toFault_any x0 x1 x2 x3 _).mono ?_
        rintro e w1 ⟨rfl, hb1⟩
        have o2 := HOWN.out.later hb1 (Nat.le_refl _)
        have hsz1 := hb1.size
        have f0 := o2.free (k * 4)
        have f1 := o2.free (k * 4 + 1)
        have f2 := o2.free (k * 4 + 2)
        have f3 := o2.free (k * 4 + 3)
        have d0 := o2.cell (j := k * 4) (by omega)
        have d1 := o2.cell (j := k * 4 + 1) (by omega)
        have d2 := o2.cell (j := k * 4 + 2) (by omega)
        have d3 := o2.cell (j := k * 4 + 3) (by omega)
        have O3 := Lib.hid ((((o2.stored (k * 4) x0).stored (k * 4 + 1) x1).stored (k * 4 + 2) x2).stored (k * 4 + 3) x3)
        have HB2 := Lib.hid (HB.out.trans (hb1.mono hsz))
        clear o2 hb1 HOWN HB q0 q1 q2 q3
        go_wp2
        go_roundw
        case rel =>
          have o3 := O3.out
          rw [HS.out] at o3
          exact ⟨k + 1, by omega, by go_num, o3, bset (bset (bset (bset HB2.out (Nat.le_refl _) _) (Nat.le_refl _) _) (Nat.le_refl _) _) (Nat.le_refl _) _⟩
        case measure => simp [intOf]; omega
      · obtain rfl : k = n := by omega
        rw [Nat.sub_self, List.replicate_zero, List.append_nil, List.take_of_length_le (by omega)] at hown
        clear hN
        go_wp2
        go_ret
        exact ⟨_, rfl, hown, hb⟩
theorem mkL_set4 (m : Int) (l : List Int) (k n : Nat) (hl : l.length = n * 4) (h : k < n) :
    (((((mkL m (k * 4) ++ l.drop (k * 4)).set (k * 4) (m + (k : Int) * 4)).set (k * 4 + 1) (m + (k : Int) * 4 + 1)).set (k * 4 + 2) (m + (k : Int) * 4 + 1 + 1)).set (k * 4 + 3) (m + (k : Int) * 4 + 1 + 1 + 1)) = mkL m ((k + 1) * 4) ++ l.drop ((k + 1) * 4) := by
  rw [show m + (k : Int) * 4 + 1 + 1 + 1 = m + ((k * 4 + 3 : Nat) : Int) by omega, show m + (k : Int) * 4 + 1 + 1 = m + ((k * 4 + 2 : Nat) : Int) by omega, show m + (k : Int) * 4 + 1 = m + ((k * 4 + 1 : Nat) : Int) by omega, show m + (k : Int) * 4 = m + ((k * 4 : Nat) : Int) by omega]
  rw [mkL_set m l (k * 4) (by omega), mkL_set m l (k * 4 + 1) (by omega), mkL_set m l (k * 4 + 2) (by omega), mkL_set m l (k * 4 + 3) (by omega)]
  rw [show (k + 1) * 4 = k * 4 + 3 + 1 by omega]
set_option maxHeartbeats 1000000 in
theorem markFaults_any (B : Nat) (v : Value) (n : Nat) (l : List Int) (w : World) (h : QOwn w B v n l) (hl : n ≤ 1048576) :
    Calls Try.prog 50 #[v, .int .i64 1] w fun e w' => e = .returned (.int .i64 (1 + ((n * 4 : Nat) : Int))) ∧ QOwn w' B v n (mkL 1 (n * 4)) ∧ w.grownBy w' v.ownBlock ∧ Below B w w' := by
  rcases h.shape with ⟨rfl, rfl⟩ | ⟨g, cap, rfl, _, _, hg, hgl⟩
  · have h2 := h.2
    obtain rfl : l = [] := List.eq_nil_of_length_eq_zero (by omega)
    go_enter Try.func50, Try.ntmps50
    go_wp2
    go_loop [1, 5] (fun u i => u = .int .i64 1 ∧ i = .int .i64 0) (fun _ _ => 0)
    case atStart => exact ⟨rfl, rfl⟩
    case round =>
      obtain ⟨rfl, rfl⟩ := hrel
      go_wp2
      go_ret
      exact ⟨rfl, h, ⟨rfl, rfl, rfl, Nat.le_refl _, fun _ _ _ => rfl⟩, Below.refl _ _⟩
  · have hnm : (n : Int) ≤ 1048576 := by omega
    have hn := h.2
    have H := Lib.hid h
    have HN := Lib.hid hn
    clear h hn
    go_enter Try.func50, Try.ntmps50
    go_wp2
    go_loopw [1, 5] (fun u i wr => ∃ k : Nat, k ≤ n ∧ i = .int .i64 k ∧ u = .int .i64 (1 + ((k * 4 : Nat) : Int)) ∧ QOwn wr B (.slice (some ⟨g, 0, none⟩) n cap) n (mkL 1 (k * 4) ++ l.drop (k * 4)) ∧ w.grownBy wr (some g) ∧ Below B w wr) (fun _ i _ => n - (intOf i).toNat)
    case atStart => exact ⟨0, by omega, rfl, rfl, H.out, ⟨rfl, rfl, rfl, Nat.le_refl _, fun _ _ _ => rfl⟩, Below.refl _ _⟩
    case round =>
      obtain ⟨k, hk, rfl, rfl, hown, hgr, hb⟩ := hrel
      by_cases hlt : k < n
      · have hki : (k : Int) < (n : Int) := by omega
        have c0 := hown.cell (j := k * 4) (by omega)
        have c1 := hown.cell (j := k * 4 + 1) (by omega)
        have c2 := hown.cell (j := k * 4 + 2) (by omega)
        have c3 := hown.cell (j := k * 4 + 3) (by omega)
        have f0 := hown.free (k * 4)
        have f1 := hown.free (k * 4 + 1)
        have f2 := hown.free (k * 4 + 2)
        have f3 := hown.free (k * 4 + 3)
        have hs := (((hown.stored (k * 4) (1 + (k : Int) * 4)).stored (k * 4 + 1) (1 + (k : Int) * 4 + 1)).stored (k * 4 + 2) (1 + (k : Int) * 4 + 1 + 1)).stored (k * 4 + 3) (1 + (k : Int) * 4 + 1 + 1 + 1)
        rw [mkL_set4 1 l k n HN.out hlt] at hs
        have HS := Lib.hid hs
        have HG := Lib.hid (grown_set (k := k * 4 + 3) (grown_set (k := k * 4 + 2) (grown_set (k := k * 4 + 1) (grown_set (k := k * 4) hgr (.int .i64 (1 + (k : Int) * 4))) (.int .i64 (1 + (k : Int) * 4 + 1))) (.int .i64 (1 + (k : Int) * 4 + 1 + 1))) (.int .i64 (1 + (k : Int) * 4 + 1 + 1 + 1)))
        have HB := Lib.hid (bset (k := k * 4 + 3) (bset (k := k * 4 + 2) (bset (k := k * 4 + 1) (bset (k := k * 4) hb hg (.int .i64 (1 + (k : Int) * 4))) hg (.int .i64 (1 + (k : Int) * 4 + 1))) hg (.int .i64 (1 + (k : Int) * 4 + 1 + 1))) hg (.int .i64 (1 + (k : Int) * 4 + 1 + 1 + 1)))
        clear hown hgr hb hs
        go_wp2
        go_roundw
        case rel => exact ⟨k + 1, by omega, by go_num, by go_num, HS.out, HG.out, HB.out⟩
        case measure => simp [intOf]; omega
      · obtain rfl : k = n := by omega
        have hN := HN.out
        rw [List.drop_eq_nil_of_le (by omega), List.append_nil] at hown
        clear hN
        go_wp2
        go_ret
        exact ⟨rfl, hown, hgr, hb⟩
end Go.Proofs.Ytgkanacaijlljac
