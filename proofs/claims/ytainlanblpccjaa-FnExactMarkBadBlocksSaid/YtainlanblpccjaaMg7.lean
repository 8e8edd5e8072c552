/- The proof's own lemmas, part 8: FtM TbO PmN. -/
import Derived.Test.YtainlanblpccjaaProg
import Derived.Test.YtainlanblpccjaaMg6
import Derived.StillTailTactics
import Derived.Test.YtainlanblpccjaaMg2
/- Lists of faults in memory, and what the laws' helpers for them do. -/
namespace Go.Proofs.Ytainlanblpccjaa
open Go.RowKit
set_option linter.unusedVariables false
/-- The value v is a slice of n faults, in the blocks below hi, whose fields are the integers l. -/
def QI (w : World) (hi : Nat) (v : Value) (n : Nat) (l : List Int) : Prop :=
  ∃ A cap, v = .slice A n cap ∧ n ≤ cap ∧ cap ≤ 9223372036854775807 ∧ l.length = n * 4 ∧ (0 < n → ∃ b off, A = some ⟨b, off, none⟩ ∧ b < hi ∧ ∀ i, i < n * 4 → w.cell? ⟨b, off + i, none⟩ = some (.int .i64 (l.getD i 0)))
/-- .. of the call's own. -/
def QOwn (w : World) (B : Nat) (v : Value) (n : Nat) (l : List Int) : Prop := w.ownsRow B 95 4 v n (l.map (Value.int .i64)) ∧ l.length = n * 4
def QO (w : World) (lo hi : Nat) (v : Value) (n : Nat) (l : List Int) : Prop := QOwn w lo v n l ∧ ∀ k, v.ownBlock = some k → k < hi
theorem infoFt : (Try.prog.info? 95).map (fun i => (i.zero, i.size, i.bytes)) = some (some (.agg #[.int .i64 0, .int .i64 0, .int .i64 0, .int .i64 0]), 4, 32) := by kernel_rfl
theorem infoFt4 : (Try.prog.info? 95).map (·.size) = some 4 := by kernel_rfl
section
variable {w w' : World} {lo hi lo' hi' B n : Nat} {v : Value} {l : List Int}
theorem QI.below (h : QI w hi v n l) (hb : Below B w w') (hB : hi ≤ B) : QI w' hi v n l := by
  obtain ⟨A, cap, rfl, h1, h2, hl, hc⟩ := h
  refine ⟨A, cap, rfl, h1, h2, hl, fun h0 => ?_⟩
  obtain ⟨b, off, rfl, hbl, hx⟩ := hc h0
  exact ⟨b, off, rfl, hbl, fun i hi => (hb.cell (p := ⟨b, off + i, none⟩) (Nat.lt_of_lt_of_le hbl hB)).trans (hx i hi)⟩
theorem QI.wide (h : QI w hi v n l) (hh : hi ≤ hi') : QI w hi' v n l := by
  obtain ⟨A, cap, rfl, h1, h2, hl, hc⟩ := h
  refine ⟨A, cap, rfl, h1, h2, hl, fun h0 => ?_⟩
  obtain ⟨b, off, rfl, hbl, hx⟩ := hc h0
  exact ⟨b, off, rfl, by omega, hx⟩
theorem QI.len (h : QI w hi v n l) : l.length = n * 4 ∧ n ≤ 9223372036854775807 := by obtain ⟨A, cap, rfl, h1, h2, hl, hc⟩ := h; exact ⟨hl, by omega⟩
theorem QOwn.blockOf (h : QOwn w lo v n l) {k : Nat} (e : v.ownBlock = some k) : lo ≤ k ∧ k < w.heap.size := World.ownsRow.lt h.1 k e
theorem QOwn.shape (h : QOwn w B v n l) : (v = .slice none 0 0 ∧ n = 0) ∨ ∃ g cap, v = .slice (some ⟨g, 0, none⟩) n cap ∧ n ≤ cap ∧ cap ≤ 9223372036854775807 ∧ B ≤ g ∧ g < w.heap.size := by
  rcases h.1.2 with ⟨h1, h2⟩ | ⟨g, cap, cur, h1, h2, h3, h4, h5, _⟩
  · exact .inl ⟨h1, h2⟩
  · have hlt := World.ownsRow.lt h.1 g (by rw [h1]; rfl)
    exact .inr ⟨g, cap, h1, by omega, by unfold maxLen at h5; omega, hlt.1, hlt.2⟩
theorem QOwn.cell {g cap : Nat} (h : QOwn w B (.slice (some ⟨g, 0, none⟩) n cap) n l) {j : Nat} (hj : j < n * 4) : w.cell? ⟨g, j, none⟩ = some (.int .i64 (l.getD j 0)) := by
  rw [World.ownsRow.cellAt h.1 j hj]
  have := h.2
  simp [show j < l.length by omega]
theorem QOwn.free {g cap : Nat} (h : QOwn w B (.slice (some ⟨g, 0, none⟩) n cap) n l) (j : Nat) : w.frozen? ⟨g, j, none⟩ = false := World.ownsRow.frozenAt h.1 j
theorem QOwn.stored {g cap : Nat} (h : QOwn w B (.slice (some ⟨g, 0, none⟩) n cap) n l) (j : Nat) (b : Int) : QOwn (w.setCell ⟨g, j, none⟩ (.int .i64 b)) B (.slice (some ⟨g, 0, none⟩) n cap) n (l.set j b) := by
  refine ⟨?_, by rw [List.length_set]; exact h.2⟩
  have := (World.ownsRow.stored h.1 j (.int .i64 b)).1
  rw [List.map_set]
  exact this
theorem QOwn.sames (h : QOwn w lo v n l) (hs : ∀ k, v.ownBlock = some k → w'.heap[k]? = w.heap[k]?) : QOwn w' lo v n l := by
  refine ⟨⟨h.1.1, ?_⟩, h.2⟩
  rcases h.1.2 with h2 | ⟨g, cap, cur, h1, h2, h3, h4⟩
  · exact .inl h2
  · exact .inr ⟨g, cap, cur, h1, h2, (hs g (by rw [h1]; rfl)).trans h3, h4⟩
theorem QOwn.later (h : QOwn w B v n l) {B' : Nat} (hb : Below B' w w') (hB : w.heap.size ≤ B') : QOwn w' B v n l := h.sames fun k e => hb.block k (by have := (h.blockOf e).2; omega)
theorem QOwn.reads (h : QOwn w lo v n l) : QI w w.heap.size v n l := by
  have h2 := h.2
  rcases h.shape with ⟨rfl, rfl⟩ | ⟨g, cap, rfl, h3, h4, h5, h6⟩
  · exact ⟨none, 0, rfl, by omega, by omega, h2, fun h => by omega⟩
  · exact ⟨_, cap, rfl, h3, h4, h2, fun _ => ⟨g, 0, rfl, h6, fun i hi => by rw [Nat.zero_add]; exact h.cell hi⟩⟩
theorem QO.mk_ (h : QOwn w lo v n l) : QO w lo w.heap.size v n l := ⟨h, fun k e => (h.blockOf e).2⟩
theorem QO.same (h : QO w lo hi v n l) (hs : Same lo hi w w') : QO w' lo hi v n l := ⟨h.1.sames fun k e => hs k (h.1.blockOf e).1 (h.2 k e), h.2⟩
theorem QO.below (h : QO w lo hi v n l) (hb : Below B w w') (hB : hi ≤ B) : QO w' lo hi v n l := h.same (sm hb lo hB)
theorem QO.reads (h : QO w lo hi v n l) : QI w hi v n l := by
  obtain ⟨A, cap, rfl, h1, h2, hl, hc⟩ := h.1.reads
  refine ⟨A, cap, rfl, h1, h2, hl, fun h0 => ?_⟩
  obtain ⟨b, off, rfl, hbl, hx⟩ := hc h0
  refine ⟨b, off, rfl, ?_, hx⟩
  rcases h.1.shape with ⟨e, _⟩ | ⟨g, cap', e, _⟩
  · cases e
  · injection e with e1 e2 e3
    injection e1 with e1
    injection e1 with e1 e4
    subst e1
    exact h.2 b rfl
theorem QOwn.nil (w : World) (B : Nat) : QOwn w B (.slice none 0 0) 0 [] := ⟨World.ownsRow_nil w B _ 4, rfl⟩
theorem QOwn.made (w : World) {B : Nat} (h : B ≤ w.heap.size) : QOwn (w.alloc (.cells #[] 95)) B (.slice (some ⟨w.heap.size, 0, none⟩) 0 0) 0 [] :=
  ⟨World.ownsRow_made w #[] 0 h (by unfold maxLen; omega) rfl, rfl⟩
theorem QOwn.sliceOf (h : QOwn w B v n l) : ∃ A c, v = .slice A n c := by
  rcases h.shape with ⟨rfl, rfl⟩ | ⟨g, cap, rfl, _⟩ <;> exact ⟨_, _, rfl⟩
theorem QOwn.low {B' : Nat} (h : QOwn w B v n l) (hB : B' ≤ B) : QOwn w B' v n l := by
  refine ⟨⟨h.1.1, ?_⟩, h.2⟩
  rcases h.1.2 with h2 | ⟨g, cap, cur, h1, h2, h3, h4, h5⟩
  · exact .inl h2
  · exact .inr ⟨g, cap, cur, h1, by omega, h3, h4, h5⟩
end
theorem wpList_make_faults {Q : Exit → Act → World → Prop} {ops : Array Oper} {rest : List Oper} {o : Oper} {a : Act} {w0 w : World} {B : Nat} (hgd : o.guard = none) (l c : Operand)
    (ho : o.op = Op.makeSlice 176 l c) (n : Nat) (hl : a.eval l = .int .i64 (n : Int)) (hc : a.eval c = .int .i64 (n : Int)) (hn : n ≤ 1048576)
    (hb : Below B w0 w) (hB : B ≤ w.heap.size)
    (h : ∀ w', QOwn w' B (.slice (some ⟨w.heap.size, 0, none⟩) n n) n (List.replicate (n * 4) 0) → Below B w0 w' → wpList Try.prog ops Q rest (a.put o.dst (.slice (some ⟨w.heap.size, 0, none⟩) n n)) w') :
    wpList Try.prog ops Q (o :: rest) a w := by
  obtain ⟨i0, hi, hz0, hz1, hz2⟩ := info_parts infoFt
  refine wpList_make_full w hgd l c _ ho B 95 i0 (.agg #[.int .i64 0, .int .i64 0, .int .i64 0, .int .i64 0]) 4 Try.underlying176 hi hz0 hz1 .i64 .i64 (n : Int) (n : Int) n hl hc rfl rfl (by rw [hz2]; omega) (by unfold maxLen; omega) hB ?_
  intro w' h1 h2
  refine h w' ⟨?_, by simp⟩ (hb.grown h2 hB fun k hk => by simp at hk)
  have e : (madeCells (Value.agg #[.int .i64 0, .int .i64 0, .int .i64 0, .int .i64 0]).cells (n * 4)).toList = (List.replicate (n * 4) (0 : Int)).map (Value.int .i64) := by
    apply List.ext_getElem
    · simp [madeCells]
    · intro i h1 h2
      have hm : i % 4 < 4 := Nat.mod_lt _ (by omega)
      obtain h0 | h0 | h0 | h0 : i % 4 = 0 ∨ i % 4 = 1 ∨ i % 4 = 2 ∨ i % 4 = 3 := by omega
      all_goals simp [madeCells, Value.cells, h0]
  rw [e] at h1
  exact h1
theorem wpList_append_fault {Q : Exit → Act → World → Prop} {ops : Array Oper} {rest : List Oper} {o : Oper} {a : Act} {w0 wr : World} {B : Nat} (hgd : o.guard = none) (s x : Operand)
    (ho : o.op = .call { callee := .builtin .append, args := #[s, x], argTypes := #[176, 176] })
    (v : Value) (n : Nat) (l : List Int) (hs : a.eval s = v) (hown : QOwn wr B v n l) (hb : Below B w0 wr) (hB : B ≤ wr.heap.size)
    (b0 b1 b2 b3 : Int) (c : Nat) (hx : a.eval x = .slice (some ⟨wr.heap.size, 0, none⟩) 1 c) (hl : n + 1 ≤ 1000000)
    (h : ∀ v' w', QOwn w' B v' (n + 1) (l ++ [b0, b1, b2, b3]) → Below B w0 w' → wpList Try.prog ops Q rest (a.put o.dst v') w') :
    wpList Try.prog ops Q (o :: rest) a (wr.alloc (.cells #[.int .i64 b0, .int .i64 b1, .int .i64 b2, .int .i64 b3] 95)) := by
  obtain ⟨i0, hi, hz0, hz1, hz2⟩ := info_parts infoFt
  have hlen := hown.2
  refine wpList_append_own _ hgd s x _ ho B 95 i0 (.agg #[.int .i64 0, .int .i64 0, .int .i64 0, .int .i64 0]) 4 32 Try.underlying176 hi hz0 hz1 hz2 rfl (by decide) v n (l.map (Value.int .i64)) hs (World.ownsRow.alloc hown.1 _) ⟨wr.heap.size, 0, none⟩ 1 c [.int .i64 b0, .int .i64 b1, .int .i64 b2, .int .i64 b3] hx rfl ?_ ?_ (by unfold maxLen; omega) (by omega) (by simp; omega) ?_
  · intro j u hj
    match j, hj with
    | 0, hj => simp at hj; subst hj; simp [Addr.add]
    | 1, hj => simp at hj; subst hj; simp [Addr.add]
    | 2, hj => simp at hj; subst hj; simp [Addr.add]
    | 3, hj => simp at hj; subst hj; simp [Addr.add]
  · intro u hu; simp at hu; rcases hu with rfl | rfl | rfl | rfl <;> rfl
  · intro v' w' h1 h2 _
    refine h v' w' ⟨?_, by simp [hlen]; omega⟩ ?_
    · simpa using h1
    · exact (hb.alloc hB _).grown h2 (by simp; omega) fun k hk => (World.ownsRow.lt hown.1 k hk).1
theorem step_append_fault {Q : Exit → Act → World → Prop} {K : Act → World → Prop} {E : Prop} {ops : Array Oper} {o : Oper} {a : Act} {w0 w : World} {B : Nat} (hgd : o.guard = none) (s x : Operand)
    (ho : o.op = .call { callee := .builtin .append, args := #[s, x], argTypes := #[176, 176] })
    (v : Value) (n : Nat) (l : List Int) (hs : a.eval s = v) (hown : QOwn w B v n l) (hb : Below B w0 w) (hB : B ≤ w.heap.size)
    (g c : Nat) (b0 b1 b2 b3 : Int) (hx : a.eval x = .slice (some ⟨g, 0, none⟩) 1 c) (hcell : Rw w g 95 #[.int .i64 b0, .int .i64 b1, .int .i64 b2, .int .i64 b3]) (hl : n + 1 ≤ 1000000)
    (h : ∀ v' w', QOwn w' B v' (n + 1) (l ++ [b0, b1, b2, b3]) → Below B w0 w' → K (a.put o.dst v') w') :
    if Region.wanted o (yielded ops a.tmps) = true then Oper.wp Try.prog o a w K Q else E := by
  have hw : Region.wanted o (yielded ops a.tmps) = true := by simp [Region.wanted, hgd]
  rw [if_pos hw]
  obtain ⟨i0, hi, hz0, hz1, hz2⟩ := info_parts infoFt
  have hlen := hown.2
  refine wp_append_own w s x _ ho B 95 i0 (.agg #[.int .i64 0, .int .i64 0, .int .i64 0, .int .i64 0]) 4 32 Try.underlying176 hi hz0 hz1 hz2 rfl (by decide) v n (l.map (Value.int .i64)) hs hown.1 ⟨g, 0, none⟩ 1 c [.int .i64 b0, .int .i64 b1, .int .i64 b2, .int .i64 b3] hx rfl ?_ ?_ (by unfold maxLen; omega) (by omega) hB ?_
  · intro j u hj
    rw [Addr.add_lit, Nat.zero_add, hcell.cell j, ← hj]
    simp
  · intro u hu; simp at hu; rcases hu with rfl | rfl | rfl | rfl <;> rfl
  · intro v' w' h1 h2 _
    refine h v' w' ⟨?_, by simp [hlen]; omega⟩ (hb.grown h2 hB fun k hk => (World.ownsRow.lt hown.1 k hk).1)
    simpa using h1
theorem take_set4 (L : List Int) (n k : Nat) (hL : L.length = n * 4) (h : k < n) :
    (((((L.take (k * 4) ++ List.replicate (n * 4 - k * 4) 0).set (k * 4) (L.getD (k * 4) 0)).set (k * 4 + 1) (L.getD (k * 4 + 1) 0)).set (k * 4 + 2) (L.getD (k * 4 + 2) 0)).set (k * 4 + 3) (L.getD (k * 4 + 3) 0)) = L.take ((k + 1) * 4) ++ List.replicate (n * 4 - (k + 1) * 4) 0 := by
  have s := fun j (hj : j < L.length) => take_setI L j hj
  rw [hL] at s
  have e0 := s (k * 4) (by omega)
  have e1 := s (k * 4 + 1) (by omega)
  have e2 := s (k * 4 + 2) (by omega)
  have e3 := s (k * 4 + 3) (by omega)
  rw [e0, e1, e2, e3]
  rw [show (k + 1) * 4 = k * 4 + 3 + 1 by omega]
theorem mkL_set4 (m : Int) (l : List Int) (k n : Nat) (hl : l.length = n * 4) (h : k < n) :
    (((((mkL m (k * 4) ++ l.drop (k * 4)).set (k * 4) (m + (k : Int) * 4)).set (k * 4 + 1) (m + (k : Int) * 4 + 1)).set (k * 4 + 2) (m + (k : Int) * 4 + 1 + 1)).set (k * 4 + 3) (m + (k : Int) * 4 + 1 + 1 + 1)) = mkL m ((k + 1) * 4) ++ l.drop ((k + 1) * 4) := by
  rw [show m + (k : Int) * 4 + 1 + 1 + 1 = m + ((k * 4 + 3 : Nat) : Int) by omega, show m + (k : Int) * 4 + 1 + 1 = m + ((k * 4 + 2 : Nat) : Int) by omega, show m + (k : Int) * 4 + 1 = m + ((k * 4 + 1 : Nat) : Int) by omega, show m + (k : Int) * 4 = m + ((k * 4 : Nat) : Int) by omega]
  rw [mkL_set m l (k * 4) (by omega), mkL_set m l (k * 4 + 1) (by omega), mkL_set m l (k * 4 + 2) (by omega), mkL_set m l (k * 4 + 3) (by omega)]
  rw [show (k + 1) * 4 = k * 4 + 3 + 1 by omega]
end Go.Proofs.Ytainlanblpccjaa
/- Tables, faults and lists of faults that come in as arguments of a law, opened: what is known of them. -/
namespace Go.Proofs.Ytainlanblpccjaa
open Go.RowKit Go.ChangeShapes Go.WideShapes
set_option linter.unusedVariables false
instance : Inhabited Ft := ⟨Ft.zero⟩
def WfL (l : List Int) : Prop := ∀ i, i < l.length → WfI (l.getD i 0)
theorem WfI.j {n : Int} (h : WfI n) : -9223372036854775808 ≤ n ∧ n ≤ 9223372036854775807 := by
  simp [WfI, Lit.wf] at h
  have h1 : IntKind.i64.min = -9223372036854775808 := by decide
  have h2 : IntKind.i64.max = 9223372036854775807 := by decide
  omega
def TbW (T : Tb) : Prop := (WfI T.d ∧ WfI T.b ∧ WfI T.p ∧ WfI T.sp) ∧ WfL T.bad ∧ WfL T.rm
section
variable {H : Type} {enc : TypeId × Value → H} {W : World} {sp : Nat → Bool} {held : Bool}
theorem open_ints1 {fuel : Nat} {v : Value} {x : DataW H × List MemPlace} (h : DataW.trod enc Try.prog W 0 sp held fuel 22 [v] = some x) : ∃ L, NI W W.heap.size v L ∧ WfL L := by
  rcases open_ints Try.underlying22 Try.underlying2 (by kernel_rfl) h with ⟨hcs, _⟩ | ⟨a, l, c, zs, hcs, _, hl, hm, hz, _, hcell, hwz⟩
  · injection hcs with hcs
    subst hcs
    exact ⟨[], NI.nil _ _, fun i hi => by simp at hi⟩
  · injection hcs with hcs
    subst hcs
    have hzl : l ≤ zs.length := by rw [hz]; split <;> omega
    have e : ∀ i, i < l → (zs.take l).getD i 0 = zs.getD i 0 := fun i hi => by
      rw [List.getD_eq_getElem?_getD, List.getD_eq_getElem?_getD, List.getElem?_take, if_pos hi]
    refine ⟨zs.take l, ⟨some a, l, c, rfl, hl, by unfold maxLen at hm; omega, by rw [List.length_take]; omega, fun h0 => ?_⟩, fun i hi => ?_⟩
    · obtain ⟨b, off, spot⟩ := a
      have h00 := hcell 0 (by omega)
      have hspot : spot = none := by simpa [Addr.add] using World.cell?_spot h00
      subst hspot
      refine ⟨b, off, rfl, World.block_lt_of_cell? W ⟨b, off, none⟩ (by simpa [Addr.add] using h00), fun i hi => ?_⟩
      have := hcell i (by omega)
      have e2 : (⟨b, off, none⟩ : Addr).add i = ⟨b, off + i, none⟩ := by unfold Addr.add; split <;> simp_all
      rw [e2] at this
      rw [this, e i hi]
    · rw [List.length_take] at hi
      rw [e i (by omega), List.getD_eq_getElem?_getD, List.getElem?_eq_getElem (show i < zs.length by omega)]
      exact hwz _ (List.getElem_mem (show i < zs.length by omega))
theorem cellsL64 : Try.prog.cellsOf 22 = 1 := by kernel_rfl
theorem cellsLT : Try.prog.cellsOf 85 = 6 := by kernel_rfl
theorem cellsLG' : Try.prog.cellsOf 59 = 3 := by kernel_rfl
theorem cellsI' : Try.prog.cellsOf 2 = 1 := by kernel_rfl
theorem list6 {α : Type} {l : List α} (h : l.length = 6) : ∃ a b c d e f, l = [a, b, c, d, e, f] := by
  match l, h with
  | [a, b, c, d, e, f], _ => exact ⟨a, b, c, d, e, f, rfl⟩
theorem list4' {α : Type} {l : List α} (h : l.length = 4) : ∃ a b c d, l = [a, b, c, d] := by
  match l, h with
  | [a, b, c, d], _ => exact ⟨a, b, c, d, rfl⟩
theorem open_table {fuel : Nat} {cs : List Value} {x : DataW H × List MemPlace} (h : DataW.trod enc Try.prog W 0 sp held fuel 85 cs = some x) : ∃ T : Tb, TbIn W W.heap.size (.agg cs.toArray) T ∧ TbW T := by
  obtain ⟨hl, hf⟩ := field_of Try.underlying85 h
  rw [cellsLT] at hl
  obtain ⟨v0, v1, v2, v3, v4, v5, rfl⟩ := list6 hl
  obtain ⟨n0, y0, h0⟩ := hf 0 _ rfl
  obtain ⟨n1, y1, h1⟩ := hf 1 _ rfl
  obtain ⟨n2, y2, h2⟩ := hf 2 _ rfl
  obtain ⟨n3, y3, h3⟩ := hf 3 _ rfl
  simp [cellsI', cellsLG', cellsL64] at h0 h1 h2 h3
  obtain ⟨d, b, p, e, w1, w2, w3⟩ := open_geo h0
  obtain ⟨i1, rfl, w4⟩ := open_int1 h1
  obtain ⟨L, hL, wL⟩ := open_ints1 h2
  obtain ⟨M, hM, wM⟩ := open_ints1 h3
  injection e with e0 e
  injection e with e1 e
  injection e with e2 e
  subst e0 e1 e2
  exact ⟨⟨d, b, p, i1, L, M⟩, ⟨v4, v5, rfl, hL, hM⟩, ⟨w1, w2, w3, w4⟩, wL, wM⟩
theorem cellsLF4 : Try.prog.cellsOf 93 = 4 := by kernel_rfl
theorem open_fault {fuel : Nat} {cs : List Value} {x : DataW H × List MemPlace} (h : DataW.trod enc Try.prog W 0 sp held fuel 93 cs = some x) :
    ∃ a b c d, cs = [.int .i64 a, .int .i64 b, .int .i64 c, .int .i64 d] ∧ WfI a ∧ WfI b ∧ WfI c ∧ WfI d := by
  obtain ⟨hl, hf⟩ := field_of Try.underlying93 h
  rw [cellsLF4] at hl
  obtain ⟨v0, v1, v2, v3, rfl⟩ := list4' hl
  obtain ⟨n0, y0, h0⟩ := hf 0 _ rfl
  obtain ⟨n1, y1, h1⟩ := hf 1 _ rfl
  obtain ⟨n2, y2, h2⟩ := hf 2 _ rfl
  obtain ⟨n3, y3, h3⟩ := hf 3 _ rfl
  simp [cellsI'] at h0 h1 h2 h3
  obtain ⟨i0, rfl, w0⟩ := open_int1 h0
  obtain ⟨i1, rfl, w1⟩ := open_int1 h1
  obtain ⟨i2, rfl, w2⟩ := open_int1 h2
  obtain ⟨i3, rfl, w3⟩ := open_int1 h3
  exact ⟨_, _, _, _, rfl, w0, w1, w2, w3⟩
end
end Go.Proofs.Ytainlanblpccjaa
/- A map of logical pages as plain data. No program in it. -/
namespace Go.Proofs.Ytainlanblpccjaa
open Go.RowKit
set_option linter.unusedVariables false
structure Pm where
  b : Int
  p : Int
  mp : List Int
  tr : List Bool
def Pm.zero : Pm := ⟨0, 0, [], []⟩
def Pm.at (M : Pm) (i : Nat) : Int := M.mp.getD i 0
def Pm.trim (M : Pm) (i : Nat) : Bool := M.tr.getD i false
def SizeOk (l b p : Int) : Prop := (1 ≤ l ∧ l ≤ 48) ∧ (1 ≤ b ∧ b ≤ 640) ∧ (1 ≤ p ∧ p ≤ 640) ∧ b * p ≤ 640
/-- Entry i: no record (then it is not trimmed), or a physical page that no earlier entry has. H: how many physical pages there are. -/
def EntOk (H : Int) (mp : List Int) (tr : List Bool) (i : Nat) : Prop :=
  (mp.getD i 0 = -1 ∧ tr.getD i false = false) ∨ ((0 ≤ mp.getD i 0 ∧ mp.getD i 0 < H) ∧ ¬ mp.getD i 0 ∈ mp.take i)
def PmOk (M : Pm) : Prop := SizeOk M.mp.length M.b M.p ∧ M.tr.length = M.mp.length ∧ ∀ i, i < M.mp.length → EntOk (M.b * M.p) M.mp M.tr i
/-- Entry i's record is data. -/
def Pm.has (M : Pm) (i : Nat) : Prop := M.at i ≠ -1 ∧ M.trim i = false
theorem SizeOk.le {l b p : Int} (h : SizeOk l b p) : 1 ≤ b * p := by
  obtain ⟨_, ⟨h1, _⟩, ⟨h3, _⟩, _⟩ := h
  have := Int.mul_le_mul h1 h3 (by omega) (by omega)
  omega
theorem mulBound {b p : Int} (h1 : 1 ≤ b) (h2 : b ≤ 640) (h3 : 1 ≤ p) (h4 : p ≤ 640) : 1 ≤ b * p ∧ b * p ≤ 409600 := by
  constructor
  · have := Int.mul_le_mul h1 h3 (by omega) (by omega); omega
  · have := Int.mul_le_mul h2 h4 (by omega) (by omega); omega
theorem mem_take_iff {l : List Int} {i : Nat} (hi : i ≤ l.length) {x : Int} : x ∈ l.take i ↔ ∃ k, k < i ∧ l.getD k 0 = x := by
  rw [mem_iff_getD]
  have e : ∀ k, k < i → (l.take i).getD k 0 = l.getD k 0 := fun k hk => by
    rw [List.getD_eq_getElem?_getD, List.getD_eq_getElem?_getD, List.getElem?_take, if_pos hk]
  have hl : (l.take i).length = i := by rw [List.length_take]; omega
  rw [hl]
  constructor
  · rintro ⟨k, h1, h2⟩; exact ⟨k, h1, by rw [← e k h1]; exact h2⟩
  · rintro ⟨k, h1, h2⟩; exact ⟨k, h1, by rw [e k h1]; exact h2⟩
end Go.Proofs.Ytainlanblpccjaa
