/- The proof's own lemmas, part 9: Boo. -/
import Derived.Test.YtainlanblpccjaaProg
import Derived.Test.YtainlanblpccjaaMg0
import Derived.Test.YtainlanblpccjaaMg6
import Derived.WalkKit
import Derived.ProofKit
import Derived.Lib.Hide
import Derived.Laws.MakeOwn
import Derived.BigQuiet
import Derived.Deep.QuietTactic
/- Slices of bool: those that come in and are read, those that the call itself makes; the laws' helpers over them. -/
namespace Go.Proofs.Ytainlanblpccjaa
open Go.RowKit
set_option linter.unusedVariables false
/-- The value v is a slice that reads as the bools l. -/
def BoolsIn (w : World) (v : Value) (l : List Bool) : Prop := ∃ A len cap, v = .slice A len cap ∧ l.length = len ∧ (0 < len → ∃ b off, A = some ⟨b, off, none⟩ ∧ b < w.heap.size ∧ ∀ i, i < len → w.cell? ⟨b, off + i, none⟩ = some (.bool (l.getD i false)))
theorem BoolsIn.below {w w' : World} {B : Nat} {v : Value} {l : List Bool} (h : BoolsIn w v l) (hb : Below B w w') (hB : w.heap.size ≤ B) : BoolsIn w' v l := by
  obtain ⟨A, len, cap, rfl, hl, hc⟩ := h
  refine ⟨A, len, cap, rfl, hl, fun h0 => ?_⟩
  obtain ⟨b, off, rfl, hbl, hx⟩ := hc h0
  exact ⟨b, off, rfl, by have := hb.size; omega, fun i hi => (hb.cell (p := ⟨b, off + i, none⟩) (Nat.lt_of_lt_of_le hbl hB)).trans (hx i hi)⟩
/-- The value v is a slice of the call's own (in a block from B on) that holds the bools l. -/
def BoolsOwn (w : World) (B : Nat) (v : Value) (l : List Bool) : Prop := w.ownsRow B 4 1 v l.length (l.map Value.bool)
theorem infoBo : (Try.prog.info? 4).map (fun i => (i.zero, i.size, i.bytes)) = some (some (.bool false), 1, 1) := by kernel_rfl
section
variable {w w' : World} {B : Nat} {v : Value} {l : List Bool}
theorem BoolsOwn.made (w : World) {B : Nat} (h : B ≤ w.heap.size) : BoolsOwn (w.alloc (.cells #[] 4)) B (.slice (some ⟨w.heap.size, 0, none⟩) 0 0) [] :=
  World.ownsRow_made w #[] 0 h (by unfold maxLen; omega) rfl
theorem BoolsOwn.later {B' : Nat} (h : BoolsOwn w B v l) (hb : Below B' w w') (hB : w.heap.size ≤ B') : BoolsOwn w' B v l := by
  refine ⟨h.1, ?_⟩
  rcases h.2 with h2 | ⟨g, cap, cur, h1, h2, h3, h4⟩
  · exact .inl h2
  · have hg : g < w.heap.size := by
      rcases Nat.lt_or_ge g w.heap.size with hlt | hge
      · exact hlt
      · rw [Array.getElem?_eq_none hge] at h3; cases h3
    exact .inr ⟨g, cap, cur, h1, h2, (hb.block g (by omega)).trans h3, h4⟩
theorem BoolsOwn.drew (h : BoolsOwn w B v l) : BoolsOwn w.drew B v l := h
theorem BoolsOwn.shape (h : BoolsOwn w B v l) : (v = .slice none 0 0 ∧ l = []) ∨ ∃ g cap, v = .slice (some ⟨g, 0, none⟩) l.length cap ∧ B ≤ g ∧ g < w.heap.size := by
  rcases h.2 with ⟨h1, h2⟩ | ⟨g, cap, cur, h1, h2, h3, _⟩
  · exact .inl ⟨h1, List.eq_nil_of_length_eq_zero h2⟩
  · refine .inr ⟨g, cap, h1, h2, ?_⟩
    rcases Nat.lt_or_ge g w.heap.size with hlt | hge
    · exact hlt
    · rw [Array.getElem?_eq_none hge] at h3; cases h3
theorem BoolsOwn.cell {g n cap : Nat} (h : BoolsOwn w B (.slice (some ⟨g, 0, none⟩) n cap) l) {j : Nat} (hn : l.length = n) (hj : j < n) : w.cell? ⟨g, j, none⟩ = some (.bool (l.getD j false)) := by
  unfold BoolsOwn at h
  rw [hn] at h
  rw [World.ownsRow.cellAt h j (by omega)]
  simp [show j < l.length by omega]
theorem BoolsOwn.free {g n cap : Nat} (h : BoolsOwn w B (.slice (some ⟨g, 0, none⟩) n cap) l) (hn : l.length = n) (j : Nat) : w.frozen? ⟨g, j, none⟩ = false := by
  unfold BoolsOwn at h
  rw [hn] at h
  exact World.ownsRow.frozenAt h j
theorem BoolsOwn.stored {g n cap : Nat} (h : BoolsOwn w B (.slice (some ⟨g, 0, none⟩) n cap) l) (hn : l.length = n) (j : Nat) (b : Bool) :
    BoolsOwn (w.setCell ⟨g, j, none⟩ (.bool b)) B (.slice (some ⟨g, 0, none⟩) n cap) (l.set j b) := by
  unfold BoolsOwn at h ⊢
  rw [hn] at h
  have := (World.ownsRow.stored h j (.bool b)).1
  rw [List.length_set, hn, List.map_set]
  exact this
theorem BoolsOwn.reads (h : BoolsOwn w B v l) : BoolsIn w v l := by
  rcases h.shape with ⟨rfl, rfl⟩ | ⟨g, cap, rfl, h1, h2⟩
  · exact ⟨none, 0, 0, rfl, rfl, fun h => by omega⟩
  · exact ⟨_, _, _, rfl, rfl, fun _ => ⟨g, 0, rfl, h2, fun i hi => by rw [Nat.zero_add]; exact h.cell rfl hi⟩⟩
/-- A write to another own row leaves it. -/
theorem BoolsOwn.kept {row : Option Nat} (h : BoolsOwn w B v l) (hg : w.grownBy w' row) (hne : v.ownBlock = none ∨ v.ownBlock ≠ row) : BoolsOwn w' B v l := World.ownsRow.kept h hg hne
end
theorem wpList_append_bool {Q : Exit → Act → World → Prop} {ops : Array Oper} {rest : List Oper} {o : Oper} {a : Act} {w0 wr : World} {B : Nat} (hgd : o.guard = none) (s x : Operand)
    (ho : o.op = .call { callee := .builtin .append, args := #[s, x], argTypes := #[23, 23] })
    (v : Value) (l : List Bool) (hs : a.eval s = v) (hown : BoolsOwn wr B v l) (hb : Below B w0 wr) (hB : B ≤ wr.heap.size)
    (b : Bool) (c : Nat) (hx : a.eval x = .slice (some ⟨wr.heap.size, 0, none⟩) 1 c) (hl : l.length + 1 ≤ 1000000)
    (h : ∀ v' w', BoolsOwn w' B v' (l ++ [b]) → Below B w0 w' → wpList Try.prog ops Q rest (a.put o.dst v') w') :
    wpList Try.prog ops Q (o :: rest) a (wr.alloc (.cells #[.bool b] 4)) := by
  obtain ⟨i0, hi, hz0, hz1, hz2⟩ := info_parts infoBo
  refine wpList_append_own _ hgd s x _ ho B 4 i0 (.bool false) 1 1 Try.underlying23 hi hz0 hz1 hz2 rfl (by decide) v l.length (l.map Value.bool) hs (World.ownsRow.alloc hown _) ⟨wr.heap.size, 0, none⟩ 1 c [.bool b] hx rfl ?_ ?_ (by unfold maxLen; omega) (by omega) (by simp; omega) ?_
  · intro j u hj
    match j, hj with
    | 0, hj => simp at hj; subst hj; simp [Addr.add]
  · intro u hu; simp at hu; subst hu; rfl
  · intro v' w' h1 h2 _
    refine h v' w' ?_ ?_
    · unfold BoolsOwn; simpa using h1
    · exact (hb.alloc hB _).grown h2 (by simp; omega) fun k hk => (World.ownsRow.lt hown k hk).1
theorem eqBools_any (u v : Value) (l : List Bool) (w : World) (hu : BoolsIn w u l) (hv : BoolsIn w v l) (hl : l.length ≤ 1048576) :
    Calls Try.prog 76 #[u, v] w fun e w' => e = .returned (.bool true) ∧ Below w.heap.size w w' := by
  obtain ⟨A, n, cap, rfl, hn, hA⟩ := hu
  obtain ⟨A', n', cap', rfl, hn', hA'⟩ := hv
  obtain rfl : n = n' := by omega
  have hnm : (n : Int) ≤ 1048576 := by omega
  rcases Nat.eq_zero_or_pos n with h0 | h0
  · subst h0
    clear hA hA' hn hn'
    go_enter Try.func76, Try.ntmps76
    go_wp2
    go_loop [5] (fun i => i = .int .i64 0) (fun _ => 0)
    case atStart => rfl
    case round =>
      obtain rfl := hrel
      go_wp2
      go_ret
      exact ⟨rfl, Below.refl _ _⟩
  · obtain ⟨b, off, rfl, hbl, hx⟩ := hA h0
    obtain ⟨b', off', rfl, hbl', hx'⟩ := hA' h0
    have HX := Lib.hid hx
    have HX' := Lib.hid hx'
    clear hA hA' hx hx' hn hn' h0
    go_enter Try.func76, Try.ntmps76
    go_wp2
    go_loopw [5] (fun i wr => ∃ k : Nat, k ≤ n ∧ i = .int .i64 k ∧ Below w.heap.size w wr) (fun i _ => n - (intOf i).toNat)
    case atStart => exact ⟨0, by omega, rfl, Below.refl _ _⟩
    case round =>
      obtain ⟨k, hk, rfl, hb⟩ := hrel
      by_cases hlt : k < n
      · have hki : (k : Int) < (n : Int) := by omega
        have c1 := (hb.cell (p := ⟨b, off + k, none⟩) hbl).trans (HX.out k hlt)
        have c2 := (hb.cell (p := ⟨b', off' + k, none⟩) hbl').trans (HX'.out k hlt)
        generalize l.getD k false = x at *
        have hxx : (x != x) = false := by simp
        go_wp2
        go_quiet (fail)
        go_wp2
        go_roundw
        case rel => exact ⟨k + 1, by omega, by go_num, ⟨hb.os, hb.tape, hb.output, hb.size, hb.block⟩⟩
        case measure => simp [intOf]; omega
      · obtain rfl : k = n := by omega
        go_wp2
        go_ret
        exact ⟨rfl, hb⟩
/-- The marks from k0 on. -/
def mkB (k0 n : Nat) : List Bool := (List.range n).map fun (i : Nat) => decide ((k0 + i) % 3 = 0)
theorem mkB_length (k n : Nat) : (mkB k n).length = n := by simp [mkB]
theorem mkB_at (k : Nat) {n i : Nat} (h : i < n) : (mkB k n).getD i false = decide ((k + i) % 3 = 0) := by simp [mkB, List.getD_eq_getElem?_getD, h]
theorem mkB_succ (k n : Nat) : mkB k (n + 1) = mkB k n ++ [decide ((k + n) % 3 = 0)] := by simp [mkB, List.range_succ]
theorem mkB_set (k : Nat) (l : List Bool) (i : Nat) (h : i < l.length) : (mkB k i ++ l.drop i).set i (decide ((k + i) % 3 = 0)) = mkB k (i + 1) ++ l.drop (i + 1) := by
  have e : l.drop i = l[i] :: l.drop (i + 1) := List.drop_eq_getElem_cons h
  rw [List.set_append_right _ _ (by rw [mkB_length]; omega), mkB_length, Nat.sub_self, e, List.set_cons_zero, mkB_succ, List.append_assoc]; rfl
theorem beqB (q : Nat) : ((q : Int) % 3 == 0) = decide (q % 3 = 0) := by
  rw [Bool.eq_iff_iff]; simp; omega
def MarkPostB (B : Nat) (v : Value) (k0 n : Nat) (w : World) (e : Ending) (w' : World) : Prop := e = .returned (.int .i64 ((k0 + n : Nat) : Int)) ∧ BoolsOwn w' B v (mkB k0 n) ∧ w.grownBy w' v.ownBlock ∧ Below B w w'
theorem markBools_any (B : Nat) (v : Value) (l : List Bool) (k0 : Nat) (w : World) (h : BoolsOwn w B v l) (hl : l.length ≤ 1048576) (hk0 : k0 ≤ 1048577) :
    Calls Try.prog 78 #[v, .int .i64 (k0 : Int)] w (MarkPostB B v k0 l.length w) := by
  rcases h.shape with ⟨rfl, rfl⟩ | ⟨g, cap, rfl, hg, hgl⟩
  · go_enter Try.func78, Try.ntmps78
    go_wp2
    go_loop [1, 5] (fun u i => u = .int .i64 (k0 : Int) ∧ i = .int .i64 0) (fun _ _ => 0)
    case atStart => exact ⟨rfl, rfl⟩
    case round =>
      obtain ⟨rfl, rfl⟩ := hrel
      go_wp2
      go_ret
      exact ⟨rfl, h, ⟨rfl, rfl, rfl, Nat.le_refl _, fun _ _ _ => rfl⟩, Below.refl _ _⟩
  · obtain ⟨n, hn⟩ : ∃ n, n = l.length := ⟨_, rfl⟩
    rw [← hn] at h hl ⊢
    have hnm : (n : Int) ≤ 1048576 := by omega
    have hk1 : (k0 : Int) ≤ 1048577 := by omega
    have H := Lib.hid h
    have HN := Lib.hid hn
    clear h hn
    go_enter Try.func78, Try.ntmps78
    go_wp2
    go_loopw [1, 5] (fun u i wr => ∃ k q : Nat, k ≤ n ∧ q = k0 + k ∧ i = .int .i64 k ∧ u = .int .i64 (q : Int) ∧ BoolsOwn wr B (.slice (some ⟨g, 0, none⟩) n cap) (mkB k0 k ++ l.drop k) ∧ w.grownBy wr (some g) ∧ Below B w wr) (fun _ i _ => n - (intOf i).toNat)
    case atStart => exact ⟨0, k0, by omega, rfl, rfl, rfl, H.out, ⟨rfl, rfl, rfl, Nat.le_refl _, fun _ _ _ => rfl⟩, Below.refl _ _⟩
    case round =>
      obtain ⟨k, q, hk, hq, rfl, rfl, hown, hgr, hb⟩ := hrel
      have hN := HN.out
      have hlen : (mkB k0 k ++ l.drop k).length = n := by simp [mkB_length]; omega
      by_cases hlt : k < n
      · have hki : (k : Int) < (n : Int) := by omega
        have hqi : (q : Int) ≤ 3000000 := by omega
        have hc := hown.cell (j := k) hlen hlt
        have hf := hown.free hlen k
        have hs := hown.stored hlen k (decide ((k0 + k) % 3 = 0))
        rw [mkB_set k0 l k (by omega), ← hq, ← beqB q] at hs
        have hgr2 : w.grownBy (wr.setCell ⟨g, k, none⟩ (.bool ((q : Int) % 3 == 0))) (some g) := ⟨hgr.os, hgr.tape, hgr.output, by simpa using hgr.size, fun j hj hne => (heap_setCell_other _ _ j _ (fun e => hne (by simp [e]))).trans (hgr.block j hj hne)⟩
        have hb2 := hb.setCell (p := ⟨g, k, none⟩) hg (.bool ((q : Int) % 3 == 0))
        have HQ := Lib.hid hq
        clear hown hgr hb hN hlen hq
        generalize (mkB k0 k ++ l.drop k).getD k false = old at *
        go_wp2
        go_roundw
        case rel => exact ⟨k + 1, q + 1, by omega, by have := HQ.out; omega, by go_num, by go_num, hs, hgr2, hb2⟩
        case measure => simp [intOf]; omega
      · obtain rfl : k = n := by omega
        rw [List.drop_eq_nil_of_le (by omega), List.append_nil] at hown
        subst hq
        clear hN hlen
        go_wp2
        go_ret
        exact ⟨rfl, hown, hgr, hb⟩
theorem heldBools_any (v : Value) (k0 n : Nat) (w : World) (h : BoolsIn w v (mkB k0 n)) (hl : n ≤ 1048576) (hk0 : k0 ≤ 1048577) :
    Calls Try.prog 88 #[v, .int .i64 (k0 : Int)] w fun e w' => e = .returned (.int .i64 ((k0 + n : Nat) : Int)) ∧ w = w' := by
  obtain ⟨A, n', cap, rfl, hn, hA⟩ := h
  rw [mkB_length] at hn
  subst hn
  have hnm : (n : Int) ≤ 1048576 := by omega
  have hk1 : (k0 : Int) ≤ 1048577 := by omega
  rcases Nat.eq_zero_or_pos n with h0 | h0
  · subst h0
    clear hA
    go_enter Try.func88, Try.ntmps88
    go_wp2
    go_loop [1, 5] (fun u i => u = .int .i64 (k0 : Int) ∧ i = .int .i64 0) (fun _ _ => 0)
    case atStart => exact ⟨rfl, rfl⟩
    case round =>
      obtain ⟨rfl, rfl⟩ := hrel
      go_wp2
      go_ret
      exact ⟨rfl, rfl⟩
  · obtain ⟨b, off, rfl, hbl, hx⟩ := hA h0
    have HX := Lib.hid hx
    clear hA hx h0
    go_enter Try.func88, Try.ntmps88
    go_wp2
    go_loop [1, 5] (fun u i => ∃ k q : Nat, k ≤ n ∧ q = k0 + k ∧ i = .int .i64 k ∧ u = .int .i64 (q : Int)) (fun _ i => n - (intOf i).toNat)
    case atStart => exact ⟨0, k0, by omega, rfl, rfl, rfl⟩
    case round =>
      obtain ⟨k, q, hk, hq, rfl, rfl⟩ := hrel
      by_cases hlt : k < n
      · have hki : (k : Int) < (n : Int) := by omega
        have hqi : (q : Int) ≤ 3000000 := by omega
        have hc := HX.out k hlt
        rw [mkB_at k0 hlt, ← hq, ← beqB q] at hc
        have HQ := Lib.hid hq
        clear hq
        generalize hz : ((q : Int) % 3 == 0) = z at *
        have hxx : (z != z) = false := by simp
        go_wp2
        go_round
        case rel => exact ⟨k + 1, q + 1, by omega, by have := HQ.out; omega, by go_num, by go_num⟩
        case measure => simp [intOf]; omega
      · obtain rfl : k = n := by omega
        subst hq
        go_wp2
        go_ret
        exact ⟨rfl, rfl⟩
/-- The value v is a slice that reads as the bools l, with its bounds. -/
def BoolsR (w : World) (v : Value) (l : List Bool) : Prop := ∃ A len cap, v = .slice A len cap ∧ len ≤ cap ∧ cap ≤ 9223372036854775807 ∧ l.length = len ∧ (0 < len → ∃ b off, A = some ⟨b, off, none⟩ ∧ b < w.heap.size ∧ ∀ i, i < len → w.cell? ⟨b, off + i, none⟩ = some (.bool (l.getD i false)))
theorem BoolsR.below {w w' : World} {B : Nat} {v : Value} {l : List Bool} (h : BoolsR w v l) (hb : Below B w w') (hB : w.heap.size ≤ B) : BoolsR w' v l := by
  obtain ⟨A, len, cap, rfl, h1, h2, hl, hc⟩ := h
  refine ⟨A, len, cap, rfl, h1, h2, hl, fun h0 => ?_⟩
  obtain ⟨b, off, rfl, hbl, hx⟩ := hc h0
  exact ⟨b, off, rfl, by have := hb.size; omega, fun i hi => (hb.cell (p := ⟨b, off + i, none⟩) (Nat.lt_of_lt_of_le hbl hB)).trans (hx i hi)⟩
theorem BoolsOwn.readsR {w : World} {B : Nat} {v : Value} {l : List Bool} (h : BoolsOwn w B v l) : BoolsR w v l := by
  rcases h.2 with ⟨rfl, h2⟩ | ⟨g, cap, cur, rfl, h2, h3, h4, h5, _⟩
  · exact ⟨none, 0, 0, rfl, Nat.le_refl _, by omega, h2, fun h => by omega⟩
  · refine ⟨_, _, _, rfl, h4, by unfold maxLen at h5; omega, rfl, fun _ => ⟨g, 0, rfl, ?_, fun i hi => by rw [Nat.zero_add]; exact h.cell rfl hi⟩⟩
    rcases Nat.lt_or_ge g w.heap.size with hlt | hge
    · exact hlt
    · rw [Array.getElem?_eq_none hge] at h3; cases h3
theorem wpList_make_bools {Q : Exit → Act → World → Prop} {ops : Array Oper} {rest : List Oper} {o : Oper} {a : Act} {w0 w : World} {B : Nat} (hgd : o.guard = none) (l c : Operand)
    (ho : o.op = Op.makeSlice 23 l c) (n : Nat) (hl : a.eval l = .int .i64 (n : Int)) (hc : a.eval c = .int .i64 (n : Int)) (hn : n ≤ 1048576)
    (hb : Below B w0 w) (hB : B ≤ w.heap.size)
    (h : ∀ w', BoolsOwn w' B (.slice (some ⟨w.heap.size, 0, none⟩) n n) (List.replicate n false) → Below B w0 w' → wpList Try.prog ops Q rest (a.put o.dst (.slice (some ⟨w.heap.size, 0, none⟩) n n)) w') :
    wpList Try.prog ops Q (o :: rest) a w := by
  obtain ⟨i0, hi, hz0, hz1, hz2⟩ := info_parts infoBo
  refine wpList_make_full w hgd l c _ ho B 4 i0 (.bool false) 1 Try.underlying23 hi hz0 hz1 .i64 .i64 (n : Int) (n : Int) n hl hc rfl rfl (by rw [hz2]; omega) (by unfold maxLen; omega) hB ?_
  intro w' h1 h2
  refine h w' ?_ (hb.grown h2 hB fun k hk => by simp at hk)
  have e : (madeCells (Value.bool false).cells (n * 1)).toList = (List.replicate n false).map Value.bool := by
    show (madeCells #[Value.bool false] (n * 1)).toList = _
    rw [toList_madeCells_one]; simp
  rw [e] at h1
  unfold BoolsOwn; simpa using h1
def CopyPostB (L : List Bool) (w : World) (e : Ending) (w' : World) : Prop := ∃ v, e = .returned v ∧ BoolsOwn w' w.heap.size v L ∧ Below w.heap.size w w'
theorem take_setB (L : List Bool) (k : Nat) (h : k < L.length) : (L.take k ++ List.replicate (L.length - k) false).set k (L.getD k false) = L.take (k + 1) ++ List.replicate (L.length - (k + 1)) false := by
  rw [List.set_append_right _ _ (by simp; omega), List.length_take, Nat.min_eq_left (by omega), Nat.sub_self, show L.length - k = (L.length - (k + 1)) + 1 by omega, List.replicate_succ, List.set_cons_zero, List.take_succ_eq_append_getElem h, List.append_assoc, List.getD_eq_getElem?_getD, List.getElem?_eq_getElem h]; rfl
theorem toBools_any (u : Value) (L : List Bool) (w : World) (hu : BoolsR w u L) (hl : L.length ≤ 1048576) :
    Calls Try.prog 72 #[u] w (CopyPostB L w) := by
  obtain ⟨A, n, cap, rfl, hlc, hcm, hn, hA⟩ := hu
  have hnm : (n : Int) ≤ 1048576 := by omega
  rcases Nat.eq_zero_or_pos n with h0 | h0
  · subst h0
    obtain rfl : L = [] := List.eq_nil_of_length_eq_zero hn
    clear hA hn hlc hcm
    go_enter Try.func72, Try.ntmps72
    go_wp2_with (refine wpList_make_bools rfl _ _ rfl 0 rfl rfl (by omega) (Below.refl w.heap.size w) (Nat.le_refl _) ?_; intro w1 hown hb)
    go_loop [4] (fun i => i = .int .i64 0) (fun _ => 0)
    case atStart => rfl
    case round =>
      obtain rfl := hrel
      go_wp2
      go_ret
      exact ⟨_, rfl, hown, hb⟩
  · obtain ⟨b, off, rfl, hbl, hx⟩ := hA h0
    have HX := Lib.hid hx
    have HN := Lib.hid hn
    clear hA hx hn hlc hcm
    go_enter Try.func72, Try.ntmps72
    go_wp2_with (refine wpList_make_bools rfl _ _ rfl n rfl rfl (by omega) (Below.refl w.heap.size w) (Nat.le_refl _) ?_; intro w1 hown hb)
    go_loopw [4] (fun i wr => ∃ k : Nat, k ≤ n ∧ i = .int .i64 k ∧ BoolsOwn wr w.heap.size (.slice (some ⟨w.heap.size, 0, none⟩) n n) (L.take k ++ List.replicate (n - k) false) ∧ Below w.heap.size w wr) (fun i _ => n - (intOf i).toNat)
    case atStart => exact ⟨0, by omega, rfl, by simpa using hown, hb⟩
    case round =>
      clear hown hb
      obtain ⟨k, hk, rfl, hown, hb⟩ := hrel
      have hN := HN.out
      have hlen : (L.take k ++ List.replicate (n - k) false).length = n := by simp; omega
      by_cases hlt : k < n
      · have hki : (k : Int) < (n : Int) := by omega
        have c1 := (hb.cell (p := ⟨b, off + k, none⟩) hbl).trans (HX.out k hlt)
        have c2 := hown.cell (j := k) hlen hlt
        have f2 := hown.free hlen k
        have hs := hown.stored hlen k (L.getD k false)
        have hse := take_setB L k (by omega)
        rw [hN] at hse
        rw [hse] at hs
        have hb2 := hb.setCell (p := ⟨w.heap.size, k, none⟩) (Nat.le_refl _) (.bool (L.getD k false))
        clear hown hb hN hlen hse
        generalize L.getD k false = x at *
        go_wp2
        go_roundw
        case rel => exact ⟨k + 1, by omega, by go_num, hs, hb2⟩
        case measure => simp [intOf]; omega
      · obtain rfl : k = n := by omega
        rw [Nat.sub_self, List.replicate_zero, List.append_nil, List.take_of_length_le (by omega)] at hown
        clear hN hlen
        go_wp2
        go_ret
        exact ⟨_, rfl, hown, hb⟩
/-- The value v is a slice, in the blocks below hi, that reads as the bools l. -/
def NB (w : World) (hi : Nat) (v : Value) (l : List Bool) : Prop :=
  ∃ A len cap, v = .slice A len cap ∧ len ≤ cap ∧ cap ≤ 9223372036854775807 ∧ l.length = len ∧ (0 < len → ∃ b off, A = some ⟨b, off, none⟩ ∧ b < hi ∧ ∀ i, i < len → w.cell? ⟨b, off + i, none⟩ = some (.bool (l.getD i false)))
/-- The value v is a slice of the call's own, in the blocks from lo up to hi. -/
def BW (w : World) (lo hi : Nat) (v : Value) (l : List Bool) : Prop := BoolsOwn w lo v l ∧ ∀ k, v.ownBlock = some k → k < hi
section
variable {w w' : World} {lo hi lo' hi' B : Nat} {v u : Value} {l : List Bool}
theorem NB.below (h : NB w hi v l) (hb : Below B w w') (hB : hi ≤ B) : NB w' hi v l := by
  obtain ⟨A, len, cap, rfl, h1, h2, hl, hc⟩ := h
  refine ⟨A, len, cap, rfl, h1, h2, hl, fun h0 => ?_⟩
  obtain ⟨b, off, rfl, hbl, hx⟩ := hc h0
  exact ⟨b, off, rfl, hbl, fun i hi => (hb.cell (p := ⟨b, off + i, none⟩) (Nat.lt_of_lt_of_le hbl hB)).trans (hx i hi)⟩
theorem NB.wide (h : NB w hi v l) (hh : hi ≤ hi') : NB w hi' v l := by
  obtain ⟨A, len, cap, rfl, h1, h2, hl, hc⟩ := h
  refine ⟨A, len, cap, rfl, h1, h2, hl, fun h0 => ?_⟩
  obtain ⟨b, off, rfl, hbl, hx⟩ := hc h0
  exact ⟨b, off, rfl, by omega, hx⟩
theorem NB.bools (h : NB w hi v l) (hh : hi ≤ w.heap.size) : BoolsIn w v l := by
  obtain ⟨A, len, cap, rfl, h1, h2, hl, hc⟩ := h
  refine ⟨A, len, cap, rfl, hl, fun h0 => ?_⟩
  obtain ⟨b, off, rfl, hbl, hx⟩ := hc h0
  exact ⟨b, off, rfl, by omega, hx⟩
theorem NB.boolsR (h : NB w hi v l) (hh : hi ≤ w.heap.size) : BoolsR w v l := by
  obtain ⟨A, len, cap, rfl, h1, h2, hl, hc⟩ := h
  refine ⟨A, len, cap, rfl, h1, h2, hl, fun h0 => ?_⟩
  obtain ⟨b, off, rfl, hbl, hx⟩ := hc h0
  exact ⟨b, off, rfl, by omega, hx⟩
theorem BoolsR.nb (h : BoolsR w v l) : NB w w.heap.size v l := by
  obtain ⟨A, len, cap, rfl, h1, h2, hl, hc⟩ := h
  exact ⟨A, len, cap, rfl, h1, h2, hl, hc⟩
theorem NB.slice (h : NB w hi v l) : ∃ A n c, v = .slice A n c := by obtain ⟨A, n, c, e, _⟩ := h; exact ⟨A, n, c, e⟩
theorem NB.nil (w : World) (hi : Nat) : NB w hi (.slice none 0 0) [] := ⟨none, 0, 0, rfl, by omega, by omega, rfl, fun h => by omega⟩
theorem BW.reads (h : BW w lo hi v l) : NB w hi v l := by
  obtain ⟨A, len, cap, rfl, h1, h2, hl, hc⟩ := h.1.readsR
  refine ⟨A, len, cap, rfl, h1, h2, hl, fun h0 => ?_⟩
  obtain ⟨b, off, rfl, hbl, hx⟩ := hc h0
  refine ⟨b, off, rfl, ?_, hx⟩
  rcases h.1.shape with ⟨e, _⟩ | ⟨g, cap', e, _⟩
  · cases e
  · injection e with e1 e2 e3
    injection e1 with e1
    injection e1 with e1 e4
    subst e1
    exact h.2 b rfl
theorem BoolsOwn.blockOf (h : BoolsOwn w lo v l) {k : Nat} (e : v.ownBlock = some k) : lo ≤ k ∧ k < w.heap.size := World.ownsRow.lt h k e
theorem BW.mk_ (h : BoolsOwn w lo v l) : BW w lo w.heap.size v l := ⟨h, fun k e => (h.blockOf e).2⟩
theorem BoolsOwn.sames (h : BoolsOwn w lo v l) (hs : ∀ k, v.ownBlock = some k → w'.heap[k]? = w.heap[k]?) : BoolsOwn w' lo v l := by
  refine ⟨h.1, ?_⟩
  rcases h.2 with h2 | ⟨g, cap, cur, h1, h2, h3, h4⟩
  · exact .inl h2
  · exact .inr ⟨g, cap, cur, h1, h2, (hs g (by rw [h1]; rfl)).trans h3, h4⟩
theorem BW.same (h : BW w lo hi v l) (hs : Same lo hi w w') : BW w' lo hi v l := ⟨h.1.sames fun k e => hs k (h.1.blockOf e).1 (h.2 k e), h.2⟩
theorem BW.below (h : BW w lo hi v l) (hb : Below B w w') (hB : hi ≤ B) : BW w' lo hi v l := h.same (sm hb lo hB)
theorem BoolsOwn.low {B' : Nat} (h : BoolsOwn w B v l) (hB : B' ≤ B) : BoolsOwn w B' v l := by
  refine ⟨h.1, ?_⟩
  rcases h.2 with h2 | ⟨g, cap, cur, h1, h2, h3, h4, h5⟩
  · exact .inl h2
  · exact .inr ⟨g, cap, cur, h1, by omega, h3, h4, h5⟩
theorem BW.wide (h : BW w lo hi v l) (hl : lo' ≤ lo) (hh : hi ≤ hi') : BW w lo' hi' v l := ⟨h.1.low hl, fun k e => by have := h.2 k e; omega⟩
theorem BW.nil (w : World) (lo hi : Nat) : BW w lo hi (.slice none 0 0) [] := ⟨World.ownsRow_nil w lo _ 1, fun k e => by cases e⟩
end
section
variable {w w' : World} {lo hi lo' hi' B : Nat} {v : Value}
theorem NB.same {l : List Bool} (h : NB w hi v l) (hs : Same 0 hi w w') : NB w' hi v l := by
  obtain ⟨A, len, cap, rfl, h1, h2, hl, hc⟩ := h
  refine ⟨A, len, cap, rfl, h1, h2, hl, fun h0 => ?_⟩
  obtain ⟨b, off, rfl, hbl, hx⟩ := hc h0
  exact ⟨b, off, rfl, hbl, fun i hi => (hs.cell (p := ⟨b, off + i, none⟩) (Nat.zero_le _) hbl).trans (hx i hi)⟩
end
theorem szBools_any (v : Value) (l : List Bool) (w : World) (hi : Nat) (m : Int) (h : NB w hi v l) (h0 : 0 ≤ m) (h1 : m ≤ 1048576) :
    Calls Try.prog 82 #[v, .int .i64 m] w fun e w' => ∃ x : Int, e = .returned (.int .i64 x) ∧ Left m l.length x ∧ w' = w := by
  obtain ⟨A, n, cap, rfl, hlc, hcm, hn, hA⟩ := h
  have hnm : (n : Int) ≤ 9223372036854775807 := by omega
  have HN := Lib.hid hn
  clear hA hn
  by_cases hbig : m < (n : Int)
  · go_enter Try.func82, Try.ntmps82
    go_wp2
    go_ret
    exact ⟨_, rfl, .inr ⟨by have := HN.out; omega, rfl⟩, rfl⟩
  · have hs : (n : Int) ≤ m := by omega
    go_enter Try.func82, Try.ntmps82
    go_wp2
    go_ret
    exact ⟨_, rfl, .inl ⟨by have := HN.out; omega, by have := HN.out; omega⟩, rfl⟩
end Go.Proofs.Ytainlanblpccjaa
