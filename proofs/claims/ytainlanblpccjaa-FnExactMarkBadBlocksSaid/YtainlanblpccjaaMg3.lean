/- The proof's own lemmas, part 4: Ints IntsR. -/
import Derived.Test.YtainlanblpccjaaProg
import Derived.Test.YtainlanblpccjaaMg0
import Derived.WalkKit
import Derived.ProofKit
import Derived.Lib.Hide
import Derived.BigQuiet
import Derived.Deep.QuietTactic
import Derived.Laws.MakeOwn
/- Slices of int64: those that come in and are read, those that the call itself makes; the laws' helpers toInt64S, eqInt64S, markInt64S, heldInt64S. -/
namespace Go.Proofs.Ytainlanblpccjaa
open Go.RowKit

/-- The value v is a slice that reads as the integers l. -/
def IntsIn (w : World) (v : Value) (l : List Int) : Prop := ∃ A len cap, v = .slice A len cap ∧ l.length = len ∧ (0 < len → ∃ b off, A = some ⟨b, off, none⟩ ∧ b < w.heap.size ∧ ∀ i, i < len → w.cell? ⟨b, off + i, none⟩ = some (.int .i64 (l.getD i 0)))
theorem IntsIn.below {w w' : World} {B : Nat} {v : Value} {l : List Int} (h : IntsIn w v l) (hb : Below B w w') (hB : w.heap.size ≤ B) : IntsIn w' v l := by
  obtain ⟨A, len, cap, rfl, hl, hc⟩ := h
  refine ⟨A, len, cap, rfl, hl, fun h0 => ?_⟩
  obtain ⟨b, off, rfl, hbl, hx⟩ := hc h0
  exact ⟨b, off, rfl, by have := hb.size; omega, fun i hi => (hb.cell (p := ⟨b, off + i, none⟩) (Nat.lt_of_lt_of_le hbl hB)).trans (hx i hi)⟩
/-- The value v is a slice of the call's own (in a block from B on) that holds the integers l. -/
def IntsOwn (w : World) (B : Nat) (v : Value) (l : List Int) : Prop := w.ownsRow B 2 1 v l.length (l.map (Value.int .i64))
theorem info64 : (Try.prog.info? 2).map (fun i => (i.zero, i.size, i.bytes)) = some (some (.int .i64 0), 1, 8) := by kernel_rfl
section
variable {w w' : World} {B : Nat} {v : Value} {l : List Int}
theorem IntsOwn.made (w : World) {B : Nat} (h : B ≤ w.heap.size) : IntsOwn (w.alloc (.cells #[] 2)) B (.slice (some ⟨w.heap.size, 0, none⟩) 0 0) [] :=
  World.ownsRow_made w #[] 0 h (by unfold maxLen; omega) rfl
theorem IntsOwn.later {B' : Nat} (h : IntsOwn w B v l) (hb : Below B' w w') (hB : w.heap.size ≤ B') : IntsOwn w' B v l := by
  refine ⟨h.1, ?_⟩
  rcases h.2 with h2 | ⟨g, cap, cur, h1, h2, h3, h4⟩
  · exact .inl h2
  · have hg : g < w.heap.size := by
      rcases Nat.lt_or_ge g w.heap.size with hlt | hge
      · exact hlt
      · rw [Array.getElem?_eq_none hge] at h3; cases h3
    exact .inr ⟨g, cap, cur, h1, h2, (hb.block g (by omega)).trans h3, h4⟩
theorem IntsOwn.drew (h : IntsOwn w B v l) : IntsOwn w.drew B v l := h
theorem IntsOwn.shape (h : IntsOwn w B v l) : (v = .slice none 0 0 ∧ l = []) ∨ ∃ g cap, v = .slice (some ⟨g, 0, none⟩) l.length cap ∧ B ≤ g ∧ g < w.heap.size := by
  rcases h.2 with ⟨h1, h2⟩ | ⟨g, cap, cur, h1, h2, h3, _⟩
  · exact .inl ⟨h1, List.eq_nil_of_length_eq_zero h2⟩
  · refine .inr ⟨g, cap, h1, h2, ?_⟩
    rcases Nat.lt_or_ge g w.heap.size with hlt | hge
    · exact hlt
    · rw [Array.getElem?_eq_none hge] at h3; cases h3
theorem IntsOwn.cell {g n cap : Nat} (h : IntsOwn w B (.slice (some ⟨g, 0, none⟩) n cap) l) {j : Nat} (hn : l.length = n) (hj : j < n) : w.cell? ⟨g, j, none⟩ = some (.int .i64 (l.getD j 0)) := by
  unfold IntsOwn at h
  rw [hn] at h
  rw [World.ownsRow.cellAt h j (by omega)]
  simp [show j < l.length by omega]
theorem IntsOwn.free {g n cap : Nat} (h : IntsOwn w B (.slice (some ⟨g, 0, none⟩) n cap) l) (hn : l.length = n) (j : Nat) : w.frozen? ⟨g, j, none⟩ = false := by
  unfold IntsOwn at h
  rw [hn] at h
  exact World.ownsRow.frozenAt h j
theorem IntsOwn.stored {g n cap : Nat} (h : IntsOwn w B (.slice (some ⟨g, 0, none⟩) n cap) l) (hn : l.length = n) (j : Nat) (b : Int) :
    IntsOwn (w.setCell ⟨g, j, none⟩ (.int .i64 b)) B (.slice (some ⟨g, 0, none⟩) n cap) (l.set j b) := by
  unfold IntsOwn at h ⊢
  rw [hn] at h
  have := (World.ownsRow.stored h j (.int .i64 b)).1
  rw [List.length_set, hn, List.map_set]
  exact this
theorem IntsOwn.reads (h : IntsOwn w B v l) : IntsIn w v l := by
  rcases h.shape with ⟨rfl, rfl⟩ | ⟨g, cap, rfl, h1, h2⟩
  · exact ⟨none, 0, 0, rfl, rfl, fun h => by omega⟩
  · exact ⟨_, _, _, rfl, rfl, fun _ => ⟨g, 0, rfl, h2, fun i hi => by rw [Nat.zero_add]; exact h.cell rfl hi⟩⟩
/-- A write to another own row leaves it. -/
theorem IntsOwn.kept {row : Option Nat} (h : IntsOwn w B v l) (hg : w.grownBy w' row) (hne : v.ownBlock = none ∨ v.ownBlock ≠ row) : IntsOwn w' B v l := World.ownsRow.kept h hg hne
end
theorem wpList_append_int {Q : Exit → Act → World → Prop} {ops : Array Oper} {rest : List Oper} {o : Oper} {a : Act} {w0 wr : World} {B : Nat} (hgd : o.guard = none) (s x : Operand)
    (ho : o.op = .call { callee := .builtin .append, args := #[s, x], argTypes := #[22, 22] })
    (v : Value) (l : List Int) (hs : a.eval s = v) (hown : IntsOwn wr B v l) (hb : Below B w0 wr) (hB : B ≤ wr.heap.size)
    (b : Int) (c : Nat) (hx : a.eval x = .slice (some ⟨wr.heap.size, 0, none⟩) 1 c) (hl : l.length + 1 ≤ 1000000)
    (h : ∀ v' w', IntsOwn w' B v' (l ++ [b]) → Below B w0 w' → wpList Try.prog ops Q rest (a.put o.dst v') w') :
    wpList Try.prog ops Q (o :: rest) a (wr.alloc (.cells #[.int .i64 b] 2)) := by
  obtain ⟨i0, hi, hz0, hz1, hz2⟩ := info_parts info64
  refine wpList_append_own _ hgd s x _ ho B 2 i0 (.int .i64 0) 1 8 Try.underlying22 hi hz0 hz1 hz2 rfl (by decide) v l.length (l.map (Value.int .i64)) hs (World.ownsRow.alloc hown _) ⟨wr.heap.size, 0, none⟩ 1 c [.int .i64 b] hx rfl ?_ ?_ (by unfold maxLen; omega) (by omega) (by simp; omega) ?_
  · intro j u hj
    match j, hj with
    | 0, hj => simp at hj; subst hj; simp [Addr.add]
  · intro u hu; simp at hu; subst hu; rfl
  · intro v' w' h1 h2 _
    refine h v' w' ?_ ?_
    · unfold IntsOwn; simpa using h1
    · exact (hb.alloc hB _).grown h2 (by simp; omega) fun k hk => (World.ownsRow.lt hown k hk).1
theorem eqInts_any (u v : Value) (l : List Int) (w : World) (hu : IntsIn w u l) (hv : IntsIn w v l) (hl : l.length ≤ 1048576) :
    Calls Try.prog 56 #[u, v] w fun e w' => e = .returned (.bool true) ∧ Below w.heap.size w w' := by
  obtain ⟨A, n, cap, rfl, hn, hA⟩ := hu
  obtain ⟨A', n', cap', rfl, hn', hA'⟩ := hv
  obtain rfl : n = n' := by omega
  have hnm : (n : Int) ≤ 1048576 := by omega
  rcases Nat.eq_zero_or_pos n with h0 | h0
  · subst h0
    clear hA hA' hn hn'
    go_enter Try.func56, Try.ntmps56
    go_wp2
    go_loop [5] (fun i => i = .int .i64 0) (fun _ => 0)
    case atStart => rfl
    case round =>
      obtain rfl := hrel
      go_wp2
      go_ret
      exact ⟨rfl, Below.refl _ _⟩
  · obtain ⟨b, off, rfl, hbl, hx⟩ := hA h0
    obtain ⟨b', off', rfl, hbl', hx'⟩ := hA' h0
    have HX := Lib.hid hx
    have HX' := Lib.hid hx'
    clear hA hA' hx hx' hn hn' h0
    go_enter Try.func56, Try.ntmps56
    go_wp2
    go_loopw [5] (fun i wr => ∃ k : Nat, k ≤ n ∧ i = .int .i64 k ∧ Below w.heap.size w wr) (fun i _ => n - (intOf i).toNat)
    case atStart => exact ⟨0, by omega, rfl, Below.refl _ _⟩
    case round =>
      obtain ⟨k, hk, rfl, hb⟩ := hrel
      by_cases hlt : k < n
      · have hki : (k : Int) < (n : Int) := by omega
        have c1 := (hb.cell (p := ⟨b, off + k, none⟩) hbl).trans (HX.out k hlt)
        have c2 := (hb.cell (p := ⟨b', off' + k, none⟩) hbl').trans (HX'.out k hlt)
        generalize l.getD k 0 = x at *
        have hxx : (x != x) = false := by simp
        go_wp2
        go_quiet (fail)
        go_wp2
        go_roundw
        case rel => exact ⟨k + 1, by omega, by go_num, ⟨hb.os, hb.tape, hb.output, hb.size, hb.block⟩⟩
        case measure => simp [intOf]; omega
      · obtain rfl : k = n := by omega
        go_wp2
        go_ret
        exact ⟨rfl, hb⟩
/-- The marks k, k + 1, .. -/
def mkL (k : Int) (n : Nat) : List Int := (List.range n).map fun (i : Nat) => k + (i : Int)
theorem mkL_length (k : Int) (n : Nat) : (mkL k n).length = n := by simp [mkL]
theorem mkL_at (k : Int) {n i : Nat} (h : i < n) : (mkL k n).getD i 0 = k + (i : Int) := by simp [mkL, List.getD_eq_getElem?_getD, h]
theorem mkL_succ (k : Int) (n : Nat) : mkL k (n + 1) = mkL k n ++ [k + (n : Int)] := by simp [mkL, List.range_succ]
theorem mkL_set (k : Int) (l : List Int) (i : Nat) (h : i < l.length) : (mkL k i ++ l.drop i).set i (k + (i : Int)) = mkL k (i + 1) ++ l.drop (i + 1) := by
  have e : l.drop i = l[i] :: l.drop (i + 1) := List.drop_eq_getElem_cons h
  rw [List.set_append_right _ _ (by rw [mkL_length]; omega), mkL_length, Nat.sub_self, e, List.set_cons_zero, mkL_succ, List.append_assoc]; rfl
def MarkPost (B : Nat) (v : Value) (n : Nat) (w : World) (e : Ending) (w' : World) : Prop := e = .returned (.int .i64 (1 + (n : Int))) ∧ IntsOwn w' B v (mkL 1 n) ∧ w.grownBy w' v.ownBlock ∧ Below B w w'
theorem markInts_any (B : Nat) (v : Value) (l : List Int) (w : World) (h : IntsOwn w B v l) (hl : l.length ≤ 1048576) :
    Calls Try.prog 57 #[v, .int .i64 1] w (MarkPost B v l.length w) := by
  rcases h.shape with ⟨rfl, rfl⟩ | ⟨g, cap, rfl, hg, hgl⟩
  · go_enter Try.func57, Try.ntmps57
    go_wp2
    go_loop [1, 5] (fun u i => u = .int .i64 1 ∧ i = .int .i64 0) (fun _ _ => 0)
    case atStart => exact ⟨rfl, rfl⟩
    case round =>
      obtain ⟨rfl, rfl⟩ := hrel
      go_wp2
      go_ret
      exact ⟨rfl, h, ⟨rfl, rfl, rfl, Nat.le_refl _, fun _ _ _ => rfl⟩, Below.refl _ _⟩
  · obtain ⟨n, hn⟩ : ∃ n, n = l.length := ⟨_, rfl⟩
    rw [← hn] at h hl ⊢
    have hnm : (n : Int) ≤ 1048576 := by omega
    have H := Lib.hid h
    have HN := Lib.hid hn
    clear h hn
    go_enter Try.func57, Try.ntmps57
    go_wp2
    go_loopw [1, 5] (fun u i wr => ∃ k : Nat, k ≤ n ∧ i = .int .i64 k ∧ u = .int .i64 (1 + (k : Int)) ∧ IntsOwn wr B (.slice (some ⟨g, 0, none⟩) n cap) (mkL 1 k ++ l.drop k) ∧ w.grownBy wr (some g) ∧ Below B w wr) (fun _ i _ => n - (intOf i).toNat)
    case atStart => exact ⟨0, by omega, rfl, rfl, H.out, ⟨rfl, rfl, rfl, Nat.le_refl _, fun _ _ _ => rfl⟩, Below.refl _ _⟩
    case round =>
      obtain ⟨k, hk, rfl, rfl, hown, hgr, hb⟩ := hrel
      have hN := HN.out
      have hlen : (mkL 1 k ++ l.drop k).length = n := by simp [mkL_length]; omega
      by_cases hlt : k < n
      · have hki : (k : Int) < (n : Int) := by omega
        have hc := hown.cell (j := k) hlen hlt
        have hf := hown.free hlen k
        have hs := hown.stored hlen k (1 + (k : Int))
        rw [mkL_set 1 l k (by omega)] at hs
        have hgr2 : w.grownBy (wr.setCell ⟨g, k, none⟩ (.int .i64 (1 + (k : Int)))) (some g) := ⟨hgr.os, hgr.tape, hgr.output, by simpa using hgr.size, fun j hj hne => (heap_setCell_other _ _ j _ (fun e => hne (by simp [e]))).trans (hgr.block j hj hne)⟩
        have hb2 := hb.setCell (p := ⟨g, k, none⟩) hg (.int .i64 (1 + (k : Int)))
        clear hown hgr hb hN hlen
        go_wp2
        go_roundw
        case rel => exact ⟨k + 1, by omega, by go_num, by go_num, hs, hgr2, hb2⟩
        case measure => simp [intOf]; omega
      · obtain rfl : k = n := by omega
        rw [List.drop_eq_nil_of_le (by omega), List.append_nil] at hown
        clear hN hlen
        go_wp2
        go_ret
        exact ⟨rfl, hown, hgr, hb⟩
theorem heldInts_any (v : Value) (n : Nat) (w : World) (h : IntsIn w v (mkL 1 n)) (hl : n ≤ 1048576) :
    Calls Try.prog 87 #[v, .int .i64 1] w fun e w' => e = .returned (.int .i64 (1 + (n : Int))) ∧ w = w' := by
  obtain ⟨A, n', cap, rfl, hn, hA⟩ := h
  rw [mkL_length] at hn
  subst hn
  have hnm : (n : Int) ≤ 1048576 := by omega
  rcases Nat.eq_zero_or_pos n with h0 | h0
  · subst h0
    clear hA
    go_enter Try.func87, Try.ntmps87
    go_wp2
    go_loop [1, 5] (fun u i => u = .int .i64 1 ∧ i = .int .i64 0) (fun _ _ => 0)
    case atStart => exact ⟨rfl, rfl⟩
    case round =>
      obtain ⟨rfl, rfl⟩ := hrel
      go_wp2
      go_ret
      exact ⟨rfl, rfl⟩
  · obtain ⟨b, off, rfl, hbl, hx⟩ := hA h0
    have HX := Lib.hid hx
    clear hA hx h0
    go_enter Try.func87, Try.ntmps87
    go_wp2
    go_loop [1, 5] (fun u i => ∃ k : Nat, k ≤ n ∧ i = .int .i64 k ∧ u = .int .i64 (1 + (k : Int))) (fun _ i => n - (intOf i).toNat)
    case atStart => exact ⟨0, by omega, rfl, rfl⟩
    case round =>
      obtain ⟨k, hk, rfl, rfl⟩ := hrel
      by_cases hlt : k < n
      · have hki : (k : Int) < (n : Int) := by omega
        have hc := HX.out k hlt
        rw [mkL_at 1 hlt] at hc
        have hxx : ((1 + (k : Int)) != (1 + (k : Int))) = false := by simp
        go_wp2
        go_round
        case rel => exact ⟨k + 1, by omega, by go_num, by go_num⟩
        case measure => simp [intOf]; omega
      · obtain rfl : k = n := by omega
        go_wp2
        go_ret
        exact ⟨rfl, rfl⟩
end Go.Proofs.Ytainlanblpccjaa
/- Slices of int64 with their bounds; the law's helper toInt64S. -/
namespace Go.Proofs.Ytainlanblpccjaa
open Go.RowKit

/-- The value v is a slice that reads as the integers l, with its bounds. -/
def IntsR (w : World) (v : Value) (l : List Int) : Prop := ∃ A len cap, v = .slice A len cap ∧ len ≤ cap ∧ cap ≤ 9223372036854775807 ∧ l.length = len ∧ (0 < len → ∃ b off, A = some ⟨b, off, none⟩ ∧ b < w.heap.size ∧ ∀ i, i < len → w.cell? ⟨b, off + i, none⟩ = some (.int .i64 (l.getD i 0)))
theorem IntsR.below {w w' : World} {B : Nat} {v : Value} {l : List Int} (h : IntsR w v l) (hb : Below B w w') (hB : w.heap.size ≤ B) : IntsR w' v l := by
  obtain ⟨A, len, cap, rfl, h1, h2, hl, hc⟩ := h
  refine ⟨A, len, cap, rfl, h1, h2, hl, fun h0 => ?_⟩
  obtain ⟨b, off, rfl, hbl, hx⟩ := hc h0
  exact ⟨b, off, rfl, by have := hb.size; omega, fun i hi => (hb.cell (p := ⟨b, off + i, none⟩) (Nat.lt_of_lt_of_le hbl hB)).trans (hx i hi)⟩
theorem IntsOwn.readsR {w : World} {B : Nat} {v : Value} {l : List Int} (h : IntsOwn w B v l) : IntsR w v l := by
  rcases h.2 with ⟨rfl, h2⟩ | ⟨g, cap, cur, rfl, h2, h3, h4, h5, _⟩
  · exact ⟨none, 0, 0, rfl, Nat.le_refl _, by omega, h2, fun h => by omega⟩
  · refine ⟨_, _, _, rfl, h4, by unfold maxLen at h5; omega, rfl, fun _ => ⟨g, 0, rfl, ?_, fun i hi => by rw [Nat.zero_add]; exact h.cell rfl hi⟩⟩
    rcases Nat.lt_or_ge g w.heap.size with hlt | hge
    · exact hlt
    · rw [Array.getElem?_eq_none hge] at h3; cases h3
theorem wpList_make_ints {Q : Exit → Act → World → Prop} {ops : Array Oper} {rest : List Oper} {o : Oper} {a : Act} {w0 w : World} {B : Nat} (hgd : o.guard = none) (l c : Operand)
    (ho : o.op = Op.makeSlice 22 l c) (n : Nat) (hl : a.eval l = .int .i64 (n : Int)) (hc : a.eval c = .int .i64 (n : Int)) (hn : n ≤ 1048576)
    (hb : Below B w0 w) (hB : B ≤ w.heap.size)
    (h : ∀ w', IntsOwn w' B (.slice (some ⟨w.heap.size, 0, none⟩) n n) (List.replicate n 0) → Below B w0 w' → wpList Try.prog ops Q rest (a.put o.dst (.slice (some ⟨w.heap.size, 0, none⟩) n n)) w') :
    wpList Try.prog ops Q (o :: rest) a w := by
  obtain ⟨i0, hi, hz0, hz1, hz2⟩ := info_parts info64
  refine wpList_make_full w hgd l c _ ho B 2 i0 (.int .i64 0) 1 Try.underlying22 hi hz0 hz1 .i64 .i64 (n : Int) (n : Int) n hl hc rfl rfl (by rw [hz2]; omega) (by unfold maxLen; omega) hB ?_
  intro w' h1 h2
  refine h w' ?_ (hb.grown h2 hB fun k hk => by simp at hk)
  have e : (madeCells (Value.int .i64 0).cells (n * 1)).toList = (List.replicate n (0 : Int)).map (Value.int .i64) := by
    show (madeCells #[Value.int .i64 0] (n * 1)).toList = _
    rw [toList_madeCells_one]; simp
  rw [e] at h1
  unfold IntsOwn; simpa using h1
def CopyPostI (L : List Int) (w : World) (e : Ending) (w' : World) : Prop := ∃ v, e = .returned v ∧ IntsOwn w' w.heap.size v L ∧ Below w.heap.size w w'
theorem take_setI (L : List Int) (k : Nat) (h : k < L.length) : (L.take k ++ List.replicate (L.length - k) 0).set k (L.getD k 0) = L.take (k + 1) ++ List.replicate (L.length - (k + 1)) 0 := by
  rw [List.set_append_right _ _ (by simp; omega), List.length_take, Nat.min_eq_left (by omega), Nat.sub_self, show L.length - k = (L.length - (k + 1)) + 1 by omega, List.replicate_succ, List.set_cons_zero, List.take_succ_eq_append_getElem h, List.append_assoc, List.getD_eq_getElem?_getD, List.getElem?_eq_getElem h]; rfl
theorem toInts_any (u : Value) (L : List Int) (w : World) (hu : IntsR w u L) (hl : L.length ≤ 1048576) :
    Calls Try.prog 53 #[u] w (CopyPostI L w) := by
  obtain ⟨A, n, cap, rfl, hlc, hcm, hn, hA⟩ := hu
  have hnm : (n : Int) ≤ 1048576 := by omega
  rcases Nat.eq_zero_or_pos n with h0 | h0
  · subst h0
    obtain rfl : L = [] := List.eq_nil_of_length_eq_zero hn
    clear hA hn hlc hcm
    go_enter Try.func53, Try.ntmps53
    go_wp2_with (refine wpList_make_ints rfl _ _ rfl 0 rfl rfl (by omega) (Below.refl w.heap.size w) (Nat.le_refl _) ?_; intro w1 hown hb)
    go_loop [4] (fun i => i = .int .i64 0) (fun _ => 0)
    case atStart => rfl
    case round =>
      obtain rfl := hrel
      go_wp2
      go_ret
      exact ⟨_, rfl, hown, hb⟩
  · obtain ⟨b, off, rfl, hbl, hx⟩ := hA h0
    have HX := Lib.hid hx
    have HN := Lib.hid hn
    clear hA hx hn hlc hcm
    go_enter Try.func53, Try.ntmps53
    go_wp2_with (refine wpList_make_ints rfl _ _ rfl n rfl rfl (by omega) (Below.refl w.heap.size w) (Nat.le_refl _) ?_; intro w1 hown hb)
    go_loopw [4] (fun i wr => ∃ k : Nat, k ≤ n ∧ i = .int .i64 k ∧ IntsOwn wr w.heap.size (.slice (some ⟨w.heap.size, 0, none⟩) n n) (L.take k ++ List.replicate (n - k) 0) ∧ Below w.heap.size w wr) (fun i _ => n - (intOf i).toNat)
    case atStart => exact ⟨0, by omega, rfl, by simpa using hown, hb⟩
    case round =>
      clear hown hb
      obtain ⟨k, hk, rfl, hown, hb⟩ := hrel
      have hN := HN.out
      have hlen : (L.take k ++ List.replicate (n - k) 0).length = n := by simp; omega
      by_cases hlt : k < n
      · have hki : (k : Int) < (n : Int) := by omega
        have c1 := (hb.cell (p := ⟨b, off + k, none⟩) hbl).trans (HX.out k hlt)
        have c2 := hown.cell (j := k) hlen hlt
        have f2 := hown.free hlen k
        have hs := hown.stored hlen k (L.getD k 0)
        have hse := take_setI L k (by omega)
        rw [hN] at hse
        rw [hse] at hs
        have hb2 := hb.setCell (p := ⟨w.heap.size, k, none⟩) (Nat.le_refl _) (.int .i64 (L.getD k 0))
        clear hown hb hN hlen hse
        generalize L.getD k 0 = x at *
        go_wp2
        go_roundw
        case rel => exact ⟨k + 1, by omega, by go_num, hs, hb2⟩
        case measure => simp [intOf]; omega
      · obtain rfl : k = n := by omega
        rw [Nat.sub_self, List.replicate_zero, List.append_nil, List.take_of_length_le (by omega)] at hown
        clear hN hlen
        go_wp2
        go_ret
        exact ⟨_, rfl, hown, hb⟩
end Go.Proofs.Ytainlanblpccjaa
