/- Lists of found pages in memory, and what the laws' helpers for them do. -/
import Derived.Test.YtfnccbanmgfkeaaProg
import Derived.Test.YtfnccbanmgfkeaaFdN
import Derived.Test.YtfnccbanmgfkeaaTbM
import Derived.Test.YtfnccbanmgfkeaaMtN
import Derived.StillTailTactics
namespace Go.Proofs.Ytfnccbanmgfkeaa
open Go.RowKit
set_option linter.unusedVariables false
set_option linter.unusedSimpArgs false
/-- The value v is a slice of n found pages, in the blocks below hi, whose fields are the integers l. -/
def SI (w : World) (hi : Nat) (v : Value) (n : Nat) (l : List Int) : Prop :=
  ∃ A cap, v = .slice A n cap ∧ n ≤ cap ∧ cap ≤ 9223372036854775807 ∧ l.length = n * 6 ∧ (0 < n → ∃ b off, A = some ⟨b, off, none⟩ ∧ b < hi ∧ ∀ i, i < n * 6 → w.cell? ⟨b, off + i, none⟩ = some (.int .i64 (l.getD i 0)))
/-- .. of the call's own. -/
def SOwn (w : World) (B : Nat) (v : Value) (n : Nat) (l : List Int) : Prop := w.ownsRow B 89 6 v n (l.map (Value.int .i64)) ∧ l.length = n * 6
def SO (w : World) (lo hi : Nat) (v : Value) (n : Nat) (l : List Int) : Prop := SOwn w lo v n l ∧ ∀ k, v.ownBlock = some k → k < hi
theorem infoFd : (Try.prog.info? 89).map (fun i => (i.zero, i.size, i.bytes)) = some (some (.agg #[.int .i64 0, .int .i64 0, .int .i64 0, .int .i64 0, .int .i64 0, .int .i64 0]), 6, 48) := by kernel_rfl
theorem infoFd6 : (Try.prog.info? 89).map (·.size) = some 6 := by kernel_rfl
section
variable {w w' : World} {lo hi lo' hi' B n : Nat} {v : Value} {l : List Int}
theorem SI.below (h : SI w hi v n l) (hb : Below B w w') (hB : hi ≤ B) : SI w' hi v n l := by
  obtain ⟨A, cap, rfl, h1, h2, hl, hc⟩ := h
  refine ⟨A, cap, rfl, h1, h2, hl, fun h0 => ?_⟩
  obtain ⟨b, off, rfl, hbl, hx⟩ := hc h0
  exact ⟨b, off, rfl, hbl, fun i hi => (hb.cell (p := ⟨b, off + i, none⟩) (Nat.lt_of_lt_of_le hbl hB)).trans (hx i hi)⟩
theorem SI.wide (h : SI w hi v n l) (hh : hi ≤ hi') : SI w hi' v n l := by
  obtain ⟨A, cap, rfl, h1, h2, hl, hc⟩ := h
  refine ⟨A, cap, rfl, h1, h2, hl, fun h0 => ?_⟩
  obtain ⟨b, off, rfl, hbl, hx⟩ := hc h0
  exact ⟨b, off, rfl, by omega, hx⟩
theorem SI.len (h : SI w hi v n l) : l.length = n * 6 ∧ n ≤ 9223372036854775807 := by obtain ⟨A, cap, rfl, h1, h2, hl, hc⟩ := h; exact ⟨hl, by omega⟩
theorem SOwn.blockOf (h : SOwn w lo v n l) {k : Nat} (e : v.ownBlock = some k) : lo ≤ k ∧ k < w.heap.size := World.ownsRow.lt h.1 k e
theorem SOwn.shape (h : SOwn w B v n l) : (v = .slice none 0 0 ∧ n = 0) ∨ ∃ g cap, v = .slice (some ⟨g, 0, none⟩) n cap ∧ n ≤ cap ∧ cap ≤ 9223372036854775807 ∧ B ≤ g ∧ g < w.heap.size := by
  rcases h.1.2 with ⟨h1, h2⟩ | ⟨g, cap, cur, h1, h2, h3, h4, h5, _⟩
  · exact .inl ⟨h1, h2⟩
  · have hlt := World.ownsRow.lt h.1 g (by rw [h1]; rfl)
    exact .inr ⟨g, cap, h1, by omega, by unfold maxLen at h5; omega, hlt.1, hlt.2⟩
theorem SOwn.cell {g cap : Nat} (h : SOwn w B (.slice (some ⟨g, 0, none⟩) n cap) n l) {j : Nat} (hj : j < n * 6) : w.cell? ⟨g, j, none⟩ = some (.int .i64 (l.getD j 0)) := by
  rw [World.ownsRow.cellAt h.1 j hj]
  have := h.2
  simp [show j < l.length by omega]
theorem SOwn.free {g cap : Nat} (h : SOwn w B (.slice (some ⟨g, 0, none⟩) n cap) n l) (j : Nat) : w.frozen? ⟨g, j, none⟩ = false := World.ownsRow.frozenAt h.1 j
theorem SOwn.stored {g cap : Nat} (h : SOwn w B (.slice (some ⟨g, 0, none⟩) n cap) n l) (j : Nat) (b : Int) : SOwn (w.setCell ⟨g, j, none⟩ (.int .i64 b)) B (.slice (some ⟨g, 0, none⟩) n cap) n (l.set j b) := by
  refine ⟨?_, by rw [List.length_set]; exact h.2⟩
  have := (World.ownsRow.stored h.1 j (.int .i64 b)).1
  rw [List.map_set]
  exact this
theorem SOwn.sames (h : SOwn w lo v n l) (hs : ∀ k, v.ownBlock = some k → w'.heap[k]? = w.heap[k]?) : SOwn w' lo v n l := by
  refine ⟨⟨h.1.1, ?_⟩, h.2⟩
  rcases h.1.2 with h2 | ⟨g, cap, cur, h1, h2, h3, h4⟩
  · exact .inl h2
  · exact .inr ⟨g, cap, cur, h1, h2, (hs g (by rw [h1]; rfl)).trans h3, h4⟩
theorem SOwn.later (h : SOwn w B v n l) {B' : Nat} (hb : Below B' w w') (hB : w.heap.size ≤ B') : SOwn w' B v n l := h.sames fun k e => hb.block k (by have := (h.blockOf e).2; omega)
theorem SOwn.reads (h : SOwn w lo v n l) : SI w w.heap.size v n l := by
  have h2 := h.2
  rcases h.shape with ⟨rfl, rfl⟩ | ⟨g, cap, rfl, h3, h4, h5, h6⟩
  · exact ⟨none, 0, rfl, by omega, by omega, h2, fun h => by omega⟩
  · exact ⟨_, cap, rfl, h3, h4, h2, fun _ => ⟨g, 0, rfl, h6, fun i hi => by rw [Nat.zero_add]; exact h.cell hi⟩⟩
theorem SO.mk_ (h : SOwn w lo v n l) : SO w lo w.heap.size v n l := ⟨h, fun k e => (h.blockOf e).2⟩
theorem SO.same (h : SO w lo hi v n l) (hs : Same lo hi w w') : SO w' lo hi v n l := ⟨h.1.sames fun k e => hs k (h.1.blockOf e).1 (h.2 k e), h.2⟩
theorem SO.below (h : SO w lo hi v n l) (hb : Below B w w') (hB : hi ≤ B) : SO w' lo hi v n l := h.same (sm hb lo hB)
theorem SO.reads (h : SO w lo hi v n l) : SI w hi v n l := by
  obtain ⟨A, cap, rfl, h1, h2, hl, hc⟩ := h.1.reads
  refine ⟨A, cap, rfl, h1, h2, hl, fun h0 => ?_⟩
  obtain ⟨b, off, rfl, hbl, hx⟩ := hc h0
  refine ⟨b, off, rfl, ?_, hx⟩
  rcases h.1.shape with ⟨e, _⟩ | ⟨g, cap', e, _⟩
  · cases e
  · injection e with e1 e2 e3
    injection e1 with e1
    injection e1 with e1 e4
    subst e1
    exact h.2 b rfl
theorem SOwn.nil (w : World) (B : Nat) : SOwn w B (.slice none 0 0) 0 [] := ⟨World.ownsRow_nil w B _ 6, rfl⟩
theorem SOwn.made (w : World) {B : Nat} (h : B ≤ w.heap.size) : SOwn (w.alloc (.cells #[] 89)) B (.slice (some ⟨w.heap.size, 0, none⟩) 0 0) 0 [] :=
  ⟨World.ownsRow_made w #[] 0 h (by unfold maxLen; omega) rfl, rfl⟩
theorem SOwn.sliceOf (h : SOwn w B v n l) : ∃ A c, v = .slice A n c := by
  rcases h.shape with ⟨rfl, rfl⟩ | ⟨g, cap, rfl, _⟩ <;> exact ⟨_, _, rfl⟩
theorem SOwn.low {B' : Nat} (h : SOwn w B v n l) (hB : B' ≤ B) : SOwn w B' v n l := by
  refine ⟨⟨h.1.1, ?_⟩, h.2⟩
  rcases h.1.2 with h2 | ⟨g, cap, cur, h1, h2, h3, h4, h5⟩
  · exact .inl h2
  · exact .inr ⟨g, cap, cur, h1, by omega, h3, h4, h5⟩
end
theorem wpList_make_founds {Q : Exit → Act → World → Prop} {ops : Array Oper} {rest : List Oper} {o : Oper} {a : Act} {w0 w : World} {B : Nat} (hgd : o.guard = none) (l c : Operand)
    (ho : o.op = Op.makeSlice 61 l c) (n : Nat) (hl : a.eval l = .int .i64 (n : Int)) (hc : a.eval c = .int .i64 (n : Int)) (hn : n ≤ 1048576)
    (hb : Below B w0 w) (hB : B ≤ w.heap.size)
    (h : ∀ w', SOwn w' B (.slice (some ⟨w.heap.size, 0, none⟩) n n) n (List.replicate (n * 6) 0) → Below B w0 w' → wpList Try.prog ops Q rest (a.put o.dst (.slice (some ⟨w.heap.size, 0, none⟩) n n)) w') :
    wpList Try.prog ops Q (o :: rest) a w := by
  obtain ⟨i0, hi, hz0, hz1, hz2⟩ := info_parts infoFd
  refine wpList_make_full w hgd l c _ ho B 89 i0 (.agg #[.int .i64 0, .int .i64 0, .int .i64 0, .int .i64 0, .int .i64 0, .int .i64 0]) 6 Try.underlying61 hi hz0 hz1 .i64 .i64 (n : Int) (n : Int) n hl hc rfl rfl (by rw [hz2]; omega) (by unfold maxLen; omega) hB ?_
  intro w' h1 h2
  refine h w' ⟨?_, by simp⟩ (hb.grown h2 hB fun k hk => by simp at hk)
  have e : (madeCells (Value.agg #[.int .i64 0, .int .i64 0, .int .i64 0, .int .i64 0, .int .i64 0, .int .i64 0]).cells (n * 6)).toList = (List.replicate (n * 6) (0 : Int)).map (Value.int .i64) := by
    apply List.ext_getElem
    · simp [madeCells]
    · intro i h1 h2
      have hm : i % 6 < 6 := Nat.mod_lt _ (by omega)
      obtain h0 | h0 | h0 | h0 | h0 | h0 : i % 6 = 0 ∨ i % 6 = 1 ∨ i % 6 = 2 ∨ i % 6 = 3 ∨ i % 6 = 4 ∨ i % 6 = 5 := by omega
      all_goals simp [madeCells, Value.cells, h0]
  rw [e] at h1
  exact h1
theorem eqFound_any (a b c d e f : Int) (w : World) : Calls Try.prog 88 #[.agg #[.int .i64 a, .int .i64 b, .int .i64 c, .int .i64 d, .int .i64 e, .int .i64 f], .agg #[.int .i64 a, .int .i64 b, .int .i64 c, .int .i64 d, .int .i64 e, .int .i64 f]] w fun x w' => x = .returned (.bool true) ∧ Below w.heap.size w w' := by
  have n1 : (a != a) = false := by simp
  obtain ⟨r0, r1, b0⟩ := Rw.two_new w 89 89 #[.int .i64 a, .int .i64 b, .int .i64 c, .int .i64 d, .int .i64 e, .int .i64 f] #[.int .i64 a, .int .i64 b, .int .i64 c, .int .i64 d, .int .i64 e, .int .i64 f]
  have HB := Lib.hid b0
  have HE := Lib.hid (fun (W : World) => eqMeta_any b c d e f W)
  obtain ⟨c0, c1, c2, c3, c4, c5⟩ := r0.six
  obtain ⟨d0, d1, d2, d3, d4, d5⟩ := r1.six
  clear b0 r0 r1
  go_enter Try.func88, Try.ntmps88
  go_wp2_with fail
  refine (HE.out _).mono ?_
  rintro x w1 ⟨rfl, b1⟩
  have B1 := Lib.hid (HB.out.trans (b1.mono (by simp; omega)))
  clear b1
  go_wp2
  go_ret
  exact ⟨rfl, B1.out⟩
set_option maxRecDepth 100000 in
theorem eqFounds_any (u v : Value) (n : Nat) (l : List Int) (w : World) (hi hi' : Nat) (hu : SI w hi u n l) (hv : SI w hi' v n l) (h1 : hi ≤ w.heap.size) (h2 : hi' ≤ w.heap.size) (hl : n ≤ 1048576) :
    Calls Try.prog 51 #[u, v] w fun e w' => e = .returned (.bool true) ∧ Below w.heap.size w w' := by
  obtain ⟨A, cap, rfl, _, _, hn, hA⟩ := hu
  obtain ⟨A', cap', rfl, _, _, hn', hA'⟩ := hv
  have hnm : (n : Int) ≤ 1048576 := by omega
  rcases Nat.eq_zero_or_pos n with h0 | h0
  · subst h0
    clear hA hA' hn hn'
    go_enter Try.func51, Try.ntmps51
    go_wp2
    go_loopw [5] (fun i wr => i = .int .i64 0 ∧ wr = w) (fun _ _ => 0)
    case atStart => exact ⟨rfl, rfl⟩
    case round =>
      obtain ⟨rfl, rfl⟩ := hrel
      go_wp2
      go_ret
      exact ⟨rfl, Below.refl _ _⟩
  · obtain ⟨g, off, rfl, hg, hx⟩ := hA h0
    obtain ⟨g', off', rfl, hg', hx'⟩ := hA' h0
    have HX := Lib.hid hx
    have HX' := Lib.hid hx'
    clear hA hA' hx hx' hn hn'
    go_enter Try.func51, Try.ntmps51
    go_wp2
    go_loopw [5] (fun i wr => ∃ k : Nat, k ≤ n ∧ i = .int .i64 k ∧ Below w.heap.size w wr) (fun i _ => n - (intOf i).toNat)
    case atStart => exact ⟨0, by omega, rfl, Below.refl _ _⟩
    case round =>
      obtain ⟨k, hk, rfl, hb⟩ := hrel
      by_cases hlt : k < n
      · have hki : (k : Int) < (n : Int) := by omega
        have q0 := (hb.cell (p := ⟨g, off + k * 6, none⟩) (by simp; omega)).trans (HX.out (k * 6) (by omega))
        have q1 := (hb.cell (p := ⟨g, off + k * 6 + 1, none⟩) (by simp; omega)).trans (HX.out (k * 6 + 1) (by omega))
        have q2 := (hb.cell (p := ⟨g, off + k * 6 + 2, none⟩) (by simp; omega)).trans (HX.out (k * 6 + 2) (by omega))
        have q3 := (hb.cell (p := ⟨g, off + k * 6 + 3, none⟩) (by simp; omega)).trans (HX.out (k * 6 + 3) (by omega))
        have q4 := (hb.cell (p := ⟨g, off + k * 6 + 4, none⟩) (by simp; omega)).trans (HX.out (k * 6 + 4) (by omega))
        have q5 := (hb.cell (p := ⟨g, off + k * 6 + 5, none⟩) (by simp; omega)).trans (HX.out (k * 6 + 5) (by omega))
        have t0 := (hb.cell (p := ⟨g', off' + k * 6, none⟩) (by simp; omega)).trans (HX'.out (k * 6) (by omega))
        have t1 := (hb.cell (p := ⟨g', off' + k * 6 + 1, none⟩) (by simp; omega)).trans (HX'.out (k * 6 + 1) (by omega))
        have t2 := (hb.cell (p := ⟨g', off' + k * 6 + 2, none⟩) (by simp; omega)).trans (HX'.out (k * 6 + 2) (by omega))
        have t3 := (hb.cell (p := ⟨g', off' + k * 6 + 3, none⟩) (by simp; omega)).trans (HX'.out (k * 6 + 3) (by omega))
        have t4 := (hb.cell (p := ⟨g', off' + k * 6 + 4, none⟩) (by simp; omega)).trans (HX'.out (k * 6 + 4) (by omega))
        have t5 := (hb.cell (p := ⟨g', off' + k * 6 + 5, none⟩) (by simp; omega)).trans (HX'.out (k * 6 + 5) (by omega))
        have hsz := hb.size
        generalize l.getD (k * 6) 0 = x0 at *
        generalize l.getD (k * 6 + 1) 0 = x1 at *
        generalize l.getD (k * 6 + 2) 0 = x2 at *
        generalize l.getD (k * 6 + 3) 0 = x3 at *
        generalize l.getD (k * 6 + 4) 0 = x4 at *
        generalize l.getD (k * 6 + 5) 0 = x5 at *
        have HB := Lib.hid hb
        clear hb
        go_wp2_with fail
        go_still_tail 8, (by kernel_rfl)
        change wpList _ _ _ _ _ wr.drew
        go_wp2_with fail
        refine (eqFound_any x0 x1 x2 x3 x4 x5 _).mono ?_
        rintro e w1 ⟨rfl, hb1⟩
        have HB1 := Lib.hid (HB.out.drew.trans (hb1.mono (by simpa using hsz)))
        clear hb1 HB
        go_wp2
        go_roundw
        case rel => exact ⟨k + 1, by omega, by go_num, HB1.out⟩
        case measure => simp [intOf]; omega
      · obtain rfl : k = n := by omega
        go_wp2
        go_ret
        exact ⟨rfl, hb⟩
theorem szFounds_any (v : Value) (n : Nat) (l : List Int) (w : World) (hi : Nat) (h : SI w hi v n l) :
    Calls Try.prog 47 #[v, .int .i64 1048576] w fun e w' => ∃ x : Int, e = .returned (.int .i64 x) ∧ Left 1048576 n x ∧ w' = w := by
  obtain ⟨A, cap, rfl, hlc, hcm, hn, hA⟩ := h
  have hnm : (n : Int) ≤ 9223372036854775807 := by omega
  clear hA hn
  by_cases hbig : (1048576 : Int) < (n : Int)
  · go_enter Try.func47, Try.ntmps47
    go_wp2
    go_ret
    exact ⟨_, rfl, .inr ⟨by omega, rfl⟩, rfl⟩
  · have hs : (n : Int) ≤ 1048576 := by omega
    go_enter Try.func47, Try.ntmps47
    go_wp2
    go_ret
    exact ⟨_, rfl, .inl ⟨by omega, by omega⟩, rfl⟩
theorem take_set6 (L : List Int) (n k : Nat) (hL : L.length = n * 6) (h : k < n) :
    (((((((L.take (k * 6) ++ List.replicate (n * 6 - k * 6) 0).set (k * 6) (L.getD (k * 6) 0)).set (k * 6 + 1) (L.getD (k * 6 + 1) 0)).set (k * 6 + 2) (L.getD (k * 6 + 2) 0)).set (k * 6 + 3) (L.getD (k * 6 + 3) 0)).set (k * 6 + 4) (L.getD (k * 6 + 4) 0)).set (k * 6 + 5) (L.getD (k * 6 + 5) 0)) = L.take ((k + 1) * 6) ++ List.replicate (n * 6 - (k + 1) * 6) 0 := by
  have s := fun j (hj : j < L.length) => take_setI L j hj
  rw [hL] at s
  have e0 := s (k * 6) (by omega)
  have e1 := s (k * 6 + 1) (by omega)
  have e2 := s (k * 6 + 2) (by omega)
  have e3 := s (k * 6 + 3) (by omega)
  have e4 := s (k * 6 + 4) (by omega)
  have e5 := s (k * 6 + 5) (by omega)
  rw [e0, e1, e2, e3, e4, e5]
  rw [show (k + 1) * 6 = k * 6 + 5 + 1 by omega]
set_option maxHeartbeats 1000000 in
theorem toFound_any (a b c d e f : Int) (w : World) : Calls Try.prog 87 #[.agg #[.int .i64 a, .int .i64 b, .int .i64 c, .int .i64 d, .int .i64 e, .int .i64 f]] w fun x w' => x = .returned (.agg #[.int .i64 a, .int .i64 b, .int .i64 c, .int .i64 d, .int .i64 e, .int .i64 f]) ∧ Below w.heap.size w w' := by
  obtain ⟨r0, r1, r2, hb⟩ := Rw.three_new w 92 89 89 #[.int .i64 a, .int .i64 b, .int .i64 c, .int .i64 d, .int .i64 e, .int .i64 f] #[.int .i64 0, .int .i64 0, .int .i64 0, .int .i64 0, .int .i64 0, .int .i64 0] #[.int .i64 a, .int .i64 0, .int .i64 0, .int .i64 0, .int .i64 0, .int .i64 0]
  have HE := Lib.hid (fun (W : World) => toMeta_any b c d e f W)
  have R1 := Lib.hid r1
  have R2 := Lib.hid r2
  have HB := Lib.hid hb
  have HB0 := Lib.hid hb
  obtain ⟨c0, c1, c2, c3, c4, c5⟩ := r0.six
  clear r0 r1 r2 hb
  go_enter Try.func87, Try.ntmps87
  go_wp2_with fail
  refine (HE.out _).mono ?_
  rintro x w1 ⟨rfl, b1⟩
  simp only [World.size_alloc] at b1
  have k1 := R1.out.below b1 (by omega)
  have k2 := R2.out.below b1 (by omega)
  have hsz := b1.size
  try simp only [World.size_alloc, World.size_setCell] at hsz
  have HB2 := Lib.hid (HB0.out.trans (b1.mono (by omega)))
  obtain ⟨d0, d1, d2, d3, d4, d5⟩ := k2.six
  obtain ⟨f0, f1, f2, f3, f4, f5, _, _⟩ := k2.frees
  obtain ⟨e0, e1, e2, e3, e4, e5⟩ := k1.six
  obtain ⟨g0, g1, g2, g3, g4, g5, _, _⟩ := k1.frees
  have K1 := Lib.hid k1
  clear b1 k1 k2 R1 R2 HB HE c0 c1 c2 c3 c4 c5
  go_wp2
  refine bodyPost_ret (results_cell_row Try.results87 _ _ _ _ #[.int .i64 a, .int .i64 b, .int .i64 c, .int .i64 d, .int .i64 e, .int .i64 f] _ _ rfl
    (((((((((((K1.out.farA (by omega) _).farA (by omega) _).farA (by omega) _).farA (by omega) _).farA (by omega) _).set_ 0 _).set_ 1 _).set_ 2 _).set_ 3 _).set_ 4 _).set_ 5 _) Try.underlying89 rfl infoFd6) rfl ⟨rfl, ?_⟩
  repeat refine bset ?_ (by omega) _
  exact HB2.out
set_option maxHeartbeats 1000000 in
theorem toFounds_any (v : Value) (n : Nat) (l : List Int) (w : World) (hi : Nat) (h : SI w hi v n l) (hh : hi ≤ w.heap.size) (hl : n ≤ 1048576) :
    Calls Try.prog 49 #[v] w fun e w' => ∃ u, e = .returned u ∧ SOwn w' w.heap.size u n l ∧ Below w.heap.size w w' := by
  obtain ⟨A, cap, rfl, hlc, hcm, hn, hA⟩ := h
  have hnm : (n : Int) ≤ 1048576 := by omega
  rcases Nat.eq_zero_or_pos n with hz | hz
  · subst hz
    obtain rfl : l = [] := List.eq_nil_of_length_eq_zero (by omega)
    clear hA hn hlc hcm
    go_enter Try.func49, Try.ntmps49
    go_wp2_with (refine wpList_make_founds rfl _ _ rfl 0 rfl rfl (by omega) (Below.refl w.heap.size w) (Nat.le_refl _) ?_; intro w1 hown hb)
    go_loop [4] (fun i => i = .int .i64 0) (fun _ => 0)
    case atStart => rfl
    case round =>
      obtain rfl := hrel
      go_wp2
      go_ret
      exact ⟨_, rfl, hown, hb⟩
  · obtain ⟨g, off, rfl, hg, hx⟩ := hA hz
    have HX := Lib.hid hx
    have HN := Lib.hid hn
    clear hA hx hn hlc hcm
    go_enter Try.func49, Try.ntmps49
    go_wp2_with (refine wpList_make_founds rfl _ _ rfl n rfl rfl (by omega) (Below.refl w.heap.size w) (Nat.le_refl _) ?_; intro w1 hown hb)
    go_loopw [4] (fun i wr => ∃ k : Nat, k ≤ n ∧ i = .int .i64 k ∧ SOwn wr w.heap.size (.slice (some ⟨w.heap.size, 0, none⟩) n n) n (l.take (k * 6) ++ List.replicate (n * 6 - k * 6) 0) ∧ Below w.heap.size w wr) (fun i _ => n - (intOf i).toNat)
    case atStart => exact ⟨0, by omega, rfl, by simpa using hown, hb⟩
    case round =>
      clear hown hb
      obtain ⟨k, hk, rfl, hown, hb⟩ := hrel
      have hN := HN.out
      by_cases hlt : k < n
      · have hki : (k : Int) < (n : Int) := by omega
        have q0 := (hb.cell (p := ⟨g, off + k * 6, none⟩) (by simp; omega)).trans (HX.out (k * 6) (by omega))
        have q1 := (hb.cell (p := ⟨g, off + k * 6 + 1, none⟩) (by simp; omega)).trans (HX.out (k * 6 + 1) (by omega))
        have q2 := (hb.cell (p := ⟨g, off + k * 6 + 2, none⟩) (by simp; omega)).trans (HX.out (k * 6 + 2) (by omega))
        have q3 := (hb.cell (p := ⟨g, off + k * 6 + 3, none⟩) (by simp; omega)).trans (HX.out (k * 6 + 3) (by omega))
        have q4 := (hb.cell (p := ⟨g, off + k * 6 + 4, none⟩) (by simp; omega)).trans (HX.out (k * 6 + 4) (by omega))
        have q5 := (hb.cell (p := ⟨g, off + k * 6 + 5, none⟩) (by simp; omega)).trans (HX.out (k * 6 + 5) (by omega))
        have HS := Lib.hid (take_set6 l n k hN hlt)
        have hsz := hb.size
        generalize l.getD (k * 6) 0 = x0 at *
        generalize l.getD (k * 6 + 1) 0 = x1 at *
        generalize l.getD (k * 6 + 2) 0 = x2 at *
        generalize l.getD (k * 6 + 3) 0 = x3 at *
        generalize l.getD (k * 6 + 4) 0 = x4 at *
        generalize l.getD (k * 6 + 5) 0 = x5 at *
        have HOWN := Lib.hid hown
        have HB := Lib.hid hb
        clear hown hb hN
        go_wp2_with fail
        refine (toFound_any x0 x1 x2 x3 x4 x5 _).mono ?_
        rintro e w1 ⟨rfl, hb1⟩
        have o2 := HOWN.out.later hb1 (Nat.le_refl _)
        have hsz1 := hb1.size
        have f0 := o2.free (k * 6)
        have f1 := o2.free (k * 6 + 1)
        have f2 := o2.free (k * 6 + 2)
        have f3 := o2.free (k * 6 + 3)
        have f4 := o2.free (k * 6 + 4)
        have f5 := o2.free (k * 6 + 5)
        have d0 := o2.cell (j := k * 6) (by omega)
        have d1 := o2.cell (j := k * 6 + 1) (by omega)
        have d2 := o2.cell (j := k * 6 + 2) (by omega)
        have d3 := o2.cell (j := k * 6 + 3) (by omega)
        have d4 := o2.cell (j := k * 6 + 4) (by omega)
        have d5 := o2.cell (j := k * 6 + 5) (by omega)
        have O3 := Lib.hid ((((((o2.stored (k * 6) x0).stored (k * 6 + 1) x1).stored (k * 6 + 2) x2).stored (k * 6 + 3) x3).stored (k * 6 + 4) x4).stored (k * 6 + 5) x5)
        have HB2 := Lib.hid (HB.out.trans (hb1.mono hsz))
        clear o2 hb1 HOWN HB q0 q1 q2 q3 q4 q5
        go_wp2
        go_roundw
        case rel =>
          have o3 := O3.out
          rw [HS.out] at o3
          exact ⟨k + 1, by omega, by go_num, o3, bset (bset (bset (bset (bset (bset HB2.out (Nat.le_refl _) _) (Nat.le_refl _) _) (Nat.le_refl _) _) (Nat.le_refl _) _) (Nat.le_refl _) _) (Nat.le_refl _) _⟩
        case measure => simp [intOf]; omega
      · obtain rfl : k = n := by omega
        rw [Nat.sub_self, List.replicate_zero, List.append_nil, List.take_of_length_le (by omega)] at hown
        clear hN
        go_wp2
        go_ret
        exact ⟨_, rfl, hown, hb⟩
end Go.Proofs.Ytfnccbanmgfkeaa
