/- Maps of logical pages in memory; what the laws' helpers for maps do. -/
import Derived.Test.YtmbgagkpabepcaaProg
import Derived.Test.YtmbgagkpabepcaaPmN
import Derived.Test.YtmbgagkpabepcaaTbM
import Derived.Test.YtmbgagkpabepcaaBoo
import Derived.RegionTactic
import Derived.Deep.RegionHeld3
namespace Go.Proofs.Ytmbgagkpabepcaa
open Go.RowKit
set_option linter.unusedVariables false
set_option linter.unusedSimpArgs false
/-- The cells of a map whose lists are the slices u and v. -/
def pmc (M : Pm) (u v : Value) : Array Value := #[.int .i64 M.b, .int .i64 M.p, u, v]
def PmIn (w : World) (hi : Nat) (v : Value) (M : Pm) : Prop := ∃ a b, v = .agg (pmc M a b) ∧ NI w hi a M.mp ∧ NB w hi b M.tr
def PmOwn (w : World) (lo hi : Nat) (v : Value) (M : Pm) : Prop := ∃ a b, v = .agg (pmc M a b) ∧ IO w lo hi a M.mp ∧ BW w lo hi b M.tr ∧ (a.ownBlock = none ∨ a.ownBlock ≠ b.ownBlock)
section
variable {w w' : World} {lo hi lo' hi' B : Nat} {v : Value} {M : Pm}
theorem PmIn.below (h : PmIn w hi v M) (hb : Below B w w') (hB : hi ≤ B) : PmIn w' hi v M := by
  obtain ⟨a, b, e, h1, h2⟩ := h; exact ⟨a, b, e, h1.below hb hB, h2.below hb hB⟩
theorem PmIn.same (h : PmIn w hi v M) (hs : Same 0 hi w w') : PmIn w' hi v M := by
  obtain ⟨a, b, e, h1, h2⟩ := h; exact ⟨a, b, e, h1.same hs, h2.same hs⟩
theorem PmIn.wide (h : PmIn w hi v M) (hh : hi ≤ hi') : PmIn w hi' v M := by
  obtain ⟨a, b, e, h1, h2⟩ := h; exact ⟨a, b, e, h1.wide hh, h2.wide hh⟩
theorem PmOwn.reads (h : PmOwn w lo hi v M) : PmIn w hi v M := by
  obtain ⟨a, b, e, h1, h2, _⟩ := h; exact ⟨a, b, e, h1.reads, h2.reads⟩
theorem PmOwn.same (h : PmOwn w lo hi v M) (hs : Same lo hi w w') : PmOwn w' lo hi v M := by
  obtain ⟨a, b, e, h1, h2, h3⟩ := h; exact ⟨a, b, e, h1.same hs, h2.same hs, h3⟩
theorem PmOwn.wide (h : PmOwn w lo hi v M) (hl : lo' ≤ lo) (hh : hi ≤ hi') : PmOwn w lo' hi' v M := by
  obtain ⟨a, b, e, h1, h2, h3⟩ := h; exact ⟨a, b, e, h1.wide hl hh, h2.wide hl hh, h3⟩
theorem PmOwn.zero (w : World) (lo hi : Nat) : PmOwn w lo hi (.agg #[.int .i64 0, .int .i64 0, .slice none 0 0, .slice none 0 0]) Pm.zero := ⟨_, _, rfl, IO.nil _ _ _, BW.nil _ _ _, .inl rfl⟩
theorem PmIn.agg4 (h : PmIn w hi v M) : ∃ g0 g1 A n c A' n' c', v = .agg #[.int .i64 g0, .int .i64 g1, .slice A n c, .slice A' n' c'] := by
  obtain ⟨a, b, e, h1, h2⟩ := h
  obtain ⟨A, n, c, rfl⟩ := h1.slice
  obtain ⟨A', n', c', rfl⟩ := h2.slice
  exact ⟨_, _, _, _, _, _, _, _, e⟩
end
theorem PmOwn.agg4 {w : World} {lo hi : Nat} {v : Value} {M : Pm} (h : PmOwn w lo hi v M) : ∃ (g0 g1 : Int) (A : Option Addr) (n c : Nat) (A' : Option Addr) (n' c' : Nat), v = .agg #[.int .i64 g0, .int .i64 g1, .slice A n c, .slice A' n' c'] := h.reads.agg4
/-- The map fits. -/
def PmSz (M : Pm) : Prop := M.mp.length + M.tr.length ≤ 1048576
theorem BoolsOwn.sliceOf {w : World} {B : Nat} {v : Value} {l : List Bool} (h : BoolsOwn w B v l) : ∃ A n c, v = .slice A n c := by
  rcases h.shape with ⟨rfl, _⟩ | ⟨g, cap, rfl, _⟩ <;> exact ⟨_, _, _, rfl⟩
theorem IntsOwn.sliceOf' {w : World} {B : Nat} {v : Value} {l : List Int} (h : IntsOwn w B v l) : ∃ A n c, v = .slice A n c := by
  rcases h.shape with ⟨rfl, _⟩ | ⟨g, cap, rfl, _⟩ <;> exact ⟨_, _, _, rfl⟩
set_option maxHeartbeats 1000000 in
theorem szPmM_any (v : Value) (T : Pm) (w : World) (hi : Nat) (m : Int) (h : PmIn w hi v T) (hh : hi ≤ w.heap.size) (hm0 : 0 ≤ m) (hm1 : m ≤ 1048576) :
    Calls Try.prog 49 #[v, .int .i64 m] w (LeftPost m (T.mp.length + T.tr.length) w) := by
  obtain ⟨a, b, rfl, h1, h2⟩ := h
  obtain ⟨A, n, c, rfl⟩ := h1.slice
  obtain ⟨A', n', c', rfl⟩ := h2.slice
  have HS := Lib.hid (fun (W : World) (hW : NI W hi (.slice A n c) T.mp) => szInts_any _ T.mp W hi m hW hm0 hm1)
  have HS2 := Lib.hid (fun (W : World) (mm : Int) (hW : NB W hi (.slice A' n' c') T.tr) (p : 0 ≤ mm) (q : mm ≤ 1048576) => szBools_any _ T.tr W hi mm hW p q)
  have H1 := Lib.hid h1
  have H2 := Lib.hid h2
  clear h1 h2
  obtain ⟨bb, p, mp, tr⟩ := T
  unfold pmc
  simp only at *
  have r0 := Rw.new w 56 #[.int .i64 bb, .int .i64 p, .slice A n c, .slice A' n' c']
  have b0 := (Below.refl w.heap.size w).alloc (Nat.le_refl _) (.cells #[.int .i64 bb, .int .i64 p, .slice A n c, .slice A' n' c'] 56)
  have R0 := Lib.hid r0
  have B0 := Lib.hid b0
  clear r0 b0
  generalize mp.length = t1 at *
  generalize tr.length = t2 at *
  go_enter Try.func49, Try.ntmps49
  go_wp2_with fail
  refine (HS.out _ (H1.out.below B0.out hh)).mono ?_
  rintro e w1 ⟨x, rfl, hx, rfl⟩
  by_cases hneg : x < 0
  · go_wp2
    go_ret
    rcases hx with hx | hx
    · omega
    · exact ⟨_, rfl, .inr ⟨by omega, rfl⟩, B0.out⟩
  · have hn : ¬ x < 0 := hneg
    have hx2 : (t1 : Int) ≤ m ∧ x = m - (t1 : Int) := by rcases hx with hx | hx <;> omega
    have hx0 : 0 ≤ x := by omega
    have hx1 : x ≤ 1048576 := by omega
    have HX := Lib.hid hx2
    clear hx hx2
    go_wp2_with fail
    refine (HS2.out _ x (H2.out.below B0.out hh) hx0 hx1).mono ?_
    rintro e w2 ⟨y, rfl, hy, rfl⟩
    have hX := HX.out
    by_cases hneg2 : y < 0
    · go_wp2
      go_ret
      rcases hy with hy | hy
      · omega
      · exact ⟨_, rfl, .inr ⟨by omega, rfl⟩, B0.out⟩
    · have hn2 : ¬ y < 0 := hneg2
      go_wp2
      go_ret
      rcases hy with hy | hy
      · exact ⟨_, rfl, .inl ⟨by omega, by omega⟩, B0.out⟩
      · omega
theorem szPm_any (v : Value) (T : Pm) (w : World) (hi : Nat) (h : PmIn w hi v T) (hh : hi ≤ w.heap.size) :
    Calls Try.prog 49 #[v, .int .i64 1048576] w (LeftPost 1048576 (T.mp.length + T.tr.length) w) := szPmM_any v T w hi 1048576 h hh (by omega) (by omega)
theorem Left.pmSmall {T : Pm} {x : Int} (h : Left 1048576 (T.mp.length + T.tr.length) x) (h0 : ¬ x < 0) : PmSz T := by
  unfold PmSz
  rcases h with h | h <;> omega
theorem infoPm : (Try.prog.info? 59).map (·.size) = some 4 := by kernel_rfl
set_option maxHeartbeats 2000000 in
theorem toPm_any (v : Value) (T : Pm) (w : World) (hi : Nat) (h : PmIn w hi v T) (hh : hi ≤ w.heap.size) (hz : PmSz T) :
    Calls Try.prog 51 #[v] w fun e w' => ∃ u, e = .returned u ∧ PmOwn w' w.heap.size w'.heap.size u T ∧ Below w.heap.size w w' := by
  obtain ⟨a, b, rfl, h1, h2⟩ := h
  obtain ⟨A, n, c, rfl⟩ := h1.slice
  obtain ⟨A', n', c', rfl⟩ := h2.slice
  have HS1 := Lib.hid (fun (W : World) (hW : NI W hi (.slice A n c) T.mp) (hs : hi ≤ W.heap.size) => toInts_any _ T.mp W (hW.intsR hs) (by unfold PmSz at hz; omega))
  have HS2 := Lib.hid (fun (W : World) (hW : NB W hi (.slice A' n' c') T.tr) (hs : hi ≤ W.heap.size) => toBools_any _ T.tr W (hW.boolsR hs) (by unfold PmSz at hz; omega))
  have H1 := Lib.hid h1
  have H2 := Lib.hid h2
  clear h1 h2 hz
  obtain ⟨bb, p, mp, tr⟩ := T
  unfold pmc
  simp only at *
  obtain ⟨r0, r1, r2, b0⟩ := Rw.three_new w 56 59 59 #[.int .i64 bb, .int .i64 p, .slice A n c, .slice A' n' c']
    #[.int .i64 0, .int .i64 0, .slice none 0 0, .slice none 0 0] #[.int .i64 0, .int .i64 0, .slice none 0 0, .slice none 0 0]
  obtain ⟨c0, c1, c2, c3⟩ := r0.four
  obtain ⟨d0, d1, d2, d3⟩ := r2.four
  obtain ⟨f0, f1, f2, f3, _, _, _, _⟩ := r2.frees
  have R0 := Lib.hid r0
  have R1 := Lib.hid r1
  have R2 := Lib.hid r2
  have HB1 := Lib.hid b0
  clear r0 r1 r2 b0
  go_enter Try.func51, Try.ntmps51
  go_wp2_with fail
  clear c0 c1 c2 c3 d0 d1 d2 d3 f0 f1 f2 f3
  obtain ⟨k0, k1, k2, kb⟩ := Rw.three_new w 56 59 59 #[.int .i64 bb, .int .i64 p, .slice A n c, .slice A' n' c']
    #[.int .i64 0, .int .i64 0, .slice none 0 0, .slice none 0 0] #[.int .i64 bb, .int .i64 p, .slice none 0 0, .slice none 0 0]
  refine (HS1.out _ (H1.out.below kb hh) (by simp; omega)).mono ?_
  rintro e w2 ⟨u2, rfl, ho, hb2⟩
  simp only [World.size_setCell, World.size_alloc] at hb2 ho
  have k0 := k0.below hb2 (by omega)
  have k1 := k1.below hb2 (by omega)
  have k2 := k2.below hb2 (by omega)
  have hsz2 := hb2.size
  try simp only [World.size_alloc, World.size_setCell] at hsz2
  have kb := kb.trans (hb2.mono (by omega))
  clear hb2
  obtain ⟨B, m, cp, rfl⟩ := ho.sliceOf'
  try simp only [List.setIfInBounds_toArray, List.set_cons_zero, List.set_cons_succ] at k2
  obtain ⟨c0, c1, c2, c3⟩ := k0.four
  obtain ⟨d0, d1, d2, d3⟩ := k2.four
  obtain ⟨f0, f1, f2, f3, _, _, _, _⟩ := k2.frees
  have K0 := Lib.hid k0
  have K1 := Lib.hid k1
  have K2 := Lib.hid k2
  have KB := Lib.hid kb
  have HO := Lib.hid ho
  clear k0 k1 k2 kb ho HB1 R0 R1 R2 HS1 H1
  go_wp2_with fail
  clear c0 c1 c2 c3 d0 d1 d2 d3 f0 f1 f2 f3
  have k2 := K2.out.set_ 2 (.slice B m cp)
  have k1 := K1.out.farA (g' := w.heap.size + 1 + 1) (k := 2) (by omega) (.slice B m cp)
  have kb := bset KB.out (g := w.heap.size + 1 + 1) (k := 2) (by omega) (.slice B m cp)
  have ho : IntsOwn (w2.setCell ⟨w.heap.size + 1 + 1, 2, none⟩ (.slice B m cp)) (w.heap.size + 1 + 1 + 1) (.slice B m cp) mp := HO.out.sames fun k e => Below.heap_setCell w2 ⟨w.heap.size + 1 + 1, 2, none⟩ _ k (by have := (HO.out.blockOf e).1; simp; omega)
  refine (HS2.out _ (H2.out.below kb hh) (by simp; omega)).mono ?_
  rintro e w3 ⟨u3, rfl, ho3, hb3⟩
  simp only [World.size_setCell] at hb3 ho3
  have k1 := k1.below hb3 (by omega)
  have k2 := k2.below hb3 (by omega)
  have hsz3 := hb3.size
  try simp only [World.size_alloc, World.size_setCell] at hsz3
  have kb := kb.trans (hb3.mono (by omega))
  have hlt : ∀ k, (Value.slice B m cp).ownBlock = some k → w.heap.size + 1 + 1 + 1 ≤ k ∧ k < w2.heap.size := fun k e => HO.out.blockOf e
  have ho := ho.later hb3 (by simp)
  clear hb3
  obtain ⟨B', m', cp', rfl⟩ := ho3.sliceOf
  try simp only [List.setIfInBounds_toArray, List.set_cons_zero, List.set_cons_succ] at k2
  obtain ⟨d0, d1, d2, d3⟩ := k2.four
  obtain ⟨f0, f1, f2, f3, _, _, _, _⟩ := k2.frees
  obtain ⟨e0, e1, e2, e3⟩ := k1.four
  obtain ⟨g0, g1, g2, g3, _, _, _, _⟩ := k1.frees
  have M1 := Lib.hid k1
  have MB := Lib.hid kb
  have HO2 := Lib.hid ho
  have HO3 := Lib.hid ho3
  have HL := Lib.hid hlt
  clear k1 k2 kb ho ho3 hlt HS2 H2 K0 K1 K2 KB HO
  go_wp2
  refine bodyPost_ret (results_cell_row Try.results51 _ _ _ _ #[.int .i64 bb, .int .i64 p, .slice B m cp, .slice B' m' cp'] _ _ rfl
    (((((M1.out.farA (by omega) _).set_ 0 _).set_ 1 _).set_ 2 _).set_ 3 _) Try.underlying59 rfl infoPm) rfl ?_
  have keep : ∀ k, w.heap.size + 1 + 1 + 1 ≤ k → (((((w3.setCell ⟨w.heap.size + 1 + 1, 3, none⟩ (.slice B' m' cp')).setCell ⟨w.heap.size + 1, 0, none⟩ (.int .i64 bb)).setCell ⟨w.heap.size + 1, 1, none⟩ (.int .i64 p)).setCell ⟨w.heap.size + 1, 2, none⟩ (.slice B m cp)).setCell ⟨w.heap.size + 1, 3, none⟩ (.slice B' m' cp')).heap[k]? = w3.heap[k]? := by
    intro k hk
    repeat rw [Below.heap_setCell _ ⟨_, _, none⟩ _ k (by simp; omega)]
  refine ⟨_, rfl, ⟨_, _, rfl, ⟨(HO2.out.sames fun k e => keep k (HL.out k e).1).low (by omega), fun k e => ?_⟩, ⟨(HO3.out.sames fun k e => keep k (by have := (HO3.out.blockOf e).1; omega)).low (by omega), fun k e => ?_⟩, ?_⟩, ?_⟩
  · have := HL.out k e; simp; omega
  · have := (HO3.out.blockOf e).2; simpa using this
  · cases hq : (Value.slice B m cp).ownBlock with
    | none => exact .inl rfl
    | some k => exact .inr fun e => by have := HL.out k hq; have := (HO3.out.blockOf e.symm).1; omega
  · repeat refine bset ?_ (by omega) _
    exact MB.out
set_option maxHeartbeats 1000000 in
theorem eqPm_any (u v : Value) (T : Pm) (w : World) (hi hi' : Nat) (hu : PmIn w hi u T) (hv : PmIn w hi' v T) (h1 : hi ≤ w.heap.size) (h2 : hi' ≤ w.heap.size) (hz : PmSz T) :
    Calls Try.prog 53 #[u, v] w fun e w' => e = .returned (.bool true) ∧ Below w.heap.size w w' := by
  obtain ⟨a, b, rfl, ha, hb⟩ := hu
  obtain ⟨x, y, rfl, hx, hy⟩ := hv
  have HS := Lib.hid (fun (W : World) (p : NI W hi a T.mp) (q : NI W hi' x T.mp) (c : hi ≤ W.heap.size) (d : hi' ≤ W.heap.size) => eqInts_any a x T.mp W (p.ints c) (q.ints d) (by unfold PmSz at hz; omega))
  have HT := Lib.hid (fun (W : World) (p : NB W hi b T.tr) (q : NB W hi' y T.tr) (c : hi ≤ W.heap.size) (d : hi' ≤ W.heap.size) => eqBools_any b y T.tr W (p.bools c) (q.bools d) (by unfold PmSz at hz; omega))
  have HA := Lib.hid ha
  have HB := Lib.hid hb
  have HX := Lib.hid hx
  have HY := Lib.hid hy
  clear ha hb hx hy hz
  obtain ⟨bb, p, mp, tr⟩ := T
  unfold pmc
  simp only at *
  have n1 : (bb != bb) = false := by simp
  have n2 : (p != p) = false := by simp
  obtain ⟨r0, r1, b0⟩ := Rw.two_new w 59 59 #[.int .i64 bb, .int .i64 p, a, b] #[.int .i64 bb, .int .i64 p, x, y]
  obtain ⟨c0, c1, c2, c3⟩ := r0.four
  obtain ⟨d0, d1, d2, d3⟩ := r1.four
  have S0 := Lib.hid r0
  have S1 := Lib.hid r1
  have BB1 := Lib.hid b0
  clear b0 r0 r1
  go_enter Try.func53, Try.ntmps53
  go_wp2_with fail
  refine (HS.out _ (HA.out.below BB1.out h1) (HX.out.below BB1.out h2) (by simp; omega) (by simp; omega)).mono ?_
  rintro e w2 ⟨rfl, hb2⟩
  simp only [World.size_alloc] at hb2
  have r0 := S0.out.below hb2 (by omega)
  have r1 := S1.out.below hb2 (by omega)
  have hsz2 := hb2.size
  try simp only [World.size_alloc, World.size_setCell] at hsz2
  have BB2 := Lib.hid (BB1.out.trans (hb2.mono (by omega)))
  clear c0 c1 c2 c3 d0 d1 d2 d3 hb2 S0 S1 BB1
  obtain ⟨c0, c1, c2, c3⟩ := r0.four
  obtain ⟨d0, d1, d2, d3⟩ := r1.four
  clear r0 r1
  go_wp2_with fail
  refine (HT.out _ (HB.out.below BB2.out h1) (HY.out.below BB2.out h2) (by omega) (by omega)).mono ?_
  rintro e w3 ⟨rfl, hb3⟩
  have BB3 := Lib.hid (BB2.out.trans (hb3.mono (by omega)))
  clear c0 c1 c2 c3 d0 d1 d2 d3 hb3
  go_wp2
  go_ret
  exact ⟨rfl, BB3.out⟩
end Go.Proofs.Ytmbgagkpabepcaa
