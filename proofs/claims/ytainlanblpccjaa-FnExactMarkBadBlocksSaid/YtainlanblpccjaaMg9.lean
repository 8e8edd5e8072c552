/- The proof's own lemmas, part 10: PmM PmO WeN RwX. -/
import Derived.Test.YtainlanblpccjaaProg
import Derived.Test.YtainlanblpccjaaMg7
import Derived.Test.YtainlanblpccjaaMg6
import Derived.Test.YtainlanblpccjaaMg8
import Derived.RegionTactic
import Derived.Deep.RegionHeld3
import Derived.Test.YtainlanblpccjaaMg2
import Derived.Deep.Grids
import Derived.Test.YtainlanblpccjaaMg4
/- Maps of logical pages in memory; what the laws' helpers for maps do. -/
namespace Go.Proofs.Ytainlanblpccjaa
open Go.RowKit
set_option linter.unusedVariables false
set_option linter.unusedSimpArgs false
/-- The cells of a map whose lists are the slices u and v. -/
def pmc (M : Pm) (u v : Value) : Array Value := #[.int .i64 M.b, .int .i64 M.p, u, v]
def PmIn (w : World) (hi : Nat) (v : Value) (M : Pm) : Prop := ∃ a b, v = .agg (pmc M a b) ∧ NI w hi a M.mp ∧ NB w hi b M.tr
def PmOwn (w : World) (lo hi : Nat) (v : Value) (M : Pm) : Prop := ∃ a b, v = .agg (pmc M a b) ∧ IO w lo hi a M.mp ∧ BW w lo hi b M.tr ∧ (a.ownBlock = none ∨ a.ownBlock ≠ b.ownBlock)
section
variable {w w' : World} {lo hi lo' hi' B : Nat} {v : Value} {M : Pm}
theorem PmIn.below (h : PmIn w hi v M) (hb : Below B w w') (hB : hi ≤ B) : PmIn w' hi v M := by
  obtain ⟨a, b, e, h1, h2⟩ := h; exact ⟨a, b, e, h1.below hb hB, h2.below hb hB⟩
theorem PmIn.same (h : PmIn w hi v M) (hs : Same 0 hi w w') : PmIn w' hi v M := by
  obtain ⟨a, b, e, h1, h2⟩ := h; exact ⟨a, b, e, h1.same hs, h2.same hs⟩
theorem PmIn.wide (h : PmIn w hi v M) (hh : hi ≤ hi') : PmIn w hi' v M := by
  obtain ⟨a, b, e, h1, h2⟩ := h; exact ⟨a, b, e, h1.wide hh, h2.wide hh⟩
theorem PmOwn.reads (h : PmOwn w lo hi v M) : PmIn w hi v M := by
  obtain ⟨a, b, e, h1, h2, _⟩ := h; exact ⟨a, b, e, h1.reads, h2.reads⟩
theorem PmOwn.same (h : PmOwn w lo hi v M) (hs : Same lo hi w w') : PmOwn w' lo hi v M := by
  obtain ⟨a, b, e, h1, h2, h3⟩ := h; exact ⟨a, b, e, h1.same hs, h2.same hs, h3⟩
theorem PmOwn.wide (h : PmOwn w lo hi v M) (hl : lo' ≤ lo) (hh : hi ≤ hi') : PmOwn w lo' hi' v M := by
  obtain ⟨a, b, e, h1, h2, h3⟩ := h; exact ⟨a, b, e, h1.wide hl hh, h2.wide hl hh, h3⟩
theorem PmOwn.zero (w : World) (lo hi : Nat) : PmOwn w lo hi (.agg #[.int .i64 0, .int .i64 0, .slice none 0 0, .slice none 0 0]) Pm.zero := ⟨_, _, rfl, IO.nil _ _ _, BW.nil _ _ _, .inl rfl⟩
theorem PmIn.agg4 (h : PmIn w hi v M) : ∃ g0 g1 A n c A' n' c', v = .agg #[.int .i64 g0, .int .i64 g1, .slice A n c, .slice A' n' c'] := by
  obtain ⟨a, b, e, h1, h2⟩ := h
  obtain ⟨A, n, c, rfl⟩ := h1.slice
  obtain ⟨A', n', c', rfl⟩ := h2.slice
  exact ⟨_, _, _, _, _, _, _, _, e⟩
end
theorem PmOwn.agg4 {w : World} {lo hi : Nat} {v : Value} {M : Pm} (h : PmOwn w lo hi v M) : ∃ (g0 g1 : Int) (A : Option Addr) (n c : Nat) (A' : Option Addr) (n' c' : Nat), v = .agg #[.int .i64 g0, .int .i64 g1, .slice A n c, .slice A' n' c'] := h.reads.agg4
/-- The map fits. -/
def PmSz (M : Pm) : Prop := M.mp.length + M.tr.length ≤ 1048576
theorem BoolsOwn.sliceOf {w : World} {B : Nat} {v : Value} {l : List Bool} (h : BoolsOwn w B v l) : ∃ A n c, v = .slice A n c := by
  rcases h.shape with ⟨rfl, _⟩ | ⟨g, cap, rfl, _⟩ <;> exact ⟨_, _, _, rfl⟩
theorem IntsOwn.sliceOf' {w : World} {B : Nat} {v : Value} {l : List Int} (h : IntsOwn w B v l) : ∃ A n c, v = .slice A n c := by
  rcases h.shape with ⟨rfl, _⟩ | ⟨g, cap, rfl, _⟩ <;> exact ⟨_, _, _, rfl⟩
set_option maxHeartbeats 1000000 in
theorem szPmM_any (v : Value) (T : Pm) (w : World) (hi : Nat) (m : Int) (h : PmIn w hi v T) (hh : hi ≤ w.heap.size) (hm0 : 0 ≤ m) (hm1 : m ≤ 1048576) :
    Calls Try.prog 69 #[v, .int .i64 m] w (LeftPost m (T.mp.length + T.tr.length) w) := by
  obtain ⟨a, b, rfl, h1, h2⟩ := h
  obtain ⟨A, n, c, rfl⟩ := h1.slice
  obtain ⟨A', n', c', rfl⟩ := h2.slice
  have HS := Lib.hid (fun (W : World) (hW : NI W hi (.slice A n c) T.mp) => szInts_any _ T.mp W hi m hW hm0 hm1)
  have HS2 := Lib.hid (fun (W : World) (mm : Int) (hW : NB W hi (.slice A' n' c') T.tr) (p : 0 ≤ mm) (q : mm ≤ 1048576) => szBools_any _ T.tr W hi mm hW p q)
  have H1 := Lib.hid h1
  have H2 := Lib.hid h2
  clear h1 h2
  obtain ⟨bb, p, mp, tr⟩ := T
  unfold pmc
  simp only at *
  have r0 := Rw.new w 99 #[.int .i64 bb, .int .i64 p, .slice A n c, .slice A' n' c']
  have b0 := (Below.refl w.heap.size w).alloc (Nat.le_refl _) (.cells #[.int .i64 bb, .int .i64 p, .slice A n c, .slice A' n' c'] 99)
  have R0 := Lib.hid r0
  have B0 := Lib.hid b0
  clear r0 b0
  generalize mp.length = t1 at *
  generalize tr.length = t2 at *
  go_enter Try.func69, Try.ntmps69
  go_wp2_with fail
  refine (HS.out _ (H1.out.below B0.out hh)).mono ?_
  rintro e w1 ⟨x, rfl, hx, rfl⟩
  by_cases hneg : x < 0
  · go_wp2
    go_ret
    rcases hx with hx | hx
    · omega
    · exact ⟨_, rfl, .inr ⟨by omega, rfl⟩, B0.out⟩
  · have hn : ¬ x < 0 := hneg
    have hx2 : (t1 : Int) ≤ m ∧ x = m - (t1 : Int) := by rcases hx with hx | hx <;> omega
    have hx0 : 0 ≤ x := by omega
    have hx1 : x ≤ 1048576 := by omega
    have HX := Lib.hid hx2
    clear hx hx2
    go_wp2_with fail
    refine (HS2.out _ x (H2.out.below B0.out hh) hx0 hx1).mono ?_
    rintro e w2 ⟨y, rfl, hy, rfl⟩
    have hX := HX.out
    by_cases hneg2 : y < 0
    · go_wp2
      go_ret
      rcases hy with hy | hy
      · omega
      · exact ⟨_, rfl, .inr ⟨by omega, rfl⟩, B0.out⟩
    · have hn2 : ¬ y < 0 := hneg2
      go_wp2
      go_ret
      rcases hy with hy | hy
      · exact ⟨_, rfl, .inl ⟨by omega, by omega⟩, B0.out⟩
      · omega
theorem szPm_any (v : Value) (T : Pm) (w : World) (hi : Nat) (h : PmIn w hi v T) (hh : hi ≤ w.heap.size) :
    Calls Try.prog 69 #[v, .int .i64 1048576] w (LeftPost 1048576 (T.mp.length + T.tr.length) w) := szPmM_any v T w hi 1048576 h hh (by omega) (by omega)
theorem Left.pmSmall {T : Pm} {x : Int} (h : Left 1048576 (T.mp.length + T.tr.length) x) (h0 : ¬ x < 0) : PmSz T := by
  unfold PmSz
  rcases h with h | h <;> omega
theorem infoPm : (Try.prog.info? 104).map (·.size) = some 4 := by kernel_rfl
set_option maxHeartbeats 2000000 in
theorem toPm_any (v : Value) (T : Pm) (w : World) (hi : Nat) (h : PmIn w hi v T) (hh : hi ≤ w.heap.size) (hz : PmSz T) :
    Calls Try.prog 71 #[v] w fun e w' => ∃ u, e = .returned u ∧ PmOwn w' w.heap.size w'.heap.size u T ∧ Below w.heap.size w w' := by
  obtain ⟨a, b, rfl, h1, h2⟩ := h
  obtain ⟨A, n, c, rfl⟩ := h1.slice
  obtain ⟨A', n', c', rfl⟩ := h2.slice
  have HS1 := Lib.hid (fun (W : World) (hW : NI W hi (.slice A n c) T.mp) (hs : hi ≤ W.heap.size) => toInts_any _ T.mp W (hW.intsR hs) (by unfold PmSz at hz; omega))
  have HS2 := Lib.hid (fun (W : World) (hW : NB W hi (.slice A' n' c') T.tr) (hs : hi ≤ W.heap.size) => toBools_any _ T.tr W (hW.boolsR hs) (by unfold PmSz at hz; omega))
  have H1 := Lib.hid h1
  have H2 := Lib.hid h2
  clear h1 h2 hz
  obtain ⟨bb, p, mp, tr⟩ := T
  unfold pmc
  simp only at *
  obtain ⟨r0, r1, r2, b0⟩ := Rw.three_new w 99 104 104 #[.int .i64 bb, .int .i64 p, .slice A n c, .slice A' n' c']
    #[.int .i64 0, .int .i64 0, .slice none 0 0, .slice none 0 0] #[.int .i64 0, .int .i64 0, .slice none 0 0, .slice none 0 0]
  obtain ⟨c0, c1, c2, c3⟩ := r0.four
  obtain ⟨d0, d1, d2, d3⟩ := r2.four
  obtain ⟨f0, f1, f2, f3, _, _, _, _⟩ := r2.frees
  have R0 := Lib.hid r0
  have R1 := Lib.hid r1
  have R2 := Lib.hid r2
  have HB1 := Lib.hid b0
  clear r0 r1 r2 b0
  go_enter Try.func71, Try.ntmps71
  go_wp2_with fail
  clear c0 c1 c2 c3 d0 d1 d2 d3 f0 f1 f2 f3
  obtain ⟨k0, k1, k2, kb⟩ := Rw.three_new w 99 104 104 #[.int .i64 bb, .int .i64 p, .slice A n c, .slice A' n' c']
    #[.int .i64 0, .int .i64 0, .slice none 0 0, .slice none 0 0] #[.int .i64 bb, .int .i64 p, .slice none 0 0, .slice none 0 0]
  refine (HS1.out _ (H1.out.below kb hh) (by simp; omega)).mono ?_
  rintro e w2 ⟨u2, rfl, ho, hb2⟩
  simp only [World.size_setCell, World.size_alloc] at hb2 ho
  have k0 := k0.below hb2 (by omega)
  have k1 := k1.below hb2 (by omega)
  have k2 := k2.below hb2 (by omega)
  have hsz2 := hb2.size
  try simp only [World.size_alloc, World.size_setCell] at hsz2
  have kb := kb.trans (hb2.mono (by omega))
  clear hb2
  obtain ⟨B, m, cp, rfl⟩ := ho.sliceOf'
  try simp only [List.setIfInBounds_toArray, List.set_cons_zero, List.set_cons_succ] at k2
  obtain ⟨c0, c1, c2, c3⟩ := k0.four
  obtain ⟨d0, d1, d2, d3⟩ := k2.four
  obtain ⟨f0, f1, f2, f3, _, _, _, _⟩ := k2.frees
  have K0 := Lib.hid k0
  have K1 := Lib.hid k1
  have K2 := Lib.hid k2
  have KB := Lib.hid kb
  have HO := Lib.hid ho
  clear k0 k1 k2 kb ho HB1 R0 R1 R2 HS1 H1
  go_wp2_with fail
  clear c0 c1 c2 c3 d0 d1 d2 d3 f0 f1 f2 f3
  have k2 := K2.out.set_ 2 (.slice B m cp)
  have k1 := K1.out.farA (g' := w.heap.size + 1 + 1) (k := 2) (by omega) (.slice B m cp)
  have kb := bset KB.out (g := w.heap.size + 1 + 1) (k := 2) (by omega) (.slice B m cp)
  have ho : IntsOwn (w2.setCell ⟨w.heap.size + 1 + 1, 2, none⟩ (.slice B m cp)) (w.heap.size + 1 + 1 + 1) (.slice B m cp) mp := HO.out.sames fun k e => Below.heap_setCell w2 ⟨w.heap.size + 1 + 1, 2, none⟩ _ k (by have := (HO.out.blockOf e).1; simp; omega)
  refine (HS2.out _ (H2.out.below kb hh) (by simp; omega)).mono ?_
  rintro e w3 ⟨u3, rfl, ho3, hb3⟩
  simp only [World.size_setCell] at hb3 ho3
  have k1 := k1.below hb3 (by omega)
  have k2 := k2.below hb3 (by omega)
  have hsz3 := hb3.size
  try simp only [World.size_alloc, World.size_setCell] at hsz3
  have kb := kb.trans (hb3.mono (by omega))
  have hlt : ∀ k, (Value.slice B m cp).ownBlock = some k → w.heap.size + 1 + 1 + 1 ≤ k ∧ k < w2.heap.size := fun k e => HO.out.blockOf e
  have ho := ho.later hb3 (by simp)
  clear hb3
  obtain ⟨B', m', cp', rfl⟩ := ho3.sliceOf
  try simp only [List.setIfInBounds_toArray, List.set_cons_zero, List.set_cons_succ] at k2
  obtain ⟨d0, d1, d2, d3⟩ := k2.four
  obtain ⟨f0, f1, f2, f3, _, _, _, _⟩ := k2.frees
  obtain ⟨e0, e1, e2, e3⟩ := k1.four
  obtain ⟨g0, g1, g2, g3, _, _, _, _⟩ := k1.frees
  have M1 := Lib.hid k1
  have MB := Lib.hid kb
  have HO2 := Lib.hid ho
  have HO3 := Lib.hid ho3
  have HL := Lib.hid hlt
  clear k1 k2 kb ho ho3 hlt HS2 H2 K0 K1 K2 KB HO
  go_wp2
  refine bodyPost_ret (results_cell_row Try.results71 _ _ _ _ #[.int .i64 bb, .int .i64 p, .slice B m cp, .slice B' m' cp'] _ _ rfl
    (((((M1.out.farA (by omega) _).set_ 0 _).set_ 1 _).set_ 2 _).set_ 3 _) Try.underlying104 rfl infoPm) rfl ?_
  have keep : ∀ k, w.heap.size + 1 + 1 + 1 ≤ k → (((((w3.setCell ⟨w.heap.size + 1 + 1, 3, none⟩ (.slice B' m' cp')).setCell ⟨w.heap.size + 1, 0, none⟩ (.int .i64 bb)).setCell ⟨w.heap.size + 1, 1, none⟩ (.int .i64 p)).setCell ⟨w.heap.size + 1, 2, none⟩ (.slice B m cp)).setCell ⟨w.heap.size + 1, 3, none⟩ (.slice B' m' cp')).heap[k]? = w3.heap[k]? := by
    intro k hk
    repeat rw [Below.heap_setCell _ ⟨_, _, none⟩ _ k (by simp; omega)]
  refine ⟨_, rfl, ⟨_, _, rfl, ⟨(HO2.out.sames fun k e => keep k (HL.out k e).1).low (by omega), fun k e => ?_⟩, ⟨(HO3.out.sames fun k e => keep k (by have := (HO3.out.blockOf e).1; omega)).low (by omega), fun k e => ?_⟩, ?_⟩, ?_⟩
  · have := HL.out k e; simp; omega
  · have := (HO3.out.blockOf e).2; simpa using this
  · cases hq : (Value.slice B m cp).ownBlock with
    | none => exact .inl rfl
    | some k => exact .inr fun e => by have := HL.out k hq; have := (HO3.out.blockOf e.symm).1; omega
  · repeat refine bset ?_ (by omega) _
    exact MB.out
set_option maxHeartbeats 1000000 in
theorem eqPm_any (u v : Value) (T : Pm) (w : World) (hi hi' : Nat) (hu : PmIn w hi u T) (hv : PmIn w hi' v T) (h1 : hi ≤ w.heap.size) (h2 : hi' ≤ w.heap.size) (hz : PmSz T) :
    Calls Try.prog 75 #[u, v] w fun e w' => e = .returned (.bool true) ∧ Below w.heap.size w w' := by
  obtain ⟨a, b, rfl, ha, hb⟩ := hu
  obtain ⟨x, y, rfl, hx, hy⟩ := hv
  have HS := Lib.hid (fun (W : World) (p : NI W hi a T.mp) (q : NI W hi' x T.mp) (c : hi ≤ W.heap.size) (d : hi' ≤ W.heap.size) => eqInts_any a x T.mp W (p.ints c) (q.ints d) (by unfold PmSz at hz; omega))
  have HT := Lib.hid (fun (W : World) (p : NB W hi b T.tr) (q : NB W hi' y T.tr) (c : hi ≤ W.heap.size) (d : hi' ≤ W.heap.size) => eqBools_any b y T.tr W (p.bools c) (q.bools d) (by unfold PmSz at hz; omega))
  have HA := Lib.hid ha
  have HB := Lib.hid hb
  have HX := Lib.hid hx
  have HY := Lib.hid hy
  clear ha hb hx hy hz
  obtain ⟨bb, p, mp, tr⟩ := T
  unfold pmc
  simp only at *
  have n1 : (bb != bb) = false := by simp
  have n2 : (p != p) = false := by simp
  obtain ⟨r0, r1, b0⟩ := Rw.two_new w 104 104 #[.int .i64 bb, .int .i64 p, a, b] #[.int .i64 bb, .int .i64 p, x, y]
  obtain ⟨c0, c1, c2, c3⟩ := r0.four
  obtain ⟨d0, d1, d2, d3⟩ := r1.four
  have S0 := Lib.hid r0
  have S1 := Lib.hid r1
  have BB1 := Lib.hid b0
  clear b0 r0 r1
  go_enter Try.func75, Try.ntmps75
  go_wp2_with fail
  refine (HS.out _ (HA.out.below BB1.out h1) (HX.out.below BB1.out h2) (by simp; omega) (by simp; omega)).mono ?_
  rintro e w2 ⟨rfl, hb2⟩
  simp only [World.size_alloc] at hb2
  have r0 := S0.out.below hb2 (by omega)
  have r1 := S1.out.below hb2 (by omega)
  have hsz2 := hb2.size
  try simp only [World.size_alloc, World.size_setCell] at hsz2
  have BB2 := Lib.hid (BB1.out.trans (hb2.mono (by omega)))
  clear c0 c1 c2 c3 d0 d1 d2 d3 hb2 S0 S1 BB1
  obtain ⟨c0, c1, c2, c3⟩ := r0.four
  obtain ⟨d0, d1, d2, d3⟩ := r1.four
  clear r0 r1
  go_wp2_with fail
  refine (HT.out _ (HB.out.below BB2.out h1) (HY.out.below BB2.out h2) (by omega) (by omega)).mono ?_
  rintro e w3 ⟨rfl, hb3⟩
  have BB3 := Lib.hid (BB2.out.trans (hb3.mono (by omega)))
  clear c0 c1 c2 c3 d0 d1 d2 d3 hb3
  go_wp2
  go_ret
  exact ⟨rfl, BB3.out⟩
end Go.Proofs.Ytainlanblpccjaa
/- Maps of logical pages and metadata that come in as arguments of a law, opened: what is known of them. -/
namespace Go.Proofs.Ytainlanblpccjaa
open Go.RowKit Go.ChangeShapes Go.WideShapes
set_option linter.unusedVariables false
def PmW (M : Pm) : Prop := (WfI M.b ∧ WfI M.p) ∧ WfL M.mp
section
variable {H : Type} {enc : TypeId × Value → H} {W : World} {sp : Nat → Bool} {held : Bool}
theorem open_bools1 {fuel : Nat} {v : Value} {x : DataW H × List MemPlace} (h : DataW.trod enc Try.prog W 0 sp held fuel 23 [v] = some x) : ∃ L, NB W W.heap.size v L := by
  rcases Go.Deep.open_slice1 Try.underlying23 (by kernel_rfl) h with ⟨hcs, _⟩ | ⟨a, l, c, m, n, V, D, Pl, hcs, _, hl, hm, hmm, _, hx⟩
  · injection hcs with hcs
    subst hcs
    exact ⟨[], NB.nil _ _⟩
  · injection hcs with hcs
    subst hcs
    have hlm : l ≤ m := by rw [hmm]; split <;> omega
    have key : ∀ i, i < l → ∃ b : Bool, V i = .bool b := fun i hi => open_bool1 (hx i (by omega)).2
    obtain ⟨f, hf⟩ := Go.Deep.choose_lt key
    refine ⟨(List.range l).map f, ⟨some a, l, c, rfl, hl, by unfold maxLen at hm; omega, by simp, fun h0 => ?_⟩⟩
    obtain ⟨b, off, spot⟩ := a
    have h00 := (hx 0 (by omega)).1
    have hspot : spot = none := by simpa [Addr.add] using World.cell?_spot h00
    subst hspot
    refine ⟨b, off, rfl, World.block_lt_of_cell? W ⟨b, off, none⟩ (by simpa [Addr.add] using h00), fun i hi => ?_⟩
    have := (hx i (by omega)).1
    have e2 : (⟨b, off, none⟩ : Addr).add i = ⟨b, off + i, none⟩ := by unfold Addr.add; split <;> simp_all
    rw [e2, hf i hi] at this
    rw [this]
    simp [List.getD_eq_getElem?_getD, hi]
theorem cellsLBo : Try.prog.cellsOf 23 = 1 := by kernel_rfl
theorem cellsLPm : Try.prog.cellsOf 99 = 4 := by kernel_rfl
theorem cellsL64' : Try.prog.cellsOf 22 = 1 := by kernel_rfl
theorem cellsI'' : Try.prog.cellsOf 2 = 1 := by kernel_rfl
theorem open_pm {fuel : Nat} {cs : List Value} {x : DataW H × List MemPlace} (h : DataW.trod enc Try.prog W 0 sp held fuel 99 cs = some x) : ∃ M : Pm, PmIn W W.heap.size (.agg cs.toArray) M ∧ PmW M := by
  obtain ⟨hl, hf⟩ := field_of Try.underlying99 h
  rw [cellsLPm] at hl
  obtain ⟨v0, v1, v2, v3, rfl⟩ := list4' hl
  obtain ⟨n0, y0, h0⟩ := hf 0 _ rfl
  obtain ⟨n1, y1, h1⟩ := hf 1 _ rfl
  obtain ⟨n2, y2, h2⟩ := hf 2 _ rfl
  obtain ⟨n3, y3, h3⟩ := hf 3 _ rfl
  simp [cellsI'', cellsLBo, cellsL64'] at h0 h1 h2 h3
  obtain ⟨i0, rfl, w0⟩ := open_int1 h0
  obtain ⟨i1, rfl, w1⟩ := open_int1 h1
  obtain ⟨L, hL, wL⟩ := open_ints1 h2
  obtain ⟨K, hK⟩ := open_bools1 h3
  exact ⟨⟨i0, i1, L, K⟩, ⟨v2, v3, rfl, hL, hK⟩, ⟨w0, w1⟩, wL⟩
theorem list5 {α : Type} {l : List α} (h : l.length = 5) : ∃ a b c d e, l = [a, b, c, d, e] := by
  match l, h with
  | [a, b, c, d, e], _ => exact ⟨a, b, c, d, e, rfl⟩
end
end Go.Proofs.Ytainlanblpccjaa
/- Plain data: Wear. -/
namespace Go.Proofs.Ytainlanblpccjaa
open Go.RowKit
set_option linter.unusedVariables false
structure We where
  e : List Int
  b : List Bool
  c : List Int
  n : Int
def We.zero : We := ⟨[], [], [], 0⟩
instance : Inhabited We := ⟨We.zero⟩
/-- It fits. -/
def WeSz (M : We) : Prop := M.e.length + M.b.length + M.c.length ≤ 1048576
theorem We.zero_sz : WeSz We.zero := by unfold WeSz We.zero; simp
end Go.Proofs.Ytainlanblpccjaa
/- More of a known row: one cell; seven. -/
namespace Go.Proofs.Ytainlanblpccjaa
open Go.RowKit
theorem Rw.two_ {w : World} {g : Nat} {t : TypeId} {a b : Value} (h : Rw w g t #[a, b]) : w.cell? ⟨g, 0, none⟩ = some a ∧ w.cell? ⟨g, 1, none⟩ = some b := ⟨h.cell 0, h.cell 1⟩
theorem Rw.five_ {w : World} {g : Nat} {t : TypeId} {a b c d e : Value} (h : Rw w g t #[a, b, c, d, e]) : w.cell? ⟨g, 0, none⟩ = some a ∧ w.cell? ⟨g, 1, none⟩ = some b ∧ w.cell? ⟨g, 2, none⟩ = some c ∧ w.cell? ⟨g, 3, none⟩ = some d ∧ w.cell? ⟨g, 4, none⟩ = some e :=
  ⟨h.cell 0, h.cell 1, h.cell 2, h.cell 3, h.cell 4⟩
theorem Rw.seven_ {w : World} {g : Nat} {t : TypeId} {a b c d e f i : Value} (h : Rw w g t #[a, b, c, d, e, f, i]) : w.cell? ⟨g, 0, none⟩ = some a ∧ w.cell? ⟨g, 1, none⟩ = some b ∧ w.cell? ⟨g, 2, none⟩ = some c ∧ w.cell? ⟨g, 3, none⟩ = some d ∧ w.cell? ⟨g, 4, none⟩ = some e ∧ w.cell? ⟨g, 5, none⟩ = some f ∧ w.cell? ⟨g, 6, none⟩ = some i :=
  ⟨h.cell 0, h.cell 1, h.cell 2, h.cell 3, h.cell 4, h.cell 5, h.cell 6⟩
theorem Rw.one {w : World} {g : Nat} {t : TypeId} {a : Value} (h : Rw w g t #[a]) : w.cell? ⟨g, 0, none⟩ = some a := h.cell 0
end Go.Proofs.Ytainlanblpccjaa
