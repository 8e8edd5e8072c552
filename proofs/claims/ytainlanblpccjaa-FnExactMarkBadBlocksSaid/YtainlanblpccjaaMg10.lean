/- The proof's own lemmas, part 11: WeM WeO. -/
import Derived.Test.YtainlanblpccjaaProg
import Derived.Test.YtainlanblpccjaaMg9
import Derived.Test.YtainlanblpccjaaMg6
import Derived.Test.YtainlanblpccjaaMg8
import Derived.RegionTactic
import Derived.Deep.RegionHeld3
import Derived.Test.YtainlanblpccjaaMg2
import Derived.Test.YtainlanblpccjaaMg7
import Derived.Deep.Grids
/- Wear in memory; what the laws' helpers for it do. -/
namespace Go.Proofs.Ytainlanblpccjaa
open Go.RowKit
set_option linter.unusedVariables false
set_option linter.unusedSimpArgs false
def wec (M : We) (u0 u1 u2 : Value) : Array Value := #[u0, u1, u2, .int .i64 M.n]
def WeIn (w : World) (hi : Nat) (v : Value) (M : We) : Prop := ∃ a0 a1 a2, v = .agg (wec M a0 a1 a2) ∧ NI w hi a0 M.e ∧ NB w hi a1 M.b ∧ NI w hi a2 M.c
def WeOwn (w : World) (lo hi : Nat) (v : Value) (M : We) : Prop := ∃ a0 a1 a2, v = .agg (wec M a0 a1 a2) ∧ IO w lo hi a0 M.e ∧ BW w lo hi a1 M.b ∧ IO w lo hi a2 M.c ∧ (a0.ownBlock = none ∨ a0.ownBlock ≠ a1.ownBlock) ∧ (a0.ownBlock = none ∨ a0.ownBlock ≠ a2.ownBlock) ∧ (a1.ownBlock = none ∨ a1.ownBlock ≠ a2.ownBlock)
section
variable {w w' : World} {lo hi lo' hi' B : Nat} {v : Value} {M : We}
theorem WeIn.below (h : WeIn w hi v M) (hb : Below B w w') (hB : hi ≤ B) : WeIn w' hi v M := by
  obtain ⟨a0, a1, a2, e, h0, h1, h2⟩ := h; exact ⟨a0, a1, a2, e, h0.below hb hB, h1.below hb hB, h2.below hb hB⟩
theorem WeIn.same (h : WeIn w hi v M) (hs : Same 0 hi w w') : WeIn w' hi v M := by
  obtain ⟨a0, a1, a2, e, h0, h1, h2⟩ := h; exact ⟨a0, a1, a2, e, h0.same hs, h1.same hs, h2.same hs⟩
theorem WeIn.wide (h : WeIn w hi v M) (hh : hi ≤ hi') : WeIn w hi' v M := by
  obtain ⟨a0, a1, a2, e, h0, h1, h2⟩ := h; exact ⟨a0, a1, a2, e, h0.wide hh, h1.wide hh, h2.wide hh⟩
theorem WeOwn.reads (h : WeOwn w lo hi v M) : WeIn w hi v M := by
  obtain ⟨a0, a1, a2, e, h0, h1, h2, d01, d02, d12⟩ := h; exact ⟨a0, a1, a2, e, h0.reads, h1.reads, h2.reads⟩
theorem WeOwn.same (h : WeOwn w lo hi v M) (hs : Same lo hi w w') : WeOwn w' lo hi v M := by
  obtain ⟨a0, a1, a2, e, h0, h1, h2, d01, d02, d12⟩ := h; exact ⟨a0, a1, a2, e, h0.same hs, h1.same hs, h2.same hs, d01, d02, d12⟩
theorem WeOwn.wide (h : WeOwn w lo hi v M) (hl : lo' ≤ lo) (hh : hi ≤ hi') : WeOwn w lo' hi' v M := by
  obtain ⟨a0, a1, a2, e, h0, h1, h2, d01, d02, d12⟩ := h; exact ⟨a0, a1, a2, e, h0.wide hl hh, h1.wide hl hh, h2.wide hl hh, d01, d02, d12⟩
theorem WeOwn.zero (w : World) (lo hi : Nat) : WeOwn w lo hi (.agg #[.slice none 0 0, .slice none 0 0, .slice none 0 0, .int .i64 0]) We.zero := ⟨_, _, _, rfl, IO.nil _ _ _, BW.nil _ _ _, IO.nil _ _ _, .inl rfl, .inl rfl, .inl rfl⟩
theorem WeIn.agg_ (h : WeIn w hi v M) : ∃ (A0 : Option Addr) (n0 c0 : Nat) (A1 : Option Addr) (n1 c1 : Nat) (A2 : Option Addr) (n2 c2 : Nat) (g3 : Int), v = .agg #[.slice A0 n0 c0, .slice A1 n1 c1, .slice A2 n2 c2, .int .i64 g3] := by
  obtain ⟨a0, a1, a2, e, h0, h1, h2⟩ := h
  obtain ⟨A0, n0, c0, rfl⟩ := h0.slice
  obtain ⟨A1, n1, c1, rfl⟩ := h1.slice
  obtain ⟨A2, n2, c2, rfl⟩ := h2.slice
  exact ⟨_, _, _, _, _, _, _, _, _, _, e⟩
theorem WeOwn.agg_ (h : WeOwn w lo hi v M) : ∃ (A0 : Option Addr) (n0 c0 : Nat) (A1 : Option Addr) (n1 c1 : Nat) (A2 : Option Addr) (n2 c2 : Nat) (g3 : Int), v = .agg #[.slice A0 n0 c0, .slice A1 n1 c1, .slice A2 n2 c2, .int .i64 g3] := h.reads.agg_
end
set_option maxHeartbeats 1000000 in
theorem szWeM_any (v : Value) (T : We) (w : World) (hi : Nat) (m : Int) (h : WeIn w hi v T) (hh : hi ≤ w.heap.size) (hm0 : 0 ≤ m) (hm1 : m ≤ 1048576) :
    Calls Try.prog 15 #[v, .int .i64 m] w (LeftPost m (T.e.length + T.b.length + T.c.length) w) := by
  obtain ⟨a0, a1, a2, rfl, h0, h1, h2⟩ := h
  obtain ⟨A0, n0, c0, rfl⟩ := h0.slice
  obtain ⟨A1, n1, c1, rfl⟩ := h1.slice
  obtain ⟨A2, n2, c2, rfl⟩ := h2.slice
  have HS0 := Lib.hid (fun (W : World) (mm : Int) (hW : NI W hi (.slice A0 n0 c0) T.e) (p : 0 ≤ mm) (q : mm ≤ 1048576) => szInts_any _ T.e W hi mm hW p q)
  have HS1 := Lib.hid (fun (W : World) (mm : Int) (hW : NB W hi (.slice A1 n1 c1) T.b) (p : 0 ≤ mm) (q : mm ≤ 1048576) => szBools_any _ T.b W hi mm hW p q)
  have HS2 := Lib.hid (fun (W : World) (mm : Int) (hW : NI W hi (.slice A2 n2 c2) T.c) (p : 0 ≤ mm) (q : mm ≤ 1048576) => szInts_any _ T.c W hi mm hW p q)
  have H0 := Lib.hid h0
  clear h0
  have H1 := Lib.hid h1
  clear h1
  have H2 := Lib.hid h2
  clear h2
  obtain ⟨s0, s1, s2, g3⟩ := T
  unfold wec
  simp only at *
  have b0 := (Below.refl w.heap.size w).alloc (Nat.le_refl _) (.cells #[.slice A0 n0 c0, .slice A1 n1 c1, .slice A2 n2 c2, .int .i64 g3] 25)
  have r0 := Rw.new w 25 #[.slice A0 n0 c0, .slice A1 n1 c1, .slice A2 n2 c2, .int .i64 g3]
  obtain ⟨q0, q1, q2, q3⟩ := r0.four
  have B0 := Lib.hid b0
  clear b0 r0
  generalize s0.length = t0 at *
  generalize s1.length = t1 at *
  generalize s2.length = t2 at *
  go_enter Try.func15, Try.ntmps15
  go_wp2_with fail
  refine (HS0.out _ m (H0.out.below B0.out hh) hm0 hm1).mono ?_
  rintro e w1 ⟨x0, rfl, hx0, rfl⟩
  by_cases hneg0 : x0 < 0
  · go_wp2
    go_ret
    rcases hx0 with hx0 | hx0
    · omega
    · exact ⟨_, rfl, .inr ⟨by  omega, rfl⟩, B0.out⟩
  have hn0 : ¬ x0 < 0 := hneg0
  have HX0 := Lib.hid (show (t0 : Int) ≤ m ∧ x0 = m - (t0 : Int) by rcases hx0 with hx0 | hx0 <;> omega)
  have hxa0 : 0 ≤ x0 := by omega
  have hxb0 : x0 ≤ 1048576 := by have := HX0.out; omega
  clear hx0 hneg0
  go_wp2_with fail
  refine (HS1.out _ x0 (H1.out.below B0.out hh) hxa0 hxb0).mono ?_
  rintro e w2 ⟨x1, rfl, hx1, rfl⟩
  by_cases hneg1 : x1 < 0
  · go_wp2
    go_ret
    rcases hx1 with hx1 | hx1
    · omega
    · exact ⟨_, rfl, .inr ⟨by have := HX0.out; omega, rfl⟩, B0.out⟩
  have hn1 : ¬ x1 < 0 := hneg1
  have HX1 := Lib.hid (show (t1 : Int) ≤ x0 ∧ x1 = x0 - (t1 : Int) by rcases hx1 with hx1 | hx1 <;> omega)
  have hxa1 : 0 ≤ x1 := by omega
  have hxb1 : x1 ≤ 1048576 := by have := HX1.out; omega
  clear hx1 hneg1
  go_wp2_with fail
  refine (HS2.out _ x1 (H2.out.below B0.out hh) hxa1 hxb1).mono ?_
  rintro e w3 ⟨x2, rfl, hx2, rfl⟩
  by_cases hneg2 : x2 < 0
  · go_wp2
    go_ret
    rcases hx2 with hx2 | hx2
    · omega
    · exact ⟨_, rfl, .inr ⟨by have := HX0.out; have := HX1.out; omega, rfl⟩, B0.out⟩
  have hn2 : ¬ x2 < 0 := hneg2
  have HX2 := Lib.hid (show (t2 : Int) ≤ x1 ∧ x2 = x1 - (t2 : Int) by rcases hx2 with hx2 | hx2 <;> omega)
  have hxa2 : 0 ≤ x2 := by omega
  have hxb2 : x2 ≤ 1048576 := by have := HX2.out; omega
  clear hx2 hneg2
  go_wp2
  go_ret
  exact ⟨_, rfl, .inl ⟨by have := HX0.out; have := HX1.out; have := HX2.out; omega, by have := HX0.out; have := HX1.out; have := HX2.out; omega⟩, B0.out⟩
theorem szWe_any (v : Value) (T : We) (w : World) (hi : Nat) (h : WeIn w hi v T) (hh : hi ≤ w.heap.size) :
    Calls Try.prog 15 #[v, .int .i64 1048576] w (LeftPost 1048576 (T.e.length + T.b.length + T.c.length) w) := szWeM_any v T w hi 1048576 h hh (by omega) (by omega)
theorem Left.weSmall {T : We} {x : Int} (h : Left 1048576 (T.e.length + T.b.length + T.c.length) x) (h0 : ¬ x < 0) : WeSz T := by
  unfold WeSz
  rcases h with h | h <;> omega
theorem infoWe : (Try.prog.info? 27).map (·.size) = some 4 := by kernel_rfl
set_option maxHeartbeats 2000000 in
theorem toWe_any (v : Value) (T : We) (w : World) (hi : Nat) (h : WeIn w hi v T) (hh : hi ≤ w.heap.size) (hz : WeSz T) :
    Calls Try.prog 17 #[v] w fun e w' => ∃ u, e = .returned u ∧ WeOwn w' w.heap.size w'.heap.size u T ∧ Below w.heap.size w w' := by
  obtain ⟨a0, a1, a2, rfl, h0, h1, h2⟩ := h
  obtain ⟨A0, n0, c0, rfl⟩ := h0.slice
  obtain ⟨A1, n1, c1, rfl⟩ := h1.slice
  obtain ⟨A2, n2, c2, rfl⟩ := h2.slice
  have HS0 := Lib.hid (fun (W : World) (hW : NI W hi (.slice A0 n0 c0) T.e) (hs : hi ≤ W.heap.size) => toInts_any _ T.e W (hW.intsR hs) (by unfold WeSz at hz; omega))
  have HS1 := Lib.hid (fun (W : World) (hW : NB W hi (.slice A1 n1 c1) T.b) (hs : hi ≤ W.heap.size) => toBools_any _ T.b W (hW.boolsR hs) (by unfold WeSz at hz; omega))
  have HS2 := Lib.hid (fun (W : World) (hW : NI W hi (.slice A2 n2 c2) T.c) (hs : hi ≤ W.heap.size) => toInts_any _ T.c W (hW.intsR hs) (by unfold WeSz at hz; omega))
  have H0 := Lib.hid h0
  clear h0
  have H1 := Lib.hid h1
  clear h1
  have H2 := Lib.hid h2
  clear h2
  clear hz
  obtain ⟨s0, s1, s2, g3⟩ := T
  unfold wec
  simp only at *
  obtain ⟨r0, r1, r2, b0⟩ := Rw.three_new w 25 27 27 #[.slice A0 n0 c0, .slice A1 n1 c1, .slice A2 n2 c2, .int .i64 g3] #[.slice none 0 0, .slice none 0 0, .slice none 0 0, .int .i64 0] #[.slice none 0 0, .slice none 0 0, .slice none 0 0, .int .i64 0]
  obtain ⟨c0, c1, c2, c3⟩ := r0.four
  obtain ⟨d0, d1, d2, d3⟩ := r2.four
  obtain ⟨f0, f1, f2, f3, _, _, _, _⟩ := r2.frees
  have R0 := Lib.hid r0
  have R1 := Lib.hid r1
  have R2 := Lib.hid r2
  clear r0 r1 r2 b0
  go_enter Try.func17, Try.ntmps17
  go_wp2_with fail
  clear c0 c1 c2 c3 d0 d1 d2 d3 f0 f1 f2 f3
  obtain ⟨k0, k1, k2, kb⟩ := Rw.three_new w 25 27 27 #[.slice A0 n0 c0, .slice A1 n1 c1, .slice A2 n2 c2, .int .i64 g3] #[.slice none 0 0, .slice none 0 0, .slice none 0 0, .int .i64 0] #[.slice none 0 0, .slice none 0 0, .slice none 0 0, .int .i64 0]
  refine (HS0.out _ (H0.out.below kb hh) (by simp; omega)).mono ?_
  rintro e w2 ⟨u, rfl, ho, hb⟩
  simp only [World.size_setCell, World.size_alloc] at hb ho
  have k0 := k0.below hb (by omega)
  have k1 := k1.below hb (by omega)
  have k2 := k2.below hb (by omega)
  have hsz0 := hb.size
  try simp only [World.size_alloc, World.size_setCell] at hsz0
  have kb := kb.trans (hb.mono (by omega))
  obtain ⟨B0, m0, p0, rfl⟩ := ho.sliceOf'
  clear hb
  have HL0 := Lib.hid (show ∀ k, (Value.slice B0 m0 p0).ownBlock = some k → w.heap.size + 1 + 1 + 1 ≤ k ∧ k < w2.heap.size from fun k e => ho.blockOf e)
  have ho0 := ho
  clear ho
  try simp only [List.setIfInBounds_toArray, List.set_cons_zero, List.set_cons_succ] at k2
  obtain ⟨d0, d1, d2, d3⟩ := k2.four
  obtain ⟨f0, f1, f2, f3, _, _, _, _⟩ := k2.frees
  obtain ⟨e0, e1, e2, e3⟩ := k0.four
  have K0 := Lib.hid k0
  have K1 := Lib.hid k1
  have K2 := Lib.hid k2
  have KB := Lib.hid kb
  have HO0 := Lib.hid ho0
  clear ho0
  clear k0 k1 k2 kb HS0 H0
  go_wp2_with fail
  clear d0 d1 d2 d3 f0 f1 f2 f3 e0 e1 e2 e3
  have k2 := (K2.out.set_ 0 (.slice B0 m0 p0))
  have k1 := (K1.out.farA (g' := w.heap.size + 1 + 1) (k := 0) (by omega) (.slice B0 m0 p0))
  have k0 := (K0.out.farA (g' := w.heap.size + 1 + 1) (k := 0) (by omega) (.slice B0 m0 p0))
  have kb := (bset KB.out (g := w.heap.size + 1 + 1) (k := 0) (by omega) (.slice B0 m0 p0))
  have ho0 : IntsOwn (w2.setCell ⟨w.heap.size + 1 + 1, 0, none⟩ (.slice B0 m0 p0)) (w.heap.size + 1 + 1 + 1) (.slice B0 m0 p0) s0 := HO0.out.sames fun k e => by
    have := (HL0.out k e).1
    repeat rw [Below.heap_setCell _ ⟨_, _, none⟩ _ k (by simp; omega)]
  clear HO0
  clear K0 K1 K2 KB
  refine (HS1.out _ (H1.out.below kb hh) (by simp; omega)).mono ?_
  rintro e w3 ⟨u, rfl, ho, hb⟩
  simp only [World.size_setCell, World.size_alloc] at hb ho
  have k0 := k0.below hb (by omega)
  have k1 := k1.below hb (by omega)
  have k2 := k2.below hb (by omega)
  have hsz1 := hb.size
  try simp only [World.size_alloc, World.size_setCell] at hsz1
  have kb := kb.trans (hb.mono (by omega))
  have ho0 := ho0.later hb (by simp)
  obtain ⟨B1, m1, p1, rfl⟩ := ho.sliceOf
  clear hb
  have HL1 := Lib.hid (show ∀ k, (Value.slice B1 m1 p1).ownBlock = some k → w2.heap.size ≤ k ∧ k < w3.heap.size from fun k e => ho.blockOf e)
  have ho1 := ho
  clear ho
  try simp only [List.setIfInBounds_toArray, List.set_cons_zero, List.set_cons_succ] at k2
  obtain ⟨d0, d1, d2, d3⟩ := k2.four
  obtain ⟨f0, f1, f2, f3, _, _, _, _⟩ := k2.frees
  obtain ⟨e0, e1, e2, e3⟩ := k0.four
  have K0 := Lib.hid k0
  have K1 := Lib.hid k1
  have K2 := Lib.hid k2
  have KB := Lib.hid kb
  have HO0 := Lib.hid ho0
  clear ho0
  have HO1 := Lib.hid ho1
  clear ho1
  clear k0 k1 k2 kb HS1 H1
  go_wp2_with fail
  clear d0 d1 d2 d3 f0 f1 f2 f3 e0 e1 e2 e3
  have k2 := (K2.out.set_ 1 (.slice B1 m1 p1))
  have k1 := (K1.out.farA (g' := w.heap.size + 1 + 1) (k := 1) (by omega) (.slice B1 m1 p1))
  have k0 := (K0.out.farA (g' := w.heap.size + 1 + 1) (k := 1) (by omega) (.slice B1 m1 p1))
  have kb := (bset KB.out (g := w.heap.size + 1 + 1) (k := 1) (by omega) (.slice B1 m1 p1))
  have ho0 : IntsOwn (w3.setCell ⟨w.heap.size + 1 + 1, 1, none⟩ (.slice B1 m1 p1)) (w.heap.size + 1 + 1 + 1) (.slice B0 m0 p0) s0 := HO0.out.sames fun k e => by
    have := (HL0.out k e).1
    repeat rw [Below.heap_setCell _ ⟨_, _, none⟩ _ k (by simp; omega)]
  clear HO0
  have ho1 : BoolsOwn (w3.setCell ⟨w.heap.size + 1 + 1, 1, none⟩ (.slice B1 m1 p1)) (w2.heap.size) (.slice B1 m1 p1) s1 := HO1.out.sames fun k e => by
    have := (HL1.out k e).1
    repeat rw [Below.heap_setCell _ ⟨_, _, none⟩ _ k (by simp; omega)]
  clear HO1
  clear K0 K1 K2 KB
  refine (HS2.out _ (H2.out.below kb hh) (by simp; omega)).mono ?_
  rintro e w4 ⟨u, rfl, ho, hb⟩
  simp only [World.size_setCell, World.size_alloc] at hb ho
  have k0 := k0.below hb (by omega)
  have k1 := k1.below hb (by omega)
  have k2 := k2.below hb (by omega)
  have hsz2 := hb.size
  try simp only [World.size_alloc, World.size_setCell] at hsz2
  have kb := kb.trans (hb.mono (by omega))
  have ho0 := ho0.later hb (by simp)
  have ho1 := ho1.later hb (by simp)
  obtain ⟨B2, m2, p2, rfl⟩ := ho.sliceOf'
  clear hb
  have HL2 := Lib.hid (show ∀ k, (Value.slice B2 m2 p2).ownBlock = some k → w3.heap.size ≤ k ∧ k < w4.heap.size from fun k e => ho.blockOf e)
  have ho2 := ho
  clear ho
  try simp only [List.setIfInBounds_toArray, List.set_cons_zero, List.set_cons_succ] at k2
  obtain ⟨d0, d1, d2, d3⟩ := k2.four
  obtain ⟨f0, f1, f2, f3, _, _, _, _⟩ := k2.frees
  obtain ⟨e0, e1, e2, e3⟩ := k1.four
  obtain ⟨h0, h1, h2, h3, _, _, _, _⟩ := k1.frees
  obtain ⟨y0, y1, y2, y3⟩ := k0.four
  have M1 := Lib.hid k1
  have MB := Lib.hid kb
  have HO0 := Lib.hid ho0
  clear ho0
  have HO1 := Lib.hid ho1
  clear ho1
  have HO2 := Lib.hid ho2
  clear ho2
  clear k0 k1 k2 kb
  clear HS2 H2
  go_wp2
  refine bodyPost_ret (results_cell_row Try.results17 _ _ _ _ #[.slice B0 m0 p0, .slice B1 m1 p1, .slice B2 m2 p2, .int .i64 g3] _ _ rfl
    ((((((M1.out.farA (by omega) _).farA (by omega) _).set_ 0 _).set_ 1 _).set_ 2 _).set_ 3 _) Try.underlying27 rfl infoWe) rfl ?_
  refine ⟨_, rfl, ⟨_, _, _, rfl, ⟨(HO0.out.sames fun k e => ?_).low (by omega), fun k e => ?_⟩, ⟨(HO1.out.sames fun k e => ?_).low (by omega), fun k e => ?_⟩, ⟨(HO2.out.sames fun k e => ?_).low (by omega), fun k e => ?_⟩, ?_, ?_, ?_⟩, ?_⟩
  · have := (HL0.out k e).1
    repeat rw [Below.heap_setCell _ ⟨_, _, none⟩ _ k (by simp; omega)]
  · have := HL0.out k e; simp; omega
  · have := (HL1.out k e).1
    repeat rw [Below.heap_setCell _ ⟨_, _, none⟩ _ k (by simp; omega)]
  · have := HL1.out k e; simp; omega
  · have := (HL2.out k e).1
    repeat rw [Below.heap_setCell _ ⟨_, _, none⟩ _ k (by simp; omega)]
  · have := HL2.out k e; simp; omega
  · cases hq : (Value.slice B0 m0 p0).ownBlock with
    | none => exact .inl rfl
    | some k => exact .inr fun e => by have := HL0.out k hq; have := HL1.out k e.symm; omega
  · cases hq : (Value.slice B0 m0 p0).ownBlock with
    | none => exact .inl rfl
    | some k => exact .inr fun e => by have := HL0.out k hq; have := HL2.out k e.symm; omega
  · cases hq : (Value.slice B1 m1 p1).ownBlock with
    | none => exact .inl rfl
    | some k => exact .inr fun e => by have := HL1.out k hq; have := HL2.out k e.symm; omega
  · repeat refine bset ?_ (by omega) _
    exact MB.out
set_option maxHeartbeats 1000000 in
theorem eqWe_any (u v : Value) (T : We) (w : World) (hi hi' : Nat) (hu : WeIn w hi u T) (hv : WeIn w hi' v T) (h1 : hi ≤ w.heap.size) (h2 : hi' ≤ w.heap.size) (hz : WeSz T) :
    Calls Try.prog 19 #[u, v] w fun e w' => e = .returned (.bool true) ∧ Below w.heap.size w w' := by
  obtain ⟨a0, a1, a2, rfl, ha0, ha1, ha2⟩ := hu
  obtain ⟨x0, x1, x2, rfl, hx0, hx1, hx2⟩ := hv
  have HS0 := Lib.hid (fun (W : World) (p : NI W hi a0 T.e) (q : NI W hi' x0 T.e) (c : hi ≤ W.heap.size) (d : hi' ≤ W.heap.size) => eqInts_any a0 x0 T.e W (p.ints c) (q.ints d) (by unfold WeSz at hz; omega))
  have HS1 := Lib.hid (fun (W : World) (p : NB W hi a1 T.b) (q : NB W hi' x1 T.b) (c : hi ≤ W.heap.size) (d : hi' ≤ W.heap.size) => eqBools_any a1 x1 T.b W (p.bools c) (q.bools d) (by unfold WeSz at hz; omega))
  have HS2 := Lib.hid (fun (W : World) (p : NI W hi a2 T.c) (q : NI W hi' x2 T.c) (c : hi ≤ W.heap.size) (d : hi' ≤ W.heap.size) => eqInts_any a2 x2 T.c W (p.ints c) (q.ints d) (by unfold WeSz at hz; omega))
  have HA0 := Lib.hid ha0
  have HX0 := Lib.hid hx0
  clear ha0 hx0
  have HA1 := Lib.hid ha1
  have HX1 := Lib.hid hx1
  clear ha1 hx1
  have HA2 := Lib.hid ha2
  have HX2 := Lib.hid hx2
  clear ha2 hx2
  clear hz
  obtain ⟨s0, s1, s2, g3⟩ := T
  unfold wec
  simp only at *
  have n3 : (g3 != g3) = false := by simp
  obtain ⟨r0, r1, b0⟩ := Rw.two_new w 27 27 #[a0, a1, a2, .int .i64 g3] #[x0, x1, x2, .int .i64 g3]
  obtain ⟨c0, c1, c2, c3⟩ := r0.four
  obtain ⟨d0, d1, d2, d3⟩ := r1.four
  have S0 := Lib.hid r0
  have S1 := Lib.hid r1
  have BB := Lib.hid b0
  clear b0 r0 r1
  go_enter Try.func19, Try.ntmps19
  go_wp2_with fail
  refine (HS0.out _ (HA0.out.below BB.out h1) (HX0.out.below BB.out h2) (by have := BB.out.size; omega) (by have := BB.out.size; omega)).mono ?_
  rintro e w2 ⟨rfl, hb⟩
  simp only [World.size_alloc] at hb
  have r0 := S0.out.below hb (by have := S0.out.lt; simp only [World.size_alloc] at this; omega)
  have r1 := S1.out.below hb (by have := S1.out.lt; simp only [World.size_alloc] at this; omega)
  have BB' := Lib.hid (BB.out.trans (hb.mono (by have := BB.out.size; omega)))
  clear c0 c1 c2 c3 d0 d1 d2 d3 hb S0 S1 BB HS0 HA0 HX0
  have BB := BB'
  clear BB'
  obtain ⟨c0, c1, c2, c3⟩ := r0.four
  obtain ⟨d0, d1, d2, d3⟩ := r1.four
  have S0 := Lib.hid r0
  have S1 := Lib.hid r1
  clear r0 r1
  go_wp2_with fail
  refine (HS1.out _ (HA1.out.below BB.out h1) (HX1.out.below BB.out h2) (by have := BB.out.size; omega) (by have := BB.out.size; omega)).mono ?_
  rintro e w3 ⟨rfl, hb⟩
  have r0 := S0.out.below hb S0.out.lt
  have r1 := S1.out.below hb S1.out.lt
  have BB' := Lib.hid (BB.out.trans (hb.mono (by have := BB.out.size; omega)))
  clear c0 c1 c2 c3 d0 d1 d2 d3 hb S0 S1 BB HS1 HA1 HX1
  have BB := BB'
  clear BB'
  obtain ⟨c0, c1, c2, c3⟩ := r0.four
  obtain ⟨d0, d1, d2, d3⟩ := r1.four
  have S0 := Lib.hid r0
  have S1 := Lib.hid r1
  clear r0 r1
  go_wp2_with fail
  refine (HS2.out _ (HA2.out.below BB.out h1) (HX2.out.below BB.out h2) (by have := BB.out.size; omega) (by have := BB.out.size; omega)).mono ?_
  rintro e w4 ⟨rfl, hb⟩
  have r0 := S0.out.below hb S0.out.lt
  have r1 := S1.out.below hb S1.out.lt
  have BB' := Lib.hid (BB.out.trans (hb.mono (by have := BB.out.size; omega)))
  clear c0 c1 c2 c3 d0 d1 d2 d3 hb S0 S1 BB HS2 HA2 HX2
  have BB := BB'
  clear BB'
  obtain ⟨c0, c1, c2, c3⟩ := r0.four
  obtain ⟨d0, d1, d2, d3⟩ := r1.four
  have S0 := Lib.hid r0
  have S1 := Lib.hid r1
  clear r0 r1
  go_wp2
  go_ret
  exact ⟨rfl, BB.out⟩
end Go.Proofs.Ytainlanblpccjaa
/- Wear that comes in as an argument of a law, opened: what is known of it. -/
namespace Go.Proofs.Ytainlanblpccjaa
open Go.RowKit Go.ChangeShapes Go.WideShapes
set_option linter.unusedVariables false
def WeW (M : We) : Prop := WfI M.n ∧ WfL M.e ∧ WfL M.c
section
variable {H : Type} {enc : TypeId × Value → H} {W : World} {sp : Nat → Bool} {held : Bool}
theorem cellsLWe : Try.prog.cellsOf 25 = 4 := by kernel_rfl
theorem cellsWeb : Try.prog.cellsOf 23 = 1 := by kernel_rfl
theorem cellsWei : Try.prog.cellsOf 2 = 1 := by kernel_rfl
theorem cellsWel : Try.prog.cellsOf 22 = 1 := by kernel_rfl
theorem listWe {α : Type} {l : List α} (h : l.length = 4) : ∃ x0 x1 x2 x3, l = [x0, x1, x2, x3] := by
  match l, h with
  | [x0, x1, x2, x3], _ => exact ⟨x0, x1, x2, x3, rfl⟩
theorem open_we {fuel : Nat} {cs : List Value} {x : DataW H × List MemPlace} (h : DataW.trod enc Try.prog W 0 sp held fuel 25 cs = some x) : ∃ M : We, WeIn W W.heap.size (.agg cs.toArray) M ∧ WeW M := by
  obtain ⟨hl, hf⟩ := field_of Try.underlying25 h
  rw [cellsLWe] at hl
  obtain ⟨v0, v1, v2, v3, rfl⟩ := listWe hl
  obtain ⟨n0, y0, h0⟩ := hf 0 _ rfl
  obtain ⟨n1, y1, h1⟩ := hf 1 _ rfl
  obtain ⟨n2, y2, h2⟩ := hf 2 _ rfl
  obtain ⟨n3, y3, h3⟩ := hf 3 _ rfl
  simp [cellsWeb, cellsWei, cellsWel] at h0 h1 h2 h3
  obtain ⟨i0, hL0, w0⟩ := open_ints1 h0
  obtain ⟨i1, hL1⟩ := open_bools1 h1
  obtain ⟨i2, hL2, w2⟩ := open_ints1 h2
  obtain ⟨i3, rfl, w3⟩ := open_int1 h3
  exact ⟨⟨i0, i1, i2, i3⟩, ⟨v0, v1, v2, rfl, hL0, hL1, hL2⟩, w3, w0, w2⟩
end
end Go.Proofs.Ytainlanblpccjaa
