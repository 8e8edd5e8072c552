/- The proof's own lemmas, part 19: TbA. -/
import Derived.Test.YtainlanblpccjaaProg
import Derived.Test.YtainlanblpccjaaMg6
import Derived.Test.YtainlanblpccjaaMg17
import Derived.RegionTactic
import Derived.Deep.RegionHeld3
/- The laws' helpers over tables of bad blocks: copies, comparisons. -/
namespace Go.Proofs.Ytainlanblpccjaa
open Go.RowKit
set_option linter.unusedVariables false
set_option linter.unusedSimpArgs false
theorem infoTb : (Try.prog.info? 75).map (·.size) = some 6 := by kernel_rfl
theorem IntsOwn.sliceOf {w : World} {B : Nat} {v : Value} {l : List Int} (h : IntsOwn w B v l) : ∃ A n c, v = .slice A n c := by
  rcases h.shape with ⟨rfl, _⟩ | ⟨g, cap, rfl, _⟩ <;> exact ⟨_, _, _, rfl⟩
set_option maxHeartbeats 2000000 in
theorem toTb_any (v : Value) (T : Tb) (w : World) (hi : Nat) (h : TbIn w hi v T) (hh : hi ≤ w.heap.size) (hz : TbSz T) :
    Calls Try.prog 62 #[v] w fun e w' => ∃ u, e = .returned u ∧ TbOwn w' w.heap.size w'.heap.size u T ∧ Below w.heap.size w w' := by
  obtain ⟨a, b, rfl, h1, h2⟩ := h
  obtain ⟨A, n, c, rfl⟩ := h1.slice
  obtain ⟨A', n', c', rfl⟩ := h2.slice
  have HS1 := Lib.hid (fun (W : World) (hW : NI W hi (.slice A n c) T.bad) (hs : hi ≤ W.heap.size) => toInts_any _ T.bad W (hW.intsR hs) (by unfold TbSz at hz; omega))
  have HS2 := Lib.hid (fun (W : World) (hW : NI W hi (.slice A' n' c') T.rm) (hs : hi ≤ W.heap.size) => toInts_any _ T.rm W (hW.intsR hs) (by unfold TbSz at hz; omega))
  have H1 := Lib.hid h1
  have H2 := Lib.hid h2
  clear h1 h2 hz
  obtain ⟨d, bb, p, sp, bad, rm⟩ := T
  unfold tbc
  simp only at *
  go_enter Try.func62, Try.ntmps62
  go_wp2_with fail
  refine (toGeometry_any d bb p _).mono ?_
  rintro e w1 ⟨rfl, hb1⟩
  obtain ⟨r0, r1, r2, b0⟩ := Rw.three_new w 85 75 75 #[.int .i64 d, .int .i64 bb, .int .i64 p, .int .i64 sp, .slice A n c, .slice A' n' c']
    #[.int .i64 0, .int .i64 0, .int .i64 0, .int .i64 0, .slice none 0 0, .slice none 0 0] #[.int .i64 0, .int .i64 0, .int .i64 0, .int .i64 0, .slice none 0 0, .slice none 0 0]
  simp only [World.size_alloc] at hb1
  have r0 := r0.below hb1 (by omega)
  have r1 := r1.below hb1 (by omega)
  have r2 := r2.below hb1 (by omega)
  have B1 := b0.trans (hb1.mono (by omega))
  have hsz1 := hb1.size
  try simp only [World.size_alloc, World.size_setCell] at hsz1
  clear b0 hb1
  obtain ⟨c0, c1, c2, c3, c4, c5⟩ := r0.six
  obtain ⟨d0, d1, d2, d3, d4, d5⟩ := r2.six
  obtain ⟨f0, f1, f2, f3, f4, f5, _, _⟩ := r2.frees
  have R0 := Lib.hid r0
  have R1 := Lib.hid r1
  have R2 := Lib.hid r2
  have HB1 := Lib.hid B1
  clear r0 r1 r2 B1
  go_wp2_with fail
  clear c0 c1 c2 c3 c4 c5 d0 d1 d2 d3 d4 d5 f0 f1 f2 f3 f4 f5
  have k2 := (((R2.out.set_ 0 (.int .i64 d)).set_ 1 (.int .i64 bb)).set_ 2 (.int .i64 p)).set_ 3 (.int .i64 sp)
  have k0 := (((R0.out.farA (g' := w.heap.size + 1 + 1) (k := 0) (by omega) (.int .i64 d)).farA (g' := w.heap.size + 1 + 1) (k := 1) (by omega) (.int .i64 bb)).farA (g' := w.heap.size + 1 + 1) (k := 2) (by omega) (.int .i64 p)).farA (g' := w.heap.size + 1 + 1) (k := 3) (by omega) (.int .i64 sp)
  have k1 := (((R1.out.farA (g' := w.heap.size + 1 + 1) (k := 0) (by omega) (.int .i64 d)).farA (g' := w.heap.size + 1 + 1) (k := 1) (by omega) (.int .i64 bb)).farA (g' := w.heap.size + 1 + 1) (k := 2) (by omega) (.int .i64 p)).farA (g' := w.heap.size + 1 + 1) (k := 3) (by omega) (.int .i64 sp)
  have kb := bset (bset (bset (bset HB1.out (g := w.heap.size + 1 + 1) (k := 0) (by omega) (.int .i64 d)) (g := w.heap.size + 1 + 1) (k := 1) (by omega) (.int .i64 bb)) (g := w.heap.size + 1 + 1) (k := 2) (by omega) (.int .i64 p)) (g := w.heap.size + 1 + 1) (k := 3) (by omega) (.int .i64 sp)
  refine (HS1.out _ (H1.out.below kb hh) (by simp; omega)).mono ?_
  rintro e w2 ⟨u2, rfl, ho, hb2⟩
  simp only [World.size_setCell] at hb2 ho
  have k0 := k0.below hb2 (by omega)
  have k1 := k1.below hb2 (by omega)
  have k2 := k2.below hb2 (by omega)
  have hsz2 := hb2.size
  try simp only [World.size_alloc, World.size_setCell] at hsz2
  have kb := kb.trans (hb2.mono (by omega))
  clear hb2
  obtain ⟨B, m, cp, rfl⟩ := ho.sliceOf
  simp only [List.setIfInBounds_toArray, List.set_cons_zero, List.set_cons_succ] at k2
  obtain ⟨c0, c1, c2, c3, c4, c5⟩ := k0.six
  obtain ⟨d0, d1, d2, d3, d4, d5⟩ := k2.six
  obtain ⟨f0, f1, f2, f3, f4, f5, _, _⟩ := k2.frees
  have K0 := Lib.hid k0
  have K1 := Lib.hid k1
  have K2 := Lib.hid k2
  have KB := Lib.hid kb
  have HO := Lib.hid ho
  clear k0 k1 k2 kb ho HB1 R0 R1 R2 HS1 H1
  go_wp2_with fail
  clear c0 c1 c2 c3 c4 c5 d0 d1 d2 d3 d4 d5 f0 f1 f2 f3 f4 f5
  have k2 := K2.out.set_ 4 (.slice B m cp)
  have k1 := K1.out.farA (g' := w.heap.size + 1 + 1) (k := 4) (by omega) (.slice B m cp)
  have kb := bset KB.out (g := w.heap.size + 1 + 1) (k := 4) (by omega) (.slice B m cp)
  have ho : IntsOwn (w2.setCell ⟨w.heap.size + 1 + 1, 4, none⟩ (.slice B m cp)) w1.heap.size (.slice B m cp) bad := HO.out.sames fun k e => Below.heap_setCell w2 ⟨w.heap.size + 1 + 1, 4, none⟩ _ k (by have := (HO.out.blockOf e).1; simp; omega)
  refine (HS2.out _ (H2.out.below kb hh) (by simp; omega)).mono ?_
  rintro e w3 ⟨u3, rfl, ho3, hb3⟩
  simp only [World.size_setCell] at hb3 ho3
  have k1 := k1.below hb3 (by omega)
  have k2 := k2.below hb3 (by omega)
  have hsz3 := hb3.size
  try simp only [World.size_alloc, World.size_setCell] at hsz3
  have kb := kb.trans (hb3.mono (by omega))
  have hlt : ∀ k, (Value.slice B m cp).ownBlock = some k → w1.heap.size ≤ k ∧ k < w2.heap.size := fun k e => HO.out.blockOf e
  have ho := ho.later hb3 (by simp)
  clear hb3
  obtain ⟨B', m', cp', rfl⟩ := ho3.sliceOf
  simp only [List.setIfInBounds_toArray, List.set_cons_zero, List.set_cons_succ] at k2
  obtain ⟨d0, d1, d2, d3, d4, d5⟩ := k2.six
  obtain ⟨f0, f1, f2, f3, f4, f5, _, _⟩ := k2.frees
  obtain ⟨e0, e1, e2, e3, e4, e5⟩ := k1.six
  obtain ⟨g0, g1, g2, g3, g4, g5, _, _⟩ := k1.frees
  have M1 := Lib.hid k1
  have MB := Lib.hid kb
  have HO2 := Lib.hid ho
  have HO3 := Lib.hid ho3
  have HL := Lib.hid hlt
  clear k1 k2 kb ho ho3 hlt HS2 H2 K0 K1 K2 KB HO
  go_wp2
  refine bodyPost_ret (results_cell_row Try.results62 _ _ _ _ #[.int .i64 d, .int .i64 bb, .int .i64 p, .int .i64 sp, .slice B m cp, .slice B' m' cp'] _ _ rfl
    (((((((M1.out.farA (by omega) _).set_ 0 _).set_ 1 _).set_ 2 _).set_ 3 _).set_ 4 _).set_ 5 _) Try.underlying75 rfl infoTb) rfl ?_
  have keep : ∀ k, w1.heap.size ≤ k → (((((((w3.setCell ⟨w.heap.size + 1 + 1, 5, none⟩ (.slice B' m' cp')).setCell ⟨w.heap.size + 1, 0, none⟩ (.int .i64 d)).setCell ⟨w.heap.size + 1, 1, none⟩ (.int .i64 bb)).setCell ⟨w.heap.size + 1, 2, none⟩ (.int .i64 p)).setCell ⟨w.heap.size + 1, 3, none⟩ (.int .i64 sp)).setCell ⟨w.heap.size + 1, 4, none⟩ (.slice B m cp)).setCell ⟨w.heap.size + 1, 5, none⟩ (.slice B' m' cp')).heap[k]? = w3.heap[k]? := by
    intro k hk
    repeat rw [Below.heap_setCell _ ⟨_, _, none⟩ _ k (by simp; omega)]
  refine ⟨_, rfl, ⟨_, _, rfl, ⟨(HO2.out.sames fun k e => keep k (HL.out k e).1).low (by omega), fun k e => ?_⟩, ⟨(HO3.out.sames fun k e => keep k (by have := (HO3.out.blockOf e).1; omega)).low (by omega), fun k e => ?_⟩, ?_⟩, ?_⟩
  · have := HL.out k e; simp; omega
  · have := (HO3.out.blockOf e).2; simpa using this
  · cases hq : (Value.slice B m cp).ownBlock with
    | none => exact .inl rfl
    | some k => exact .inr fun e => by have := HL.out k hq; have := (HO3.out.blockOf e.symm).1; omega
  · repeat refine bset ?_ (by omega) _
    exact MB.out
set_option maxHeartbeats 1000000 in
theorem eqTb_any (u v : Value) (T : Tb) (w : World) (hi hi' : Nat) (hu : TbIn w hi u T) (hv : TbIn w hi' v T) (h1 : hi ≤ w.heap.size) (h2 : hi' ≤ w.heap.size) (hz : TbSz T) :
    Calls Try.prog 55 #[u, v] w fun e w' => e = .returned (.bool true) ∧ Below w.heap.size w w' := by
  obtain ⟨a, b, rfl, ha, hb⟩ := hu
  obtain ⟨x, y, rfl, hx, hy⟩ := hv
  have HS := Lib.hid (fun (W : World) (p : NI W hi a T.bad) (q : NI W hi' x T.bad) (c : hi ≤ W.heap.size) (d : hi' ≤ W.heap.size) => eqInts_any a x T.bad W (p.ints c) (q.ints d) (by unfold TbSz at hz; omega))
  have HT := Lib.hid (fun (W : World) (p : NI W hi b T.rm) (q : NI W hi' y T.rm) (c : hi ≤ W.heap.size) (d : hi' ≤ W.heap.size) => eqInts_any b y T.rm W (p.ints c) (q.ints d) (by unfold TbSz at hz; omega))
  have HA := Lib.hid ha
  have HB := Lib.hid hb
  have HX := Lib.hid hx
  have HY := Lib.hid hy
  clear ha hb hx hy hz
  obtain ⟨d, bb, p, sp, bad, rm⟩ := T
  unfold tbc
  simp only at *
  have n1 : (sp != sp) = false := by simp
  obtain ⟨r0, r1, b0⟩ := Rw.two_new w 75 75 #[.int .i64 d, .int .i64 bb, .int .i64 p, .int .i64 sp, a, b] #[.int .i64 d, .int .i64 bb, .int .i64 p, .int .i64 sp, x, y]
  have R0 := Lib.hid r0
  have R1 := Lib.hid r1
  have BB := Lib.hid b0
  clear b0 r0 r1
  go_enter Try.func55, Try.ntmps55
  go_wp2_with fail
  refine (eqGeometry_any d bb p _).mono ?_
  rintro e w1 ⟨rfl, hb1⟩
  simp only [World.size_alloc] at hb1
  have r0 := R0.out.below hb1 (by omega)
  have r1 := R1.out.below hb1 (by omega)
  have BB1 := Lib.hid (BB.out.trans (hb1.mono (by omega)))
  have hsz := hb1.size
  try simp only [World.size_alloc, World.size_setCell] at hsz
  obtain ⟨c0, c1, c2, c3, c4, c5⟩ := r0.six
  obtain ⟨d0, d1, d2, d3, d4, d5⟩ := r1.six
  clear hb1 R0 R1 BB
  have S0 := Lib.hid r0
  have S1 := Lib.hid r1
  clear r0 r1
  go_wp2_with fail
  refine (HS.out _ (HA.out.below BB1.out h1) (HX.out.below BB1.out h2) (by omega) (by omega)).mono ?_
  rintro e w2 ⟨rfl, hb2⟩
  have r0 := S0.out.below hb2 (by omega)
  have r1 := S1.out.below hb2 (by omega)
  have hsz2 := hb2.size
  try simp only [World.size_alloc, World.size_setCell] at hsz2
  have BB2 := Lib.hid (BB1.out.trans (hb2.mono (by omega)))
  clear c0 c1 c2 c3 c4 c5 d0 d1 d2 d3 d4 d5 hb2 S0 S1 BB1
  obtain ⟨c0, c1, c2, c3, c4, c5⟩ := r0.six
  obtain ⟨d0, d1, d2, d3, d4, d5⟩ := r1.six
  clear r0 r1
  go_wp2_with fail
  refine (HT.out _ (HB.out.below BB2.out h1) (HY.out.below BB2.out h2) (by omega) (by omega)).mono ?_
  rintro e w3 ⟨rfl, hb3⟩
  have BB3 := Lib.hid (BB2.out.trans (hb3.mono (by omega)))
  clear c0 c1 c2 c3 c4 c5 d0 d1 d2 d3 d4 d5 hb3
  go_wp2
  go_ret
  exact ⟨rfl, BB3.out⟩
end Go.Proofs.Ytainlanblpccjaa
