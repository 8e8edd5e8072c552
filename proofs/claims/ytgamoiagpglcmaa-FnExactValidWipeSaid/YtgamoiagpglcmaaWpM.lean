/- Wipe in memory; what the laws' helpers for it do. -/
import Derived.Test.YtgamoiagpglcmaaProg
import Derived.Test.YtgamoiagpglcmaaWpN
import Derived.Test.YtgamoiagpglcmaaTbM
import Derived.Test.YtgamoiagpglcmaaBoo
import Derived.Test.YtgamoiagpglcmaaPmM
import Derived.Test.YtgamoiagpglcmaaRwX
import Derived.RegionTactic
import Derived.Deep.RegionHeld3
namespace Go.Proofs.Ytgamoiagpglcmaa
open Go.RowKit
set_option linter.unusedVariables false
set_option linter.unusedSimpArgs false
def wpc (M : Wp) (u0 : Value) : Array Value := #[u0, .int .i64 M.d]
def WpIn (w : World) (hi : Nat) (v : Value) (M : Wp) : Prop := ∃ a0, v = .agg (wpc M a0) ∧ NI w hi a0 M.b
def WpOwn (w : World) (lo hi : Nat) (v : Value) (M : Wp) : Prop := ∃ a0, v = .agg (wpc M a0) ∧ IO w lo hi a0 M.b
section
variable {w w' : World} {lo hi lo' hi' B : Nat} {v : Value} {M : Wp}
theorem WpIn.below (h : WpIn w hi v M) (hb : Below B w w') (hB : hi ≤ B) : WpIn w' hi v M := by
  obtain ⟨a0, e, h0⟩ := h; exact ⟨a0, e, h0.below hb hB⟩
theorem WpIn.same (h : WpIn w hi v M) (hs : Same 0 hi w w') : WpIn w' hi v M := by
  obtain ⟨a0, e, h0⟩ := h; exact ⟨a0, e, h0.same hs⟩
theorem WpIn.wide (h : WpIn w hi v M) (hh : hi ≤ hi') : WpIn w hi' v M := by
  obtain ⟨a0, e, h0⟩ := h; exact ⟨a0, e, h0.wide hh⟩
theorem WpOwn.reads (h : WpOwn w lo hi v M) : WpIn w hi v M := by
  obtain ⟨a0, e, h0⟩ := h; exact ⟨a0, e, h0.reads⟩
theorem WpOwn.same (h : WpOwn w lo hi v M) (hs : Same lo hi w w') : WpOwn w' lo hi v M := by
  obtain ⟨a0, e, h0⟩ := h; exact ⟨a0, e, h0.same hs⟩
theorem WpOwn.wide (h : WpOwn w lo hi v M) (hl : lo' ≤ lo) (hh : hi ≤ hi') : WpOwn w lo' hi' v M := by
  obtain ⟨a0, e, h0⟩ := h; exact ⟨a0, e, h0.wide hl hh⟩
theorem WpOwn.zero (w : World) (lo hi : Nat) : WpOwn w lo hi (.agg #[.slice none 0 0, .int .i64 0]) Wp.zero := ⟨_, rfl, IO.nil _ _ _⟩
theorem WpIn.agg_ (h : WpIn w hi v M) : ∃ (A0 : Option Addr) (n0 c0 : Nat) (g1 : Int), v = .agg #[.slice A0 n0 c0, .int .i64 g1] := by
  obtain ⟨a0, e, h0⟩ := h
  obtain ⟨A0, n0, c0, rfl⟩ := h0.slice
  exact ⟨_, _, _, _, e⟩
theorem WpOwn.agg_ (h : WpOwn w lo hi v M) : ∃ (A0 : Option Addr) (n0 c0 : Nat) (g1 : Int), v = .agg #[.slice A0 n0 c0, .int .i64 g1] := h.reads.agg_
end
set_option maxHeartbeats 1000000 in
theorem szWpM_any (v : Value) (T : Wp) (w : World) (hi : Nat) (m : Int) (h : WpIn w hi v T) (hh : hi ≤ w.heap.size) (hm0 : 0 ≤ m) (hm1 : m ≤ 1048576) :
    Calls Try.prog 60 #[v, .int .i64 m] w (LeftPost m (T.b.length) w) := by
  obtain ⟨a0, rfl, h0⟩ := h
  obtain ⟨A0, n0, c0, rfl⟩ := h0.slice
  have HS0 := Lib.hid (fun (W : World) (mm : Int) (hW : NI W hi (.slice A0 n0 c0) T.b) (p : 0 ≤ mm) (q : mm ≤ 1048576) => szInts_any _ T.b W hi mm hW p q)
  have H0 := Lib.hid h0
  clear h0
  obtain ⟨s0, g1⟩ := T
  unfold wpc
  simp only at *
  have b0 := (Below.refl w.heap.size w).alloc (Nat.le_refl _) (.cells #[.slice A0 n0 c0, .int .i64 g1] 84)
  have r0 := Rw.new w 84 #[.slice A0 n0 c0, .int .i64 g1]
  obtain ⟨q0, q1⟩ := r0.two_
  have B0 := Lib.hid b0
  clear b0 r0
  generalize s0.length = t0 at *
  go_enter Try.func60, Try.ntmps60
  go_wp2_with fail
  refine (HS0.out _ m (H0.out.below B0.out hh) hm0 hm1).mono ?_
  rintro e w1 ⟨x0, rfl, hx0, rfl⟩
  by_cases hneg0 : x0 < 0
  · go_wp2
    go_ret
    rcases hx0 with hx0 | hx0
    · omega
    · exact ⟨_, rfl, .inr ⟨by  omega, rfl⟩, B0.out⟩
  have hn0 : ¬ x0 < 0 := hneg0
  have HX0 := Lib.hid (show (t0 : Int) ≤ m ∧ x0 = m - (t0 : Int) by rcases hx0 with hx0 | hx0 <;> omega)
  have hxa0 : 0 ≤ x0 := by omega
  have hxb0 : x0 ≤ 1048576 := by have := HX0.out; omega
  clear hx0 hneg0
  go_wp2
  go_ret
  exact ⟨_, rfl, .inl ⟨by have := HX0.out; omega, by have := HX0.out; omega⟩, B0.out⟩
theorem szWp_any (v : Value) (T : Wp) (w : World) (hi : Nat) (h : WpIn w hi v T) (hh : hi ≤ w.heap.size) :
    Calls Try.prog 60 #[v, .int .i64 1048576] w (LeftPost 1048576 (T.b.length) w) := szWpM_any v T w hi 1048576 h hh (by omega) (by omega)
theorem Left.wpSmall {T : Wp} {x : Int} (h : Left 1048576 (T.b.length) x) (h0 : ¬ x < 0) : WpSz T := by
  unfold WpSz
  rcases h with h | h <;> omega
theorem infoWp : (Try.prog.info? 87).map (·.size) = some 2 := by kernel_rfl
set_option maxHeartbeats 2000000 in
theorem toWp_any (v : Value) (T : Wp) (w : World) (hi : Nat) (h : WpIn w hi v T) (hh : hi ≤ w.heap.size) (hz : WpSz T) :
    Calls Try.prog 62 #[v] w fun e w' => ∃ u, e = .returned u ∧ WpOwn w' w.heap.size w'.heap.size u T ∧ Below w.heap.size w w' := by
  obtain ⟨a0, rfl, h0⟩ := h
  obtain ⟨A0, n0, c0, rfl⟩ := h0.slice
  have HS0 := Lib.hid (fun (W : World) (hW : NI W hi (.slice A0 n0 c0) T.b) (hs : hi ≤ W.heap.size) => toInts_any _ T.b W (hW.intsR hs) (by unfold WpSz at hz; omega))
  have H0 := Lib.hid h0
  clear h0
  clear hz
  obtain ⟨s0, g1⟩ := T
  unfold wpc
  simp only at *
  obtain ⟨r0, r1, r2, b0⟩ := Rw.three_new w 84 87 87 #[.slice A0 n0 c0, .int .i64 g1] #[.slice none 0 0, .int .i64 0] #[.slice none 0 0, .int .i64 0]
  obtain ⟨c0, c1⟩ := r0.two_
  obtain ⟨d0, d1⟩ := r2.two_
  obtain ⟨f0, f1, _, _, _, _, _, _⟩ := r2.frees
  have R0 := Lib.hid r0
  have R1 := Lib.hid r1
  have R2 := Lib.hid r2
  clear r0 r1 r2 b0
  go_enter Try.func62, Try.ntmps62
  go_wp2_with fail
  clear c0 c1 d0 d1 f0 f1
  obtain ⟨k0, k1, k2, kb⟩ := Rw.three_new w 84 87 87 #[.slice A0 n0 c0, .int .i64 g1] #[.slice none 0 0, .int .i64 0] #[.slice none 0 0, .int .i64 0]
  refine (HS0.out _ (H0.out.below kb hh) (by simp; omega)).mono ?_
  rintro e w2 ⟨u, rfl, ho, hb⟩
  simp only [World.size_setCell, World.size_alloc] at hb ho
  have k0 := k0.below hb (by omega)
  have k1 := k1.below hb (by omega)
  have k2 := k2.below hb (by omega)
  have hsz0 := hb.size
  try simp only [World.size_alloc, World.size_setCell] at hsz0
  have kb := kb.trans (hb.mono (by omega))
  obtain ⟨B0, m0, p0, rfl⟩ := ho.sliceOf'
  clear hb
  have HL0 := Lib.hid (show ∀ k, (Value.slice B0 m0 p0).ownBlock = some k → w.heap.size + 1 + 1 + 1 ≤ k ∧ k < w2.heap.size from fun k e => ho.blockOf e)
  have ho0 := ho
  clear ho
  try simp only [List.setIfInBounds_toArray, List.set_cons_zero, List.set_cons_succ] at k2
  obtain ⟨d0, d1⟩ := k2.two_
  obtain ⟨f0, f1, _, _, _, _, _, _⟩ := k2.frees
  obtain ⟨e0, e1⟩ := k1.two_
  obtain ⟨h0, h1, _, _, _, _, _, _⟩ := k1.frees
  obtain ⟨y0, y1⟩ := k0.two_
  have M1 := Lib.hid k1
  have MB := Lib.hid kb
  have HO0 := Lib.hid ho0
  clear ho0
  clear k0 k1 k2 kb
  clear HS0 H0
  go_wp2
  refine bodyPost_ret (results_cell_row Try.results62 _ _ _ _ #[.slice B0 m0 p0, .int .i64 g1] _ _ rfl
    ((((M1.out.farA (by omega) _).farA (by omega) _).set_ 0 _).set_ 1 _) Try.underlying87 rfl infoWp) rfl ?_
  refine ⟨_, rfl, ⟨_, rfl, ⟨(HO0.out.sames fun k e => ?_).low (by omega), fun k e => ?_⟩⟩, ?_⟩
  · have := (HL0.out k e).1
    repeat rw [Below.heap_setCell _ ⟨_, _, none⟩ _ k (by simp; omega)]
  · have := HL0.out k e; simp; omega
  · repeat refine bset ?_ (by omega) _
    exact MB.out
set_option maxHeartbeats 1000000 in
theorem eqWp_any (u v : Value) (T : Wp) (w : World) (hi hi' : Nat) (hu : WpIn w hi u T) (hv : WpIn w hi' v T) (h1 : hi ≤ w.heap.size) (h2 : hi' ≤ w.heap.size) (hz : WpSz T) :
    Calls Try.prog 64 #[u, v] w fun e w' => e = .returned (.bool true) ∧ Below w.heap.size w w' := by
  obtain ⟨a0, rfl, ha0⟩ := hu
  obtain ⟨x0, rfl, hx0⟩ := hv
  have HS0 := Lib.hid (fun (W : World) (p : NI W hi a0 T.b) (q : NI W hi' x0 T.b) (c : hi ≤ W.heap.size) (d : hi' ≤ W.heap.size) => eqInts_any a0 x0 T.b W (p.ints c) (q.ints d) (by unfold WpSz at hz; omega))
  have HA0 := Lib.hid ha0
  have HX0 := Lib.hid hx0
  clear ha0 hx0
  clear hz
  obtain ⟨s0, g1⟩ := T
  unfold wpc
  simp only at *
  have n1 : (g1 != g1) = false := by simp
  obtain ⟨r0, r1, b0⟩ := Rw.two_new w 87 87 #[a0, .int .i64 g1] #[x0, .int .i64 g1]
  obtain ⟨c0, c1⟩ := r0.two_
  obtain ⟨d0, d1⟩ := r1.two_
  have S0 := Lib.hid r0
  have S1 := Lib.hid r1
  have BB := Lib.hid b0
  clear b0 r0 r1
  go_enter Try.func64, Try.ntmps64
  go_wp2_with fail
  refine (HS0.out _ (HA0.out.below BB.out h1) (HX0.out.below BB.out h2) (by have := BB.out.size; omega) (by have := BB.out.size; omega)).mono ?_
  rintro e w2 ⟨rfl, hb⟩
  simp only [World.size_alloc] at hb
  have r0 := S0.out.below hb (by have := S0.out.lt; simp only [World.size_alloc] at this; omega)
  have r1 := S1.out.below hb (by have := S1.out.lt; simp only [World.size_alloc] at this; omega)
  have BB' := Lib.hid (BB.out.trans (hb.mono (by have := BB.out.size; omega)))
  clear c0 c1 d0 d1 hb S0 S1 BB HS0 HA0 HX0
  have BB := BB'
  clear BB'
  obtain ⟨c0, c1⟩ := r0.two_
  obtain ⟨d0, d1⟩ := r1.two_
  have S0 := Lib.hid r0
  have S1 := Lib.hid r1
  clear r0 r1
  go_wp2
  go_ret
  exact ⟨rfl, BB.out⟩
end Go.Proofs.Ytgamoiagpglcmaa
