/- Cells in memory; what the laws' helpers for it do. -/
import Derived.Test.YtmbgagkpabepcaaProg
import Derived.Test.YtmbgagkpabepcaaCeN
import Derived.Test.YtmbgagkpabepcaaTbM
import Derived.Test.YtmbgagkpabepcaaBoo
import Derived.Test.YtmbgagkpabepcaaPmM
import Derived.Test.YtmbgagkpabepcaaRwX
import Derived.RegionTactic
import Derived.Deep.RegionHeld3
namespace Go.Proofs.Ytmbgagkpabepcaa
open Go.RowKit
set_option linter.unusedVariables false
set_option linter.unusedSimpArgs false
def cec (M : Ce) (u0 : Value) : Array Value := #[u0]
def CeIn (w : World) (hi : Nat) (v : Value) (M : Ce) : Prop := ∃ a0, v = .agg (cec M a0) ∧ NI w hi a0 M.c
def CeOwn (w : World) (lo hi : Nat) (v : Value) (M : Ce) : Prop := ∃ a0, v = .agg (cec M a0) ∧ IO w lo hi a0 M.c
section
variable {w w' : World} {lo hi lo' hi' B : Nat} {v : Value} {M : Ce}
theorem CeIn.below (h : CeIn w hi v M) (hb : Below B w w') (hB : hi ≤ B) : CeIn w' hi v M := by
  obtain ⟨a0, e, h0⟩ := h; exact ⟨a0, e, h0.below hb hB⟩
theorem CeIn.same (h : CeIn w hi v M) (hs : Same 0 hi w w') : CeIn w' hi v M := by
  obtain ⟨a0, e, h0⟩ := h; exact ⟨a0, e, h0.same hs⟩
theorem CeIn.wide (h : CeIn w hi v M) (hh : hi ≤ hi') : CeIn w hi' v M := by
  obtain ⟨a0, e, h0⟩ := h; exact ⟨a0, e, h0.wide hh⟩
theorem CeOwn.reads (h : CeOwn w lo hi v M) : CeIn w hi v M := by
  obtain ⟨a0, e, h0⟩ := h; exact ⟨a0, e, h0.reads⟩
theorem CeOwn.same (h : CeOwn w lo hi v M) (hs : Same lo hi w w') : CeOwn w' lo hi v M := by
  obtain ⟨a0, e, h0⟩ := h; exact ⟨a0, e, h0.same hs⟩
theorem CeOwn.wide (h : CeOwn w lo hi v M) (hl : lo' ≤ lo) (hh : hi ≤ hi') : CeOwn w lo' hi' v M := by
  obtain ⟨a0, e, h0⟩ := h; exact ⟨a0, e, h0.wide hl hh⟩
theorem CeOwn.zero (w : World) (lo hi : Nat) : CeOwn w lo hi (.agg #[.slice none 0 0]) Ce.zero := ⟨_, rfl, IO.nil _ _ _⟩
theorem CeIn.agg_ (h : CeIn w hi v M) : ∃ (A0 : Option Addr) (n0 c0 : Nat), v = .agg #[.slice A0 n0 c0] := by
  obtain ⟨a0, e, h0⟩ := h
  obtain ⟨A0, n0, c0, rfl⟩ := h0.slice
  exact ⟨_, _, _, e⟩
theorem CeOwn.agg_ (h : CeOwn w lo hi v M) : ∃ (A0 : Option Addr) (n0 c0 : Nat), v = .agg #[.slice A0 n0 c0] := h.reads.agg_
end
set_option maxHeartbeats 1000000 in
theorem szCeM_any (v : Value) (T : Ce) (w : World) (hi : Nat) (m : Int) (h : CeIn w hi v T) (hh : hi ≤ w.heap.size) (hm0 : 0 ≤ m) (hm1 : m ≤ 1048576) :
    Calls Try.prog 15 #[v, .int .i64 m] w (LeftPost m (T.c.length) w) := by
  obtain ⟨a0, rfl, h0⟩ := h
  obtain ⟨A0, n0, c0, rfl⟩ := h0.slice
  have HS0 := Lib.hid (fun (W : World) (mm : Int) (hW : NI W hi (.slice A0 n0 c0) T.c) (p : 0 ≤ mm) (q : mm ≤ 1048576) => szInts_any _ T.c W hi mm hW p q)
  have H0 := Lib.hid h0
  clear h0
  obtain ⟨s0⟩ := T
  unfold cec
  simp only at *
  have b0 := (Below.refl w.heap.size w).alloc (Nat.le_refl _) (.cells #[.slice A0 n0 c0] 24)
  have r0 := Rw.new w 24 #[.slice A0 n0 c0]
  have q0 := r0.cell 0
  simp only [List.getElem?_toArray, List.getElem?_cons_zero] at q0
  have B0 := Lib.hid b0
  clear b0 r0
  generalize s0.length = t0 at *
  go_enter Try.func15, Try.ntmps15
  go_wp2_with fail
  refine (HS0.out _ m (H0.out.below B0.out hh) hm0 hm1).mono ?_
  rintro e w1 ⟨x0, rfl, hx0, rfl⟩
  by_cases hneg0 : x0 < 0
  · go_wp2
    go_ret
    rcases hx0 with hx0 | hx0
    · omega
    · exact ⟨_, rfl, .inr ⟨by  omega, rfl⟩, B0.out⟩
  have hn0 : ¬ x0 < 0 := hneg0
  have HX0 := Lib.hid (show (t0 : Int) ≤ m ∧ x0 = m - (t0 : Int) by rcases hx0 with hx0 | hx0 <;> omega)
  have hxa0 : 0 ≤ x0 := by omega
  have hxb0 : x0 ≤ 1048576 := by have := HX0.out; omega
  clear hx0 hneg0
  go_wp2
  go_ret
  exact ⟨_, rfl, .inl ⟨by have := HX0.out; omega, by have := HX0.out; omega⟩, B0.out⟩
theorem szCe_any (v : Value) (T : Ce) (w : World) (hi : Nat) (h : CeIn w hi v T) (hh : hi ≤ w.heap.size) :
    Calls Try.prog 15 #[v, .int .i64 1048576] w (LeftPost 1048576 (T.c.length) w) := szCeM_any v T w hi 1048576 h hh (by omega) (by omega)
theorem Left.ceSmall {T : Ce} {x : Int} (h : Left 1048576 (T.c.length) x) (h0 : ¬ x < 0) : CeSz T := by
  unfold CeSz
  rcases h with h | h <;> omega
theorem infoCe : (Try.prog.info? 27).map (·.size) = some 1 := by kernel_rfl
set_option maxHeartbeats 2000000 in
theorem toCe_any (v : Value) (T : Ce) (w : World) (hi : Nat) (h : CeIn w hi v T) (hh : hi ≤ w.heap.size) (hz : CeSz T) :
    Calls Try.prog 17 #[v] w fun e w' => ∃ u, e = .returned u ∧ CeOwn w' w.heap.size w'.heap.size u T ∧ Below w.heap.size w w' := by
  obtain ⟨a0, rfl, h0⟩ := h
  obtain ⟨A0, n0, c0, rfl⟩ := h0.slice
  have HS0 := Lib.hid (fun (W : World) (hW : NI W hi (.slice A0 n0 c0) T.c) (hs : hi ≤ W.heap.size) => toInts_any _ T.c W (hW.intsR hs) (by unfold CeSz at hz; omega))
  have H0 := Lib.hid h0
  clear h0
  clear hz
  obtain ⟨s0⟩ := T
  unfold cec
  simp only at *
  obtain ⟨r0, r1, r2, b0⟩ := Rw.three_new w 24 27 27 #[.slice A0 n0 c0] #[.slice none 0 0] #[.slice none 0 0]
  have c0 := r0.one
  have d0 := r2.one
  obtain ⟨f0, _, _, _, _, _, _, _⟩ := r2.frees
  have R0 := Lib.hid r0
  have R1 := Lib.hid r1
  have R2 := Lib.hid r2
  clear r0 r1 r2 b0
  go_enter Try.func17, Try.ntmps17
  go_wp2_with fail
  clear c0 d0 f0
  obtain ⟨k0, k1, k2, kb⟩ := Rw.three_new w 24 27 27 #[.slice A0 n0 c0] #[.slice none 0 0] #[.slice none 0 0]
  refine (HS0.out _ (H0.out.below kb hh) (by simp; omega)).mono ?_
  rintro e w2 ⟨u, rfl, ho, hb⟩
  simp only [World.size_setCell, World.size_alloc] at hb ho
  have k0 := k0.below hb (by omega)
  have k1 := k1.below hb (by omega)
  have k2 := k2.below hb (by omega)
  have hsz0 := hb.size
  try simp only [World.size_alloc, World.size_setCell] at hsz0
  have kb := kb.trans (hb.mono (by omega))
  obtain ⟨B0, m0, p0, rfl⟩ := ho.sliceOf'
  clear hb
  have HL0 := Lib.hid (show ∀ k, (Value.slice B0 m0 p0).ownBlock = some k → w.heap.size + 1 + 1 + 1 ≤ k ∧ k < w2.heap.size from fun k e => ho.blockOf e)
  have ho0 := ho
  clear ho
  try simp only [List.setIfInBounds_toArray, List.set_cons_zero, List.set_cons_succ] at k2
  have d0 := k2.one
  obtain ⟨f0, _, _, _, _, _, _, _⟩ := k2.frees
  have e0 := k1.one
  obtain ⟨h0, _, _, _, _, _, _, _⟩ := k1.frees
  have y0 := k0.one
  have M1 := Lib.hid k1
  have MB := Lib.hid kb
  have HO0 := Lib.hid ho0
  clear ho0
  clear k0 k1 k2 kb
  clear HS0 H0
  go_wp2
  refine bodyPost_ret (results_cell_row Try.results17 _ _ _ _ #[.slice B0 m0 p0] _ _ rfl
    ((M1.out.farA (by omega) _).set_ 0 _) Try.underlying27 rfl infoCe) rfl ?_
  refine ⟨_, rfl, ⟨_, rfl, ⟨(HO0.out.sames fun k e => ?_).low (by omega), fun k e => ?_⟩⟩, ?_⟩
  · have := (HL0.out k e).1
    repeat rw [Below.heap_setCell _ ⟨_, _, none⟩ _ k (by simp; omega)]
  · have := HL0.out k e; simp; omega
  · repeat refine bset ?_ (by omega) _
    exact MB.out
set_option maxHeartbeats 1000000 in
theorem eqCe_any (u v : Value) (T : Ce) (w : World) (hi hi' : Nat) (hu : CeIn w hi u T) (hv : CeIn w hi' v T) (h1 : hi ≤ w.heap.size) (h2 : hi' ≤ w.heap.size) (hz : CeSz T) :
    Calls Try.prog 19 #[u, v] w fun e w' => e = .returned (.bool true) ∧ Below w.heap.size w w' := by
  obtain ⟨a0, rfl, ha0⟩ := hu
  obtain ⟨x0, rfl, hx0⟩ := hv
  have HS0 := Lib.hid (fun (W : World) (p : NI W hi a0 T.c) (q : NI W hi' x0 T.c) (c : hi ≤ W.heap.size) (d : hi' ≤ W.heap.size) => eqInts_any a0 x0 T.c W (p.ints c) (q.ints d) (by unfold CeSz at hz; omega))
  have HA0 := Lib.hid ha0
  have HX0 := Lib.hid hx0
  clear ha0 hx0
  clear hz
  obtain ⟨s0⟩ := T
  unfold cec
  simp only at *
  obtain ⟨r0, r1, b0⟩ := Rw.two_new w 27 27 #[a0] #[x0]
  have c0 := r0.one
  have d0 := r1.one
  have S0 := Lib.hid r0
  have S1 := Lib.hid r1
  have BB := Lib.hid b0
  clear b0 r0 r1
  go_enter Try.func19, Try.ntmps19
  go_wp2_with fail
  refine (HS0.out _ (HA0.out.below BB.out h1) (HX0.out.below BB.out h2) (by have := BB.out.size; omega) (by have := BB.out.size; omega)).mono ?_
  rintro e w2 ⟨rfl, hb⟩
  simp only [World.size_alloc] at hb
  have r0 := S0.out.below hb (by have := S0.out.lt; simp only [World.size_alloc] at this; omega)
  have r1 := S1.out.below hb (by have := S1.out.lt; simp only [World.size_alloc] at this; omega)
  have BB' := Lib.hid (BB.out.trans (hb.mono (by have := BB.out.size; omega)))
  clear c0 d0 hb S0 S1 BB HS0 HA0 HX0
  have BB := BB'
  clear BB'
  have c0 := r0.one
  have d0 := r1.one
  have S0 := Lib.hid r0
  have S1 := Lib.hid r1
  clear r0 r1
  go_wp2
  go_ret
  exact ⟨rfl, BB.out⟩
end Go.Proofs.Ytmbgagkpabepcaa
