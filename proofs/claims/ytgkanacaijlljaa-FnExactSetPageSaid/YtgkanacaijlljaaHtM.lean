/- Write counters in memory; what the laws' helpers for them do. -/
import Derived.Test.YtgkanacaijlljaaProg
import Derived.Test.YtgkanacaijlljaaHtN
import Derived.Test.YtgkanacaijlljaaTbM
import Derived.RegionTactic
import Derived.Deep.RegionHeld3
namespace Go.Proofs.Ytgkanacaijlljaa
open Go.RowKit
set_option linter.unusedVariables false
set_option linter.unusedSimpArgs false
theorem Rw.two {w : World} {g : Nat} {t : TypeId} {a b : Value} (h : Rw w g t #[a, b]) : w.cell? ⟨g, 0, none⟩ = some a ∧ w.cell? ⟨g, 1, none⟩ = some b := ⟨h.cell 0, h.cell 1⟩
/-- The cells of counters whose list is the slice u. -/
def htc (M : Ht) (u : Value) : Array Value := #[u, .int .i64 M.n]
def HtIn (w : World) (hi : Nat) (v : Value) (M : Ht) : Prop := ∃ a, v = .agg (htc M a) ∧ NI w hi a M.c
def HtOwn (w : World) (lo hi : Nat) (v : Value) (M : Ht) : Prop := ∃ a, v = .agg (htc M a) ∧ IO w lo hi a M.c
section
variable {w w' : World} {lo hi lo' hi' B : Nat} {v : Value} {M : Ht}
theorem HtIn.below (h : HtIn w hi v M) (hb : Below B w w') (hB : hi ≤ B) : HtIn w' hi v M := by
  obtain ⟨a, e, h1⟩ := h; exact ⟨a, e, h1.below hb hB⟩
theorem HtIn.same (h : HtIn w hi v M) (hs : Same 0 hi w w') : HtIn w' hi v M := by
  obtain ⟨a, e, h1⟩ := h; exact ⟨a, e, h1.same hs⟩
theorem HtIn.wide (h : HtIn w hi v M) (hh : hi ≤ hi') : HtIn w hi' v M := by
  obtain ⟨a, e, h1⟩ := h; exact ⟨a, e, h1.wide hh⟩
theorem HtOwn.reads (h : HtOwn w lo hi v M) : HtIn w hi v M := by
  obtain ⟨a, e, h1⟩ := h; exact ⟨a, e, h1.reads⟩
theorem HtOwn.same (h : HtOwn w lo hi v M) (hs : Same lo hi w w') : HtOwn w' lo hi v M := by
  obtain ⟨a, e, h1⟩ := h; exact ⟨a, e, h1.same hs⟩
theorem HtOwn.wide (h : HtOwn w lo hi v M) (hl : lo' ≤ lo) (hh : hi ≤ hi') : HtOwn w lo' hi' v M := by
  obtain ⟨a, e, h1⟩ := h; exact ⟨a, e, h1.wide hl hh⟩
theorem HtOwn.zero (w : World) (lo hi : Nat) : HtOwn w lo hi (.agg #[.slice none 0 0, .int .i64 0]) Ht.zero := ⟨_, rfl, IO.nil _ _ _⟩
theorem HtIn.agg2 (h : HtIn w hi v M) : ∃ (A : Option Addr) (n c : Nat) (g : Int), v = .agg #[.slice A n c, .int .i64 g] := by
  obtain ⟨a, e, h1⟩ := h
  obtain ⟨A, n, c, rfl⟩ := h1.slice
  exact ⟨_, _, _, _, e⟩
theorem HtOwn.agg2 (h : HtOwn w lo hi v M) : ∃ (A : Option Addr) (n c : Nat) (g : Int), v = .agg #[.slice A n c, .int .i64 g] := h.reads.agg2
end
theorem IntsOwn.sliceOfH {w : World} {B : Nat} {v : Value} {l : List Int} (h : IntsOwn w B v l) : ∃ A n c, v = .slice A n c := by
  rcases h.shape with ⟨rfl, _⟩ | ⟨g, cap, rfl, _⟩ <;> exact ⟨_, _, _, rfl⟩
theorem szHtM_any (v : Value) (T : Ht) (w : World) (hi : Nat) (m : Int) (h : HtIn w hi v T) (hh : hi ≤ w.heap.size) (hm0 : 0 ≤ m) (hm1 : m ≤ 1048576) :
    Calls Try.prog 15 #[v, .int .i64 m] w (LeftPost m T.c.length w) := by
  obtain ⟨a, rfl, h1⟩ := h
  obtain ⟨A, n, c, rfl⟩ := h1.slice
  have HS := Lib.hid (fun (W : World) (hW : NI W hi (.slice A n c) T.c) => szInts_any _ T.c W hi m hW hm0 hm1)
  have H1 := Lib.hid h1
  clear h1
  obtain ⟨mp, bb⟩ := T
  unfold htc
  simp only at *
  have r0 := Rw.new w 24 #[.slice A n c, .int .i64 bb]
  have b0 := (Below.refl w.heap.size w).alloc (Nat.le_refl _) (.cells #[.slice A n c, .int .i64 bb] 24)
  have B0 := Lib.hid b0
  clear r0 b0
  generalize mp.length = t1 at *
  go_enter Try.func15, Try.ntmps15
  go_wp2_with fail
  refine (HS.out _ (H1.out.below B0.out hh)).mono ?_
  rintro e w1 ⟨x, rfl, hx, rfl⟩
  by_cases hneg : x < 0
  · go_wp2
    go_ret
    rcases hx with hx | hx
    · omega
    · exact ⟨_, rfl, .inr ⟨by omega, rfl⟩, B0.out⟩
  · have hn : ¬ x < 0 := hneg
    go_wp2
    go_ret
    rcases hx with hx | hx
    · exact ⟨_, rfl, .inl ⟨by omega, by omega⟩, B0.out⟩
    · omega
theorem szHt_any (v : Value) (T : Ht) (w : World) (hi : Nat) (h : HtIn w hi v T) (hh : hi ≤ w.heap.size) :
    Calls Try.prog 15 #[v, .int .i64 1048576] w (LeftPost 1048576 T.c.length w) := szHtM_any v T w hi 1048576 h hh (by omega) (by omega)
theorem Left.htSmall {T : Ht} {x : Int} (h : Left 1048576 T.c.length x) (h0 : ¬ x < 0) : HtSz T := by
  unfold HtSz
  rcases h with h | h <;> omega
theorem infoHt : (Try.prog.info? 27).map (·.size) = some 2 := by kernel_rfl
set_option maxHeartbeats 2000000 in
theorem toHt_any (v : Value) (T : Ht) (w : World) (hi : Nat) (h : HtIn w hi v T) (hh : hi ≤ w.heap.size) (hz : HtSz T) :
    Calls Try.prog 17 #[v] w fun e w' => ∃ u, e = .returned u ∧ HtOwn w' w.heap.size w'.heap.size u T ∧ Below w.heap.size w w' := by
  obtain ⟨a, rfl, h1⟩ := h
  obtain ⟨A, n, c, rfl⟩ := h1.slice
  have HS1 := Lib.hid (fun (W : World) (hW : NI W hi (.slice A n c) T.c) (hs : hi ≤ W.heap.size) => toInts_any _ T.c W (hW.intsR hs) hz)
  have H1 := Lib.hid h1
  clear h1 hz
  obtain ⟨mp, bb⟩ := T
  unfold htc
  simp only at *
  obtain ⟨r0, r1, r2, b0⟩ := Rw.three_new w 24 27 27 #[.slice A n c, .int .i64 bb]
    #[.slice none 0 0, .int .i64 0] #[.slice none 0 0, .int .i64 0]
  obtain ⟨c0, c1⟩ := r0.two
  have R0 := Lib.hid r0
  have R1 := Lib.hid r1
  have R2 := Lib.hid r2
  have HB1 := Lib.hid b0
  clear r0 r1 r2 b0
  go_enter Try.func17, Try.ntmps17
  go_wp2_with fail
  clear c0 c1
  refine (HS1.out _ (H1.out.below HB1.out hh) (by simp; omega)).mono ?_
  rintro e w2 ⟨u2, rfl, ho, hb2⟩
  simp only [World.size_setCell, World.size_alloc] at hb2 ho
  have k0 := R0.out.below hb2 (by omega)
  have k1 := R1.out.below hb2 (by omega)
  have k2 := R2.out.below hb2 (by omega)
  have hsz2 := hb2.size
  try simp only [World.size_alloc, World.size_setCell] at hsz2
  have kb := HB1.out.trans (hb2.mono (by omega))
  clear hb2
  obtain ⟨B, m, cp, rfl⟩ := ho.sliceOfH
  have hlt : ∀ k, (Value.slice B m cp).ownBlock = some k → w.heap.size + 1 + 1 + 1 ≤ k ∧ k < w2.heap.size := fun k e => ho.blockOf e
  obtain ⟨c0, c1⟩ := k0.two
  obtain ⟨d0, d1⟩ := k2.two
  obtain ⟨f0, f1, _, _, _, _, _, _⟩ := k2.frees
  obtain ⟨e0, e1⟩ := k1.two
  obtain ⟨g0, g1, _, _, _, _, _, _⟩ := k1.frees
  have M1 := Lib.hid k1
  have MB := Lib.hid kb
  have HO := Lib.hid ho
  have HL := Lib.hid hlt
  clear k0 k1 k2 kb ho hlt R0 R1 R2 HB1 HS1 H1
  go_wp2
  refine bodyPost_ret (results_cell_row Try.results17 _ _ _ _ #[.slice B m cp, .int .i64 bb] _ _ rfl
    ((((M1.out.farA (by omega) _).farA (by omega) _).set_ 0 _).set_ 1 _) Try.underlying27 rfl infoHt) rfl ?_
  refine ⟨_, rfl, ⟨_, rfl, ⟨(HO.out.sames fun k e => ?_).low (by omega), fun k e => ?_⟩⟩, ?_⟩
  · have := (HL.out k e).1
    repeat rw [Below.heap_setCell _ ⟨_, _, none⟩ _ k (by simp; omega)]
  · have := HL.out k e; simp; omega
  · repeat refine bset ?_ (by omega) _
    exact MB.out
set_option maxHeartbeats 1000000 in
theorem eqHt_any (u v : Value) (T : Ht) (w : World) (hi hi' : Nat) (hu : HtIn w hi u T) (hv : HtIn w hi' v T) (h1 : hi ≤ w.heap.size) (h2 : hi' ≤ w.heap.size) (hz : HtSz T) :
    Calls Try.prog 19 #[u, v] w fun e w' => e = .returned (.bool true) ∧ Below w.heap.size w w' := by
  obtain ⟨a, rfl, ha⟩ := hu
  obtain ⟨x, rfl, hx⟩ := hv
  have HS := Lib.hid (fun (W : World) (p : NI W hi a T.c) (q : NI W hi' x T.c) (c : hi ≤ W.heap.size) (d : hi' ≤ W.heap.size) => eqInts_any a x T.c W (p.ints c) (q.ints d) hz)
  have HA := Lib.hid ha
  have HX := Lib.hid hx
  clear ha hx hz
  obtain ⟨mp, bb⟩ := T
  unfold htc
  simp only at *
  have n1 : (bb != bb) = false := by simp
  obtain ⟨r0, r1, b0⟩ := Rw.two_new w 27 27 #[a, .int .i64 bb] #[x, .int .i64 bb]
  obtain ⟨c0, c1⟩ := r0.two
  obtain ⟨d0, d1⟩ := r1.two
  have S0 := Lib.hid r0
  have S1 := Lib.hid r1
  have BB1 := Lib.hid b0
  clear b0 r0 r1
  go_enter Try.func19, Try.ntmps19
  go_wp2_with fail
  refine (HS.out _ (HA.out.below BB1.out h1) (HX.out.below BB1.out h2) (by simp; omega) (by simp; omega)).mono ?_
  rintro e w2 ⟨rfl, hb2⟩
  simp only [World.size_alloc] at hb2
  have r0 := S0.out.below hb2 (by omega)
  have r1 := S1.out.below hb2 (by omega)
  have BB2 := Lib.hid (BB1.out.trans (hb2.mono (by omega)))
  clear c0 c1 d0 d1 hb2 S0 S1 BB1
  obtain ⟨c0, c1⟩ := r0.two
  obtain ⟨d0, d1⟩ := r1.two
  clear r0 r1
  go_wp2
  go_ret
  exact ⟨rfl, BB2.out⟩
end Go.Proofs.Ytgkanacaijlljaa
