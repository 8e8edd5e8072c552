/- The proof's own lemmas, part 48: WnC. -/
import Derived.Test.YtainlanblpccjaaProg
import Derived.Test.YtainlanblpccjaaMg38
import Derived.Test.YtainlanblpccjaaMg13
import Derived.Deep.RegionLaw
import Derived.Deep.RegionHeld3
/- slices.Clone of any list; a state of the blocks of any size copied, in the program: the contracts. -/
namespace Go.Proofs.Ytainlanblpccjaa
open Go.RowKit
set_option linter.unusedVariables false
set_option linter.unusedSimpArgs false
set_option maxRecDepth 100000 in
theorem clnI0_any (A : Option Addr) (c : Nat) (w : World) : Calls Try.prog 139 #[.slice A 0 c] w (CopyPostI [] w) := by
  obtain ⟨i0, hi, _⟩ := info_parts info64
  have hi1 := IntsOwn.made w (B := w.heap.size) (Nat.le_refl _)
  have hb1 := (Below.refl w.heap.size w).alloc (Nat.le_refl _) (.cells #[] 2)
  have HI := Lib.hid hi1
  have HB := Lib.hid hb1
  clear hi1 hb1
  cases A with
  | none =>
    have hnil := fun (W : World) => run_eql_slice_nil (P := Try.prog) W 22 2 none 0 c Try.underlying22
    simp only [Option.isNone_none] at hnil
    go_enter Try.func139, Try.ntmps139
    go_wp2
    go_ret
    exact ⟨_, rfl, World.ownsRow_nil w _ _ 1, Below.refl _ _⟩
  | some ad =>
    have hnil := fun (W : World) => run_eql_slice_nil (P := Try.prog) W 22 2 (some ad) 0 c Try.underlying22
    simp only [Option.isNone_some] at hnil
    go_enter Try.func139, Try.ntmps139
    go_wp2_with (at_builtin; refine wpList_append_none _ rfl _ _ _ _ i0 rfl Try.underlying22 hi _ 0 0 (Nat.le_refl _) rfl (some ad) c rfl ?_)
    go_ret
    exact ⟨_, rfl, HI.out, HB.out⟩
theorem clnI_any (v : Value) (L : List Int) (w : World) (hi : Nat) (hv : NI w hi v L) (hh : hi ≤ w.heap.size) (hl : L.length ≤ 1048576) :
    Calls Try.prog 139 #[v] w (CopyPostI L w) := by
  rcases Nat.eq_zero_or_pos L.length with h0 | h0
  · obtain ⟨A, n, c, rfl, _, _, hn, _⟩ := hv
    obtain rfl : n = 0 := by omega
    obtain rfl : L = [] := List.eq_nil_of_length_eq_zero h0
    exact clnI0_any A c w
  · exact cloneInts_any v L w hi hv hh h0 hl
set_option maxRecDepth 100000 in
theorem clnB0_any (A : Option Addr) (c : Nat) (w : World) : Calls Try.prog 165 #[.slice A 0 c] w (CopyPostB [] w) := by
  obtain ⟨i0, hi, _⟩ := info_parts infoBo
  have hi1 := BoolsOwn.made w (B := w.heap.size) (Nat.le_refl _)
  have hb1 := (Below.refl w.heap.size w).alloc (Nat.le_refl _) (.cells #[] 4)
  have HI := Lib.hid hi1
  have HB := Lib.hid hb1
  clear hi1 hb1
  cases A with
  | none =>
    have hnil := fun (W : World) => run_eql_slice_nil (P := Try.prog) W 23 4 none 0 c Try.underlying23
    simp only [Option.isNone_none] at hnil
    go_enter Try.func165, Try.ntmps165
    go_wp2
    go_ret
    exact ⟨_, rfl, World.ownsRow_nil w _ _ 1, Below.refl _ _⟩
  | some ad =>
    have hnil := fun (W : World) => run_eql_slice_nil (P := Try.prog) W 23 4 (some ad) 0 c Try.underlying23
    simp only [Option.isNone_some] at hnil
    go_enter Try.func165, Try.ntmps165
    go_wp2_with (at_builtin; refine wpList_append_none _ rfl _ _ _ _ i0 rfl Try.underlying23 hi _ 0 0 (Nat.le_refl _) rfl (some ad) c rfl ?_)
    go_ret
    exact ⟨_, rfl, HI.out, HB.out⟩
theorem clnB_any (v : Value) (L : List Bool) (w : World) (hi : Nat) (hv : NB w hi v L) (hh : hi ≤ w.heap.size) (hl : L.length ≤ 1048576) :
    Calls Try.prog 165 #[v] w (CopyPostB L w) := by
  rcases Nat.eq_zero_or_pos L.length with h0 | h0
  · obtain ⟨A, n, c, rfl, _, _, hn, _⟩ := hv
    obtain rfl : n = 0 := by omega
    obtain rfl : L = [] := List.eq_nil_of_length_eq_zero h0
    exact clnB0_any A c w
  · exact cloneBools_any v L w hi hv hh h0 hl
set_option maxHeartbeats 8000000 in
set_option maxRecDepth 100000 in
theorem implCloneW_any (g : Nat) (M : We) (a0 a1 a2 : Value) (w : World) (hi : Nat) (hR : Rw w g 27 (wec M a0 a1 a2)) (i1 : NI w hi a0 M.e) (i2 : NB w hi a1 M.b) (i3 : NI w hi a2 M.c) (hh : hi ≤ w.heap.size) (hz : WeSz M) :
    Calls Try.prog 92 #[.pointer (some ⟨g, 0, none⟩)] w (WePost1 M w) := by
  have HCE := Lib.hid (fun (W : World) (b : Below w.heap.size w W) => clnI_any a0 M.e W hi (i1.below b hh) (Nat.le_trans hh b.size) (by unfold WeSz at hz; omega))
  have HCB := Lib.hid (fun (W : World) (b : Below w.heap.size w W) => clnB_any a1 M.b W hi (i2.below b hh) (Nat.le_trans hh b.size) (by unfold WeSz at hz; omega))
  have HCC := Lib.hid (fun (W : World) (b : Below w.heap.size w W) => clnI_any a2 M.c W hi (i3.below b hh) (Nat.le_trans hh b.size) (by unfold WeSz at hz; omega))
  obtain ⟨A1, n1, k1, rfl⟩ := i1.slice
  obtain ⟨A2, n2, k2, rfl⟩ := i2.slice
  obtain ⟨A3, n3, k3, rfl⟩ := i3.slice
  obtain ⟨e, b, c, nb⟩ := M
  unfold wec at hR
  simp only at *
  have hg := hR.lt
  obtain ⟨W0, hW0⟩ : ∃ W0, W0 = w.alloc (.cells #[.slice none 0 0, .slice none 0 0, .slice none 0 0, .int .i64 0] 27) := ⟨_, rfl⟩
  have bb : Below w.heap.size w W0 := by rw [hW0]; exact (Below.refl _ w).alloc (Nat.le_refl _) _
  have r1 : Rw W0 w.heap.size 27 #[.slice none 0 0, .slice none 0 0, .slice none 0 0, .int .i64 0] := by rw [hW0]; exact Rw.new w _ _
  obtain ⟨z, hzz⟩ : ∃ z, z = w.heap.size + 1 := ⟨_, rfl⟩
  have hz0 : W0.heap.size = z := by rw [hW0, hzz]; simp
  have KR := Lib.hid (fun (W : World) (b : Below z W0 W) => show Rw W g 27 #[.slice A1 n1 k1, .slice A2 n2 k2, .slice A3 n3 k3, .int .i64 nb] from (hR.below bb (by omega)).below b (by omega))
  have KP := Lib.hid (fun (W : World) (b : Below z W0 W) => show Rw W w.heap.size 27 #[.slice none 0 0, .slice none 0 0, .slice none 0 0, .int .i64 0] ∧ Below w.heap.size w W from ⟨r1.below b (by omega), bb.trans (b.mono (by omega))⟩)
  have hb0 : Below z W0 W0 := Below.refl _ _
  have HZE := Lib.hid hzz
  have Z0 : z ≤ W0.heap.size := by omega
  have kA := (KR.out _ hb0.drew).four
  clear r1 bb i1 i2 i3 hz hh hzz hz0 hR
  go_enter Try.func92, Try.ntmps92
  go_upto_region 1 with fail
  rw [← hW0]
  clear hW0
  go_region_held3 (fun W => W.cell? ⟨g, 0, none⟩ = some (.slice A1 n1 k1) ∧ W.cell? ⟨g, 1, none⟩ = some (.slice A2 n2 k2) ∧ W.cell? ⟨g, 2, none⟩ = some (.slice A3 n3 k3) ∧ W.cell? ⟨g, 3, none⟩ = some (.int .i64 nb))
    (first
      | with_reducible exact kA
      | with_reducible exact kE
      | with_reducible exact kB
      | with_reducible exact kC
      | with_reducible exact kS)
    (first
      | (go_at_call 139
         with_reducible refine (HCE.out _ (KP.out _ hb0.drew).2).mono ?_
         rintro e w1 ⟨v, rfl, ho, q⟩
         have B1 := hb0.drew.trans (q.mono (Nat.le_trans Z0 hb0.drew.size))
         obtain ⟨AE, nE, cE, rfl⟩ := ho.sliceOf'
         have HE1 := Lib.hid (ho.low (B' := z) (Nat.le_trans Z0 hb0.drew.size))
         have RE := Lib.hid (show ∀ k, (Value.slice AE nE cE).ownBlock = some k → k < w1.heap.size from fun k e => (ho.blockOf e).2)
         have kE := (KR.out _ B1).four
         clear ho q)
      | (go_at_call 165
         with_reducible refine (HCB.out _ (KP.out _ B1).2).mono ?_
         rintro e w2 ⟨v, rfl, ho, q⟩
         have B2 := B1.trans (q.mono (Nat.le_trans Z0 B1.size))
         obtain ⟨AB, nB, cB, rfl⟩ := ho.sliceOf
         have HE2 := Lib.hid (HE1.out.later q (Nat.le_refl _))
         have HB2 := Lib.hid (ho.low (B' := z) (Nat.le_trans Z0 B1.size))
         have HBS := Lib.hid q.size
         have kB := (KR.out _ B2).four
         clear ho q)
      | (go_at_call 139
         with_reducible refine (HCC.out _ (KP.out _ B2).2).mono ?_
         rintro e w3 ⟨v, rfl, ho, q⟩
         have B3 := B2.trans (q.mono (Nat.le_trans Z0 B2.size))
         obtain ⟨AC, nC, cC, rfl⟩ := ho.sliceOf'
         have HE := Lib.hid (HE2.out.later q (Nat.le_refl _))
         have HB := Lib.hid (HB2.out.later q (Nat.le_refl _))
         have HC := Lib.hid (ho.low (B' := z) (Nat.le_trans Z0 B2.size))
         have RC := Lib.hid (show ∀ k, (Value.slice AC nC cC).ownBlock = some k → w1.heap.size ≤ k from fun k e => Nat.le_trans HBS.out (ho.blockOf e).1)
         have kC := (KR.out _ B3).four
         have kS := (((((KR.out _ B3).farA (g' := w.heap.size) (k := 0) (by omega) (.slice AE nE cE)).farA (g' := w.heap.size) (k := 1) (by omega) (.slice AB nB cB)).farA (g' := w.heap.size) (k := 2) (by omega) (.slice AC nC cC)).farA (g' := w.heap.size) (k := 3) (by omega) (.int .i64 nb)).four
         obtain ⟨d0, d1, d2, d3⟩ := (KP.out _ B3).1.four
         obtain ⟨f0, f1, f2, f3, _, _, _, _⟩ := (KP.out _ B3).1.frees
         clear ho q))
  all_goals
    have hz2 := HZE.out
    go_wp2
    refine bodyPost_ret (results_cell_row Try.results92 _ _ _ _ #[.slice AE nE cE, .slice AB nB cB, .slice AC nC cC, .int .i64 nb] _ _ rfl (((((KP.out _ B3).1.set_ 0 _).set_ 1 _).set_ 2 _).set_ 3 _) Try.underlying27 rfl infoWe) rfl ⟨_, rfl, ⟨_, _, _, rfl, ⟨(HE.out.sames fun k e => ?_).low (by omega), fun k e => ?_⟩, ⟨(HB.out.sames fun k e => ?_).low (by omega), fun k e => ?_⟩, ⟨(HC.out.sames fun k e => ?_).low (by omega), fun k e => ?_⟩, ownApartW HE.out HB.out, ?_, own_ne (ownApartW HC.out HB.out)⟩, ?_⟩
    · have := (HE.out.blockOf e).1
      repeat rw [Below.heap_setCell _ ⟨_, _, none⟩ _ k (by simp; omega)]
    · have := (HE.out.blockOf e).2; simpa using this
    · have := (HB.out.blockOf e).1
      repeat rw [Below.heap_setCell _ ⟨_, _, none⟩ _ k (by simp; omega)]
    · have := (HB.out.blockOf e).2; simpa using this
    · have := (HC.out.blockOf e).1
      repeat rw [Below.heap_setCell _ ⟨_, _, none⟩ _ k (by simp; omega)]
    · have := (HC.out.blockOf e).2; simpa using this
    · cases hq : (Value.slice AE nE cE).ownBlock with
      | none => exact .inl rfl
      | some k => exact .inr fun e => by have := RE.out k hq; have := RC.out k e.symm; omega
    · repeat refine bset ?_ (by omega) _
      exact (KP.out _ B3).2
end Go.Proofs.Ytainlanblpccjaa
