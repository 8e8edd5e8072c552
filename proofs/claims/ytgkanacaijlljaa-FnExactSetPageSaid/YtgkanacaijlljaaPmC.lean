/- A map copied (PageMap.clone), a record laid (PageMap.set): the contracts. -/
import Derived.Test.YtgkanacaijlljaaProg
import Derived.Test.YtgkanacaijlljaaPmB
import Derived.Test.YtgkanacaijlljaaHtE
namespace Go.Proofs.Ytgkanacaijlljaa
open Go.RowKit
set_option linter.unusedVariables false
set_option linter.unusedSimpArgs false
/-- A map's copy, of the call's own. -/
def PmCp (b p : Int) (mp : List Int) (tr : List Bool) (w : World) (e : Ending) (w' : World) : Prop := ∃ (G n c G' n' c' : Nat), e = .returned (.agg #[.int .i64 b, .int .i64 p, .slice (some ⟨G, 0, none⟩) n c, .slice (some ⟨G', 0, none⟩) n' c']) ∧ IntsOwn w' w.heap.size (.slice (some ⟨G, 0, none⟩) n c) mp ∧ BoolsOwn w' w.heap.size (.slice (some ⟨G', 0, none⟩) n' c') tr ∧ Below w.heap.size w w'
theorem own_someB {w : World} {B n c : Nat} {A : Option Addr} {L : List Bool} (h : BoolsOwn w B (.slice A n c) L) (h0 : 0 < L.length) : ∃ q, A = some ⟨q, 0, none⟩ := by
  rcases h.shape with ⟨_, rfl⟩ | ⟨g, cap, e, _⟩
  · simp at h0
  · injection e with e _ _; exact ⟨g, e⟩
theorem own_lenB {w : World} {B n c : Nat} {A : Option Addr} {L : List Bool} (h : BoolsOwn w B (.slice A n c) L) : n = L.length := by
  rcases h.shape with ⟨e, rfl⟩ | ⟨g, cap, e, _⟩
  · injection e
  · injection e
set_option maxHeartbeats 4000000 in
set_option maxRecDepth 100000 in
theorem clonePm_any (b p : Int) (mp : List Int) (tr : List Bool) (A A' : Option Addr) (n c n' c' : Nat) (w : World) (hi : Nat) (hu : NI w hi (.slice A n c) mp) (hv : NB w hi (.slice A' n' c') tr) (hh : hi ≤ w.heap.size) (h0 : 0 < mp.length) (h0' : 0 < tr.length) (hl : mp.length ≤ 1048576) (hl' : tr.length ≤ 1048576) :
    Calls Try.prog 87 #[.agg #[.int .i64 b, .int .i64 p, .slice A n c, .slice A' n' c']] w (PmCp b p mp tr w) := by
  have HC := Lib.hid (fun (W : World) (q : Below w.heap.size w W) => cloneInts_any _ mp W hi (hu.below q hh) (Nat.le_trans hh q.size) h0 hl)
  have HD := Lib.hid (fun (W : World) (q : Below w.heap.size w W) => cloneBools_any _ tr W hi (hv.below q hh) (Nat.le_trans hh q.size) h0' hl')
  have H0 := Lib.hid (And.intro h0 h0')
  have b0 := ((Below.refl w.heap.size w).alloc (Nat.le_refl _) (.cells #[.int .i64 b, .int .i64 p, .slice A n c, .slice A' n' c'] 59)).alloc (by simp) (.cells #[.int .i64 0, .int .i64 0, .slice none 0 0, .slice none 0 0] 59)
  have r0 := (Rw.new w 59 #[.int .i64 b, .int .i64 p, .slice A n c, .slice A' n' c']).alloc (.cells #[.int .i64 0, .int .i64 0, .slice none 0 0, .slice none 0 0] 59)
  have r1 := Rw.new (w.alloc (.cells #[.int .i64 b, .int .i64 p, .slice A n c, .slice A' n' c'] 59)) 59 #[.int .i64 0, .int .i64 0, .slice none 0 0, .slice none 0 0]
  have hz : ((w.alloc (.cells #[.int .i64 b, .int .i64 p, .slice A n c, .slice A' n' c'] 59)).alloc (.cells #[.int .i64 0, .int .i64 0, .slice none 0 0, .slice none 0 0] 59)).heap.size = w.heap.size + 2 := by simp
  rw [show (w.alloc (.cells #[.int .i64 b, .int .i64 p, .slice A n c, .slice A' n' c'] 59)).heap.size = w.heap.size + 1 by simp] at r1
  have B0 := Lib.hid b0
  have R0 := Lib.hid r0
  have S0 := Lib.hid r1
  have HZ := Lib.hid hz
  obtain ⟨c0, c1, c2, c3⟩ := R0.out.four
  clear hu hv hh h0 h0' hl hl' b0 r0 r1 hz
  go_enter Try.func87, Try.ntmps87
  go_wp2_with fail
  refine (HC.out _ B0.out).mono ?_
  rintro e w1 ⟨v1, rfl, ho, b1⟩
  rw [HZ.out] at b1
  have ho := ho.low (B' := w.heap.size + 2) (by rw [HZ.out]; omega)
  obtain ⟨A1, n1, c1', rfl⟩ := ho.sliceOfH
  obtain ⟨G1, rfl⟩ := own_some ho H0.out.1
  have HO := Lib.hid ho
  have HZ1 := Lib.hid (show w.heap.size + 2 ≤ w1.heap.size by have := b1.size; have := HZ.out; omega)
  have B1 := Lib.hid (B0.out.trans (b1.mono (by omega)))
  have R1 := Lib.hid (R0.out.below b1 (by omega))
  have S1 := Lib.hid (S0.out.below b1 (by omega))
  clear ho b1 c0 c1 c2 c3 R0 S0 B0
  obtain ⟨c0, c1, c2, c3⟩ := R1.out.four
  obtain ⟨f0, f1, f2, f3, _, _, _, _⟩ := R1.out.frees
  have R2 := Lib.hid (R1.out.set_ 2 (.slice (some ⟨G1, 0, none⟩) n1 c1'))
  obtain ⟨d0, d1, d2, d3⟩ := R2.out.four
  go_wp2_with fail
  obtain ⟨W2, hW2⟩ : ∃ W, W = w1.setCell ⟨w.heap.size, 2, none⟩ (.slice (some ⟨G1, 0, none⟩) n1 c1') := ⟨_, rfl⟩
  have B2 := Lib.hid (show Below w.heap.size w W2 by rw [hW2]; exact bset B1.out (Nat.le_refl _) _)
  have R3 := Lib.hid (show Rw W2 w.heap.size 59 #[.int .i64 b, .int .i64 p, .slice (some ⟨G1, 0, none⟩) n1 c1', .slice A' n' c'] by rw [hW2]; exact R2.out)
  have S3 := Lib.hid (show Rw W2 (w.heap.size + 1) 59 #[.int .i64 0, .int .i64 0, .slice none 0 0, .slice none 0 0] by rw [hW2]; exact S1.out.farA (by omega) _)
  have HO2 := Lib.hid (show IntsOwn W2 (w.heap.size + 2) (.slice (some ⟨G1, 0, none⟩) n1 c1') mp by
    rw [hW2]; exact HO.out.sames fun k e => Below.heap_setCell w1 ⟨w.heap.size, 2, none⟩ _ k (by have := (HO.out.blockOf e).1; show k ≠ w.heap.size; omega))
  have HZ2 := Lib.hid (show w.heap.size + 2 ≤ W2.heap.size by rw [hW2]; simpa using HZ1.out)
  rw [← hW2]
  clear hW2 B1 R1 S1 R2 HO HZ1 c0 c1 c2 c3 d0 d1 d2 d3 f0 f1 f2 f3
  refine (HD.out _ B2.out).mono ?_
  rintro e w3 ⟨v2, rfl, ho, b3⟩
  obtain ⟨A2, n2, c2', rfl⟩ := ho.sliceOf
  obtain ⟨G2, rfl⟩ := own_someB ho H0.out.2
  have HP := Lib.hid (ho.low (B' := w.heap.size + 2) HZ2.out)
  have HO3 := Lib.hid (HO2.out.later b3 (Nat.le_refl _))
  have B3 := Lib.hid (B2.out.trans (b3.mono B2.out.size))
  have R4 := Lib.hid (R3.out.below b3 R3.out.lt)
  have S4 := Lib.hid (S3.out.below b3 S3.out.lt)
  clear ho b3 B2 R3 S3 HO2 HZ2
  obtain ⟨c0, c1, c2, c3⟩ := R4.out.four
  obtain ⟨f0, f1, f2, f3, _, _, _, _⟩ := R4.out.frees
  have R5 := Lib.hid (R4.out.set_ 3 (.slice (some ⟨G2, 0, none⟩) n2 c2'))
  have S5 := Lib.hid (S4.out.farA (g' := w.heap.size) (k := 3) (by omega) (.slice (some ⟨G2, 0, none⟩) n2 c2'))
  obtain ⟨d0, d1, d2, d3⟩ := R5.out.four
  obtain ⟨e0, e1, e2, e3⟩ := S5.out.four
  obtain ⟨g0, g1, g2, g3, _, _, _, _⟩ := S5.out.frees
  go_wp2
  refine bodyPost_ret (results_cell_row Try.results87 _ _ _ _ _ _ _ rfl ((((S5.out.set_ 0 _).set_ 1 _).set_ 2 _).set_ 3 _) Try.underlying59 rfl infoPm) rfl ?_
  have keep : ∀ k, w.heap.size + 2 ≤ k → ((((((w3.setCell ⟨w.heap.size, 3, none⟩ (.slice (some ⟨G2, 0, none⟩) n2 c2')).setCell ⟨w.heap.size + 1, 0, none⟩ (.int .i64 b)).setCell ⟨w.heap.size + 1, 1, none⟩ (.int .i64 p)).setCell ⟨w.heap.size + 1, 2, none⟩ (.slice (some ⟨G1, 0, none⟩) n1 c1')).setCell ⟨w.heap.size + 1, 3, none⟩ (.slice (some ⟨G2, 0, none⟩) n2 c2')).heap[k]? = w3.heap[k]?) := by
    intro k hk
    repeat rw [Below.heap_setCell _ ⟨_, _, none⟩ _ k (by simp; omega)]
  refine ⟨_, _, _, _, _, _, rfl, (HO3.out.sames fun k e => keep k (HO3.out.blockOf e).1).low (by omega), (HP.out.sames fun k e => keep k (HP.out.blockOf e).1).low (by omega), ?_⟩
  repeat refine bset ?_ (by omega) _
  exact B3.out
set_option maxRecDepth 100000 in
theorem setPm_any (b p : Int) (G n c G' n' c' : Nat) (j : Nat) (q : Int) (t : Bool) (mp : List Int) (tr : List Bool) (w : World) (B : Nat) (hu : IntsOwn w B (.slice (some ⟨G, 0, none⟩) n c) mp) (hv : BoolsOwn w B (.slice (some ⟨G', 0, none⟩) n' c') tr) (hB : B ≤ w.heap.size) (hj : j < mp.length) (hj' : j < tr.length) (hl : mp.length ≤ 1048576) (hl' : tr.length ≤ 1048576) :
    Calls Try.prog 88 #[.agg #[.int .i64 b, .int .i64 p, .slice (some ⟨G, 0, none⟩) n c, .slice (some ⟨G', 0, none⟩) n' c'], .int .i64 (j : Int), .int .i64 q, .bool t] w fun e w' => e = .returned (.tuple #[]) ∧ IntsOwn w' B (.slice (some ⟨G, 0, none⟩) n c) (mp.set j q) ∧ BoolsOwn w' B (.slice (some ⟨G', 0, none⟩) n' c') (tr.set j t) ∧ Below B w w' ∧ (∀ k, k < w.heap.size → k ≠ G → k ≠ G' → w'.heap[k]? = w.heap[k]?) := by
  have hn := own_len hu
  have hn' := own_lenB hv
  have hap := ownApart hu hv
  have hne : G ≠ G' := by
    rcases hap with h | h
    · cases h
    · intro e; exact h (by rw [e]; rfl)
  have hGl := (hu.blockOf (k := G) rfl)
  have hGl' := (hv.blockOf (k := G') rfl)
  have R0 := Rw.new w 59 #[.int .i64 b, .int .i64 p, .slice (some ⟨G, 0, none⟩) n c, .slice (some ⟨G', 0, none⟩) n' c']
  have hu1 : IntsOwn (w.alloc (.cells #[.int .i64 b, .int .i64 p, .slice (some ⟨G, 0, none⟩) n c, .slice (some ⟨G', 0, none⟩) n' c'] 59)) B _ mp := World.ownsRow.alloc hu _
  have hv1 : BoolsOwn (w.alloc (.cells #[.int .i64 b, .int .i64 p, .slice (some ⟨G, 0, none⟩) n c, .slice (some ⟨G', 0, none⟩) n' c'] 59)) B _ tr := World.ownsRow.alloc hv _
  obtain ⟨W0, hW0⟩ : ∃ W, W = w.alloc (.cells #[.int .i64 b, .int .i64 p, .slice (some ⟨G, 0, none⟩) n c, .slice (some ⟨G', 0, none⟩) n' c'] 59) := ⟨_, rfl⟩
  have hb0 : Below B w W0 := by rw [hW0]; exact (Below.refl B w).alloc hB _
  have hk0 : ∀ k, k < w.heap.size → W0.heap[k]? = w.heap[k]? := fun k hk => by rw [hW0]; exact Below.heap_alloc w _ k hk
  rw [← hW0] at R0 hu1 hv1
  obtain ⟨c0, c1, c2, c3⟩ := R0.four
  have x0 := hu1.cell (j := j) hn.symm (by omega)
  have x1 := hu1.free hn.symm j
  have y0 := hv1.cell (j := j) hn'.symm (by omega)
  have y1 := hv1.free hn'.symm j
  have HU := Lib.hid (hu1.stored hn.symm j q)
  have R1 := Lib.hid (R0.farA (g' := G) (k := j) (by omega) (.int .i64 q))
  have HV := Lib.hid (show BoolsOwn (W0.setCell ⟨G, j, none⟩ (.int .i64 q)) B (.slice (some ⟨G', 0, none⟩) n' c') tr from hv1.sames fun k e => Below.heap_setCell W0 ⟨G, j, none⟩ _ k (by have e2 : G' = k := Option.some.inj e; show k ≠ G; omega))
  have HVS := Lib.hid (HV.out.stored hn'.symm j t)
  have HUS := Lib.hid (show IntsOwn ((W0.setCell ⟨G, j, none⟩ (.int .i64 q)).setCell ⟨G', j, none⟩ (.bool t)) B (.slice (some ⟨G, 0, none⟩) n c) (mp.set j q) from HU.out.sames fun k e => Below.heap_setCell _ ⟨G', j, none⟩ _ k (by have e2 : G = k := Option.some.inj e; show k ≠ G'; omega))
  have HB := Lib.hid (bset (bset hb0 (g := G) (k := j) hGl.1 (.int .i64 q)) (g := G') (k := j) hGl'.1 (.bool t))
  have HK := Lib.hid (fun (k : Nat) (hk : k < w.heap.size) (h1 : k ≠ G) (h2 : k ≠ G') => ((Below.heap_setCell (W0.setCell ⟨G, j, none⟩ (.int .i64 q)) ⟨G', j, none⟩ (.bool t) k h2).trans (Below.heap_setCell W0 ⟨G, j, none⟩ (.int .i64 q) k h1)).trans (hk0 k hk))
  have hji : (j : Int) < (n : Int) := by omega
  have hji' : (j : Int) < (n' : Int) := by omega
  have hnm : (n : Int) ≤ 1048576 := by omega
  have hnm' : (n' : Int) ≤ 1048576 := by omega
  obtain ⟨d0, d1, d2, d3⟩ := R1.out.four
  have z0 := HV.out.cell (j := j) hn'.symm (by omega)
  have z1 := HV.out.free hn'.symm j
  generalize mp.getD j 0 = xo at *
  generalize tr.getD j false = yo at *
  clear hu hv hu1 hv1 hn hn' hap hGl hGl' hj hj' hl hl' hb0 hk0 hB R0
  subst hW0
  go_enter Try.func88, Try.ntmps88
  go_wp2
  go_end0
  exact ⟨rfl, HUS.out, HVS.out, HB.out, HK.out⟩
end Go.Proofs.Ytgkanacaijlljaa
