/- EraseCells, in the model: the contract. -/
import Derived.Test.YtmbgagkpabepcaaProg
import Derived.Test.YtmbgagkpabepcaaCxS
import Derived.Test.YtmbgagkpabepcaaCxA
import Derived.Deep.RegionLaw
import Derived.StillTailTactics
namespace Go.Proofs.Ytmbgagkpabepcaa
open Go.RowKit
set_option linter.unusedVariables false
set_option linter.unusedSimpArgs false

def CePost1 (G : Ce) (w : World) (e : Ending) (w' : World) : Prop := ∃ u, e = .returned u ∧ CeOwn w' w.heap.size w'.heap.size u G ∧ Below w.heap.size w w'
theorem tdiv4 {y : Int} (h : 0 ≤ y) : y.tdiv 4 = y / 4 := Int.tdiv_eq_ediv_of_nonneg h
theorem take_map_succ {α β : Type} (f : α → β) (l : List α) (k : Nat) (h : k < l.length) (d : α) : (l.map f).take (k + 1) = (l.map f).take k ++ [f (l.getD k d)] := by
  rw [List.take_succ_eq_append_getElem (by simpa using h)]
  simp [List.getD_eq_getElem?_getD, h]
set_option maxHeartbeats 4000000 in
set_option maxRecDepth 100000 in
theorem specEra15_any (u : Value) (M : Ce) (r : Bool) (w : World) (hi : Nat) (h : CeIn w hi u M) (hh : hi ≤ w.heap.size) (hr : r = true ↔ CeOk M) (hl : CeSz M) :
    Calls Try.prog 20 #[u] w (CePost1 (eraE M r) w) := by
  obtain ⟨a, rfl, h1⟩ := h
  have HIN := Lib.hid h1
  obtain ⟨A, n, c, rfl, _, _, hn, hA⟩ := h1
  have HSV := Lib.hid (fun (W : World) (b : Below w.heap.size w W) => specCeOk_any (.agg #[.slice A n c]) M r W hi ⟨_, rfl, HIN.out.below b hh⟩ (by have := b.size; omega) hr hl)
  obtain ⟨cs⟩ := M
  unfold cec
  unfold CeSz at hl
  simp only at *
  obtain ⟨r0, r1, r2, bb⟩ := Rw.three_new w 27 27 27 #[.slice A n c] #[.slice none 0 0] #[.slice none 0 0]
  obtain ⟨W0, hW0⟩ : ∃ W0, W0 = ((w.alloc (.cells #[.slice A n c] 27)).alloc (.cells #[.slice none 0 0] 27)).alloc (.cells #[.slice none 0 0] 27) := ⟨_, rfl⟩
  have hz0 : W0.heap.size = w.heap.size + 3 := by rw [hW0]; simp
  rw [← hW0] at r0 r1 r2 bb
  have R0 := Lib.hid r0
  have R1 := Lib.hid r1
  have R2 := Lib.hid r2
  have BB := Lib.hid bb
  have HA := Lib.hid hA
  have HN := Lib.hid hn
  have HH := Lib.hid hh
  have HR := Lib.hid hr
  have hnm : (n : Int) ≤ 1048576 := by omega
  obtain ⟨g, hg⟩ : ∃ g, g = w.heap.size + 1 + 1 := ⟨_, rfl⟩
  have HG := Lib.hid hg
  clear r0 r1 r2 bb hg hA hn hh hr hl
  go_enter Try.func20, Try.ntmps20
  go_wp2
  rw [← hW0]
  clear hW0
  rw [← HG.out] at R2 ⊢
  go_loopw [4] (fun i wr => ∃ k : Nat, ∃ u, k ≤ n ∧ i = .int .i64 (k : Int) ∧ Hid (IntsOwn wr W0.heap.size u ((cs.map (· / 4)).take k)) ∧ Hid (Rw wr w.heap.size 27 #[.slice A n c]) ∧ Hid (Rw wr (w.heap.size + 1) 27 #[.slice none 0 0]) ∧ Hid (Rw wr g 27 #[u]) ∧ Hid (Below w.heap.size w wr) ∧ Hid (W0.heap.size ≤ wr.heap.size) ∧ Hid (0 < k → r = true)) (fun i _ => n - (intOf i).toNat)
  case atStart => exact ⟨0, _, by omega, rfl, Lib.hid (show IntsOwn _ _ _ [] from World.ownsRow_nil W0 _ _ 1), R0, R1, R2, BB, Lib.hid (Nat.le_refl _), Lib.hid (fun h => by omega)⟩
  case round =>
    obtain ⟨k, u, hk, rfl, HI, HR0, HR1, HR2, HB, HZ, HK⟩ := hrel
    obtain ⟨A1, n1, c1, rfl⟩ := HI.out.sliceOf'
    have q0 := HR0.out.one
    have q1 := HR1.out.one
    have q2 := HR2.out.one
    have f1 := HR1.out.free 0
    have f2 := HR2.out.free 0
    have hgw : g < W0.heap.size := by rw [HG.out]; omega
    by_cases hlt : k < n
    · have hki : (k : Int) < (n : Int) := by omega
      go_wp2_with fail
      refine (HSV.out _ HB.out).mono ?_
      rintro e w1 ⟨rfl, b1⟩
      have hz1 : W0.heap.size ≤ w1.heap.size := by have := HZ.out; have := b1.size; omega
      have HB1 := Lib.hid (HB.out.trans (b1.mono (by have := HB.out.size; omega)))
      have HR01 := Lib.hid (HR0.out.below b1 HR0.out.lt)
      have HR11 := Lib.hid (HR1.out.below b1 HR1.out.lt)
      have HR21 := Lib.hid (HR2.out.below b1 HR2.out.lt)
      have HI1 := Lib.hid (HI.out.later b1 (Nat.le_refl _))
      clear q0 q1 q2 f1 f2 b1 HR0 HR1 HR2 HI
      have q0 := HR01.out.one
      have q1 := HR11.out.one
      have q2 := HR21.out.one
      have f1 := HR11.out.free 0
      have f2 := HR21.out.free 0
      cases r with
      | false =>
        obtain rfl : k = 0 := by
          rcases Nat.eq_zero_or_pos k with h | h
          · exact h
          · exact absurd (HK.out h) (by decide)
        clear HR HSV HA
        have HQ := Lib.hid HI1.out
        go_wp2
        refine bodyPost_ret (results_cell_row Try.results20 _ _ _ _ #[.slice A1 n1 c1] _ _ rfl (HR11.out.set_ 0 _) Try.underlying27 rfl infoCe) rfl ?_
        refine ⟨_, rfl, ⟨_, rfl, ⟨(HQ.out.sames fun k e => ?_).low (by omega), fun k e => ?_⟩⟩, bset HB1.out (by omega) _⟩
        · have := (HQ.out.blockOf e).1
          repeat rw [Below.heap_setCell _ ⟨_, _, none⟩ _ k (by simp; omega)]
        · have := (HQ.out.blockOf e).2; simpa using this
      | true =>
        obtain ⟨pb, po, rfl, hp2, hpx⟩ := HA.out (by omega)
        have e1 := (HB1.out.cell (p := ⟨pb, po + k, none⟩) (by have := HH.out; show pb < _; omega)).trans (hpx k hlt)
        have hy := (HR.out.1 rfl).2 k (by rw [HN.out]; exact hlt)
        unfold ChOk at hy
        have HT := Lib.hid (take_map_succ (· / 4) cs k (by rw [HN.out]; exact hlt) 0)
        simp only at hy HT
        generalize cs.getD k 0 = y at *
        have ht := tdiv4 hy.1
        have hyw : IntKind.i64.wrap (y / 4) = y / 4 := IntWalk.i64_in _ (by omega)
        have hyw2 : IntKind.i64.wrap (y.tdiv 4) = y / 4 := by rw [ht]; exact hyw
        have OW := Lib.hid (fun (x : Int) => show IntsOwn (w1.alloc (.cells #[.int .i64 x] 2)).drew W0.heap.size (.slice A1 n1 c1) ((cs.map (· / 4)).take k) from HI1.out.later ((Below.refl _ w1).alloc (Nat.le_refl _) _).drew (Nat.le_refl _))
        have OB := Lib.hid (fun (x : Int) => show Below W0.heap.size w1 (w1.alloc (.cells #[.int .i64 x] 2)).drew from ((Below.refl W0.heap.size w1).alloc hz1 _).drew)
        have OZ := Lib.hid (fun (x : Int) => show W0.heap.size ≤ (w1.alloc (.cells #[.int .i64 x] 2)).drew.heap.size by simp; omega)
        have OC := Lib.hid (fun (x : Int) (i : Nat) (h : i < 1) => show (w1.alloc (.cells #[.int .i64 x] 2)).drew.cell? ⟨w1.heap.size, 0 + i, none⟩ = _ from oneCell w1 x _ i h)
        have hkl : ((cs.map (· / 4)).take k).length ≤ 1048576 := by simp; omega
        have qa2 : ∀ o, (w1.alloc o).cell? ⟨g, 0, none⟩ = some (.slice A1 n1 c1) := fun o => (HR21.out.alloc o).one
        clear hpx hp2 HA HR HSV HI1
        go_wp2_with fail
        go_region_law (refine step_append_intL rfl (.tmp 18) (.tmp 25) rfl (.slice A1 n1 c1) ((cs.map (· / 4)).take k) (by simp [Act.eval]) (OW.out (y / 4)) (OB.out _) (OZ.out _) w1.heap.size 0 1 1 [y / 4] (by simp [Act.eval]) rfl (OC.out _) (by omega) ?_; intro v' w2 ho2 hb2 _; obtain ⟨A2, n2, c2, rfl⟩ := ho2.sliceOf'; have q3 := (HR21.out.below hb2 hgw).one; have f3 := (HR21.out.below hb2 hgw).free 0)
        all_goals
          have hs2 : W0.heap.size ≤ w2.heap.size := by have := hb2.size; omega
          rw [← HT.out] at ho2
          have HI2 := Lib.hid (show IntsOwn (w2.setCell ⟨g, 0, none⟩ (.slice A2 n2 c2)) _ _ _ from ho2.sames fun q e => Below.heap_setCell w2 ⟨g, 0, none⟩ _ q (by have := (ho2.blockOf e).1; show q ≠ g; omega))
          have HR2' := Lib.hid ((HR21.out.below hb2 hgw).set_ 0 (.slice A2 n2 c2))
          have HR0' := Lib.hid ((HR01.out.below hb2 (by omega)).farA (k := 0) (show w.heap.size ≠ g by rw [HG.out]; omega) (.slice A2 n2 c2))
          have HR1' := Lib.hid ((HR11.out.below hb2 (by omega)).farA (k := 0) (show w.heap.size + 1 ≠ g by rw [HG.out]; omega) (.slice A2 n2 c2))
          have HB2 := Lib.hid (bset (HB1.out.trans (hb2.mono (by omega))) (show w.heap.size ≤ g by rw [HG.out]; omega) (k := 0) (.slice A2 n2 c2))
          clear q0 q1 q2 f1 f2 q3 f3 ho2 hb2
          go_wp2
          go_roundw
          case rel => exact ⟨k + 1, _, by omega, by go_num, HI2, HR0', HR1', HR2', HB2, Lib.hid (by simpa using hs2), Lib.hid (by simp)⟩
          case measure => simp [intOf]; omega
    · obtain rfl : k = n := by omega
      have HQ : Hid (IntsOwn wr W0.heap.size (.slice A1 n1 c1) (eraE ⟨cs⟩ r).c) := by
        have e : (eraE ⟨cs⟩ r).c = (cs.map (· / 4)).take k := by
          rw [List.take_of_length_le (by simp [HN.out])]
          cases r with
          | true => rfl
          | false =>
            have : k = 0 := by
              rcases Nat.eq_zero_or_pos k with h | h
              · exact h
              · exact absurd (HK.out h) (by decide)
            have h0 : cs = [] := List.length_eq_zero_iff.1 (by rw [HN.out]; exact this)
            rw [h0]; rfl
        rw [e]; exact HI
      clear HR HSV HA
      go_wp2
      refine bodyPost_ret (results_cell_row Try.results20 _ _ _ _ #[.slice A1 n1 c1] _ _ rfl (HR1.out.set_ 0 _) Try.underlying27 rfl infoCe) rfl ?_
      refine ⟨_, rfl, ⟨_, rfl, ⟨(HQ.out.sames fun k e => ?_).low (by omega), fun k e => ?_⟩⟩, bset HB.out (by omega) _⟩
      · have := (HQ.out.blockOf e).1
        repeat rw [Below.heap_setCell _ ⟨_, _, none⟩ _ k (by simp; omega)]
      · have := (HQ.out.blockOf e).2; simpa using this
end Go.Proofs.Ytmbgagkpabepcaa
