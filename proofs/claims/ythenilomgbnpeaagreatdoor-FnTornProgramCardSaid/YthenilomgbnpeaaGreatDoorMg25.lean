/- The proof's own lemmas, part 26: DrD. -/
import Derived.Test.YthenilomgbnpeaaGreatDoorMg23
import Derived.Test.YthenilomgbnpeaaGreatDoorMg24
import Derived.Test.YthenilomgbnpeaaGreatDoorMg14
import Derived.Deep.DeepCutAuto
/- Chapter 6's generator of arrays: the contract. -/
namespace Go.Proofs.YthenilomgbnpeaaGreatDoor
open Go.RowKit
set_option linter.unusedVariables false
theorem BksOwn.lohi {w : World} {lo hi : Nat} {v : Value} {L : List Blk} (h : BksOwn w lo hi v L) (hl : 0 < L.length) : lo < hi := by
  obtain ⟨A, len, cap, e, h1, h2, h3, hc⟩ := h
  obtain ⟨g, pv, e, hb⟩ := hc (by omega)
  exact Nat.lt_of_le_of_lt hb.low hb.high
/-- The state between two statements of l06Draw: its result's block r (zeros), its variable's block f (an array of the shape), the array's blocks, the source. -/
def DrSt (B g n : Nat) (w : World) (r f M : Nat) (wx : World) : Prop := ∃ (F : Fl) (A : Option Addr) (nb cb lo hi : Nat), Rw wx r 28 #[.int .i64 0, .int .i64 0, .int .i64 0, .slice none 0 0, .int .i64 0, .int .i64 0, .bool false, .int .i64 0] ∧
  Rw wx f 28 #[.int .i64 F.d, .int .i64 F.b, .int .i64 F.p, .slice A nb cb, .int .i64 F.fu, .int .i64 F.ke, .bool F.off, .int .i64 F.op] ∧ BksOwn wx lo hi (.slice A nb cb) F.bs ∧
  (g < w.heap.size ∧ w.heap.size ≤ r ∧ r < f ∧ r < lo ∧ (lo ≤ wx.heap.size ∧ hi ≤ wx.heap.size) ∧ (hi ≤ f ∨ f + 1 ≤ lo)) ∧ Shape F M ∧ Src wx B g n ∧ w.grownBy wx (some g)
section
variable {B g n m r f M : Nat} {w wx wy : World}
theorem DrSt.pass (h : DrSt B g n w r f M wx) (hg : wx.grownBy wy (some g)) (hs : Src wy B g m) : DrSt B g m w r f M wy := by
  obtain ⟨F, A, nb, cb, lo, hi, h1, h2, h3, h4, h5, h6, h7⟩ := h
  have := hg.size
  exact ⟨F, A, nb, cb, lo, hi, h1.grown hg (by omega), h2.grown hg (by omega), h3.same (same_above hg (by omega) h4.2.2.2.2.1.2), ⟨h4.1, h4.2.1, h4.2.2.1, h4.2.2.2.1, by omega, h4.2.2.2.2.2⟩, h5, hs, grown_trans h7 hg⟩
theorem DrSt.more (h : DrSt B g n w r f M wx) (hn : n ≤ m) : DrSt B g m w r f M wx := by
  obtain ⟨F, A, nb, cb, lo, hi, h1, h2, h3, h4, h5, h6, h7⟩ := h
  exact ⟨F, A, nb, cb, lo, hi, h1, h2, h3, h4, h5, h6.more hn, h7⟩
theorem DrSt.src (h : DrSt B g n w r f M wx) : Src wx B g n := by
  obtain ⟨F, A, nb, cb, lo, hi, h1, h2, h3, h4, h5, h6, h7⟩ := h
  exact h6
theorem DrSt.frees (h : DrSt B g n w r f M wx) : ∃ c0 c1 c2 c3 c4 c5 c6 c7, Rw wx f 28 #[c0, c1, c2, c3, c4, c5, c6, c7] := by
  obtain ⟨F, A, nb, cb, lo, hi, h1, h2, h3, h4, h5, h6, h7⟩ := h
  exact ⟨_, _, _, _, _, _, _, _, h2⟩
/-- A store into a cell of the variable. -/
theorem DrSt.put (h : DrSt B g n w r f M wx) (j : Nat) (u : Value) (hj : (j = 4 ∧ ∃ x, u = .int .i64 x) ∨ (j = 5 ∧ ∃ x, u = .int .i64 x) ∨ (j = 6 ∧ ∃ x, u = .bool x)) : DrSt B g n w r f M (wx.setCell ⟨f, j, none⟩ u) := by
  obtain ⟨F, A, nb, cb, lo, hi, h1, h2, h3, h4, h5, h6, h7⟩ := h
  have o := h3.same (sset (Same.refl lo hi wx) (g := f) (k := j) (by omega) u)
  have s := h6.keepS (sset (Same.refl 0 (g + 1) wx) (g := f) (k := j) (.inr (by omega)) u) (by simp)
  have gr := grown_out (k := j) h7 (show w.heap.size ≤ f by omega) u
  have sz : (wx.setCell ⟨f, j, none⟩ u).heap.size = wx.heap.size := by simp
  rcases hj with ⟨rfl, x, rfl⟩ | ⟨rfl, x, rfl⟩ | ⟨rfl, x, rfl⟩
  · exact ⟨{ F with fu := x }, A, nb, cb, lo, hi, h1.farA (by omega) _, h2.set_ 4 _, o, by rw [sz]; exact h4, h5, s, gr⟩
  · exact ⟨{ F with ke := x }, A, nb, cb, lo, hi, h1.farA (by omega) _, h2.set_ 5 _, o, by rw [sz]; exact h4, h5, s, gr⟩
  · exact ⟨{ F with off := x }, A, nb, cb, lo, hi, h1.farA (by omega) _, h2.set_ 6 _, o, by rw [sz]; exact h4, h5, s, gr⟩
/-- The variable stored whole. -/
theorem DrSt.all {F : Fl} {A : Option Addr} {nb cb lo hi : Nat} {c0 c1 c2 c3 c4 c5 c6 c7 : Value} (h1 : Rw wx r 28 #[.int .i64 0, .int .i64 0, .int .i64 0, .slice none 0 0, .int .i64 0, .int .i64 0, .bool false, .int .i64 0]) (h2 : Rw wx f 28 #[c0, c1, c2, c3, c4, c5, c6, c7]) (h3 : BksOwn wx lo hi (.slice A nb cb) F.bs)
    (h4 : g < w.heap.size ∧ w.heap.size ≤ r ∧ r < f ∧ r < lo ∧ (lo ≤ wx.heap.size ∧ hi ≤ wx.heap.size) ∧ (hi ≤ f ∨ f + 1 ≤ lo)) (h5 : Shape F M) (h6 : Src wx B g n) (h7 : w.grownBy wx (some g)) :
    DrSt B g n w r f M ((((((((wx.setCell ⟨f, 0, none⟩ (.int .i64 F.d)).setCell ⟨f, 1, none⟩ (.int .i64 F.b)).setCell ⟨f, 2, none⟩ (.int .i64 F.p)).setCell ⟨f, 3, none⟩ (.slice A nb cb)).setCell ⟨f, 4, none⟩ (.int .i64 F.fu)).setCell ⟨f, 5, none⟩ (.int .i64 F.ke)).setCell ⟨f, 6, none⟩ (.bool F.off)).setCell ⟨f, 7, none⟩ (.int .i64 F.op)) := by
  refine ⟨F, A, nb, cb, lo, hi, ((((((((h1).farA (g' := f) (by omega) _).farA (g' := f) (by omega) _).farA (g' := f) (by omega) _).farA (g' := f) (by omega) _).farA (g' := f) (by omega) _).farA (g' := f) (by omega) _).farA (g' := f) (by omega) _).farA (g' := f) (by omega) _, h2.put8 _ _ _ _ _ _ _ _, h3.same (by (repeat refine sset ?_ (by omega) _); exact Same.refl _ _ _), ?_, h5, h6.keepS (by (repeat refine sset ?_ (.inr (by omega)) _); exact Same.refl _ _ _) (by simp), ?_⟩
  · simp only [World.size_setCell]
    exact h4
  · repeat refine grown_out ?_ (by omega) _
    exact h7
/-- A store into a cell of a block. -/
theorem DrSt.blk {F : Fl} {gb nb cb lo hi k c : Nat} {pv : Nat → Value} {u : Value} (h1 : Rw wx r 28 #[.int .i64 0, .int .i64 0, .int .i64 0, .slice none 0 0, .int .i64 0, .int .i64 0, .bool false, .int .i64 0]) (h2 : Rw wx f 28 #[.int .i64 F.d, .int .i64 F.b, .int .i64 F.p, .slice (some ⟨gb, 0, none⟩) nb cb, .int .i64 F.fu, .int .i64 F.ke, .bool F.off, .int .i64 F.op]) (h3 : BO wx lo hi gb pv F.bs) (hl1 : nb ≤ cb) (hl2 : cb ≤ 9223372036854775807) (hl3 : F.bs.length = nb)
    (h4 : g < w.heap.size ∧ w.heap.size ≤ r ∧ r < f ∧ r < lo ∧ (lo ≤ wx.heap.size ∧ hi ≤ wx.heap.size) ∧ (hi ≤ f ∨ f + 1 ≤ lo)) (h5 : Shape F M) (h6 : Src wx B g n) (h7 : w.grownBy wx (some g)) (hk : k < nb) (hc : (c = 0 ∧ ∃ n, u = .int .i64 n) ∨ (c = 1 ∧ ∃ n, u = .int .i64 n) ∨ (c = 2 ∧ ∃ b, u = .bool b)) :
    DrSt B g n w r f M (wx.setCell ⟨gb, k * 4 + c, none⟩ u) := by
  have lo1 := h3.low
  have hi1 := h3.high
  have bo := h3.store (k := k) (c := c) (by omega) u hc
  refine ⟨{ F with bs := F.bs.set k ((F.bs.getD k Blk.zero).put c u) }, some ⟨gb, 0, none⟩, nb, cb, lo, hi, h1.farA (by omega) _, h2.farA (by omega) _, ⟨_, _, _, rfl, hl1, hl2, by simpa using hl3, fun _ => ⟨gb, pv, rfl, bo⟩⟩, ?_, h5.set k _ ?_ rfl rfl rfl rfl h5.2.2.2, h6.keepS (sset (Same.refl _ _ _) (.inr (by omega)) _) (by simp), grown_out h7 (by omega) _⟩
  · simp only [World.size_setCell]
    exact h4
  · rcases hc with ⟨rfl, x, rfl⟩ | ⟨rfl, x, rfl⟩ | ⟨rfl, x, rfl⟩ <;> rfl
end
set_option maxHeartbeats 4000000 in
set_option maxRecDepth 100000 in
theorem l06Draw_any (B g n : Nat) (w : World) (h : Src w B g n) (hn : n ≤ 400000000000) :
    Calls Tryz.prog 38 #[.pointer (some ⟨g, 0, none⟩)] w (DrewFl 8 w.heap.size B g (n + 200000) w) := by
  have hlt := h.lt
  have b0 := (Below.refl w.heap.size w).alloc (Nat.le_refl _) (.cells #[.int .i64 0, .int .i64 0, .int .i64 0, .slice none 0 0, .int .i64 0, .int .i64 0, .bool false, .int .i64 0] 28)
  have R0 := Lib.hid (Rw.new w 28 #[.int .i64 0, .int .i64 0, .int .i64 0, .slice none 0 0, .int .i64 0, .int .i64 0, .bool false, .int .i64 0])
  have S0 := Lib.hid (h.keep b0)
  have G0 := Lib.hid (grown_below (grown_refl w (some g)) b0)
  have P2 : Hid (pickMax 2 = 1) := by show _ = _; decide
  have P3 : Hid (pickMax 3 = 2) := by show _ = _; decide
  have P4 : Hid (pickMax 4 = 3) := by show _ = _; decide
  have P8 : Hid (pickMax 8 = 7) := by show _ = _; decide
  clear b0 h
  go_enter Tryz.func38, Tryz.ntmps38
  go_wp2_with fail
  refine (pick_any B g n 2 _ S0.out (by omega) (by omega) (by omega)).mono ?_
  rintro e w1 ⟨v1, rfl, ⟨d, rfl, hd0, hd1⟩, hS1, hg1⟩
  rw [P2.out] at hd1
  have hz1 := hg1.size
  simp only [World.size_alloc] at hz1
  have R1 := Lib.hid (R0.out.grown hg1 (by omega))
  have G1 := Lib.hid (grown_trans G0.out hg1)
  have S1 := Lib.hid hS1
  clear R0 G0 S0 hg1 hS1
  go_wp2_with fail
  obtain ⟨t0, t1, t2⟩ := Rw.two_new w1 25 2 #[.int .i64 (2 + d), .int .i64 0, .int .i64 0] #[.int .i64 4, .int .i64 4, .int .i64 5]
  have T0 := Lib.hid t0
  have R2 := Lib.hid (R1.out.below t2 (by omega))
  have G2 := Lib.hid (grown_below G1.out (t2.mono (by omega)))
  have S2 := Lib.hid (S1.out.keep t2)
  clear t0 t2 R1 G1 S1
  refine (among_any (fun x => 4 ≤ x ∧ x ≤ 5) B g _ (w1.heap.size + 1) 3 3 _ S2.out (by omega) (by omega) (by omega) (by omega) ?_).mono ?_
  · intro i hi
    rw [t1.cell]
    rcases i with _ | _ | _ | i <;> first | exact ⟨_, rfl, by omega⟩ | omega
  clear t1
  rintro e w2 ⟨v2, rfl, ⟨b, rfl, hb0, hb1⟩, hS2, hg2⟩
  have hz2 := hg2.size
  simp only [World.size_alloc] at hz2
  have R3 := Lib.hid (R2.out.grown hg2 (by omega))
  have G3 := Lib.hid (grown_trans G2.out hg2)
  have S3 := Lib.hid hS2
  have T1 := Lib.hid (T0.out.grown hg2 (by omega))
  clear R2 G2 S2 hg2 hS2 T0
  obtain ⟨a0, a1, a2⟩ := T1.out.three
  obtain ⟨f0, f1, f2, f3, f4, f5, f6, f7⟩ := T1.out.frees
  go_wp2_with fail
  clear a0 a1 a2 f0 f1 f2 f3 f4 f5 f6 f7
  have T2 := Lib.hid ((T1.out.set_ 1 (.int .i64 b)).alloc (.cells #[.int .i64 8, .int .i64 8, .int .i64 16] 2))
  have R4 := Lib.hid ((R3.out.farA (g' := w1.heap.size) (k := 1) (by omega) (.int .i64 b)).alloc (.cells #[.int .i64 8, .int .i64 8, .int .i64 16] 2))
  have G4 := Lib.hid (grown_trans (grown_out (k := 1) G3.out (show w.heap.size ≤ w1.heap.size by omega) (.int .i64 b)) (World.grownBy_alloc _ (.cells #[.int .i64 8, .int .i64 8, .int .i64 16] 2) _))
  have S4 := Lib.hid ((S3.out.keepS (sset (Same.refl _ _ _) (k := 1) (.inr (show g + 1 ≤ w1.heap.size by omega)) (.int .i64 b)) (by simp)).keep ((Below.refl _ _).alloc (Nat.le_refl _) (.cells #[.int .i64 8, .int .i64 8, .int .i64 16] 2)))
  have N4 := Rw.new (w2.setCell ⟨w1.heap.size, 1, none⟩ (.int .i64 b)) 2 #[.int .i64 8, .int .i64 8, .int .i64 16]
  have hz3 : ((w2.setCell ⟨w1.heap.size, 1, none⟩ (.int .i64 b)).alloc (.cells #[.int .i64 8, .int .i64 8, .int .i64 16] 2)).heap.size = w2.heap.size + 1 := by simp
  simp only [World.size_setCell] at N4
  clear T1 R3 G3 S3
  refine (among_any (fun x => x = 8 ∨ x = 16) B g _ w2.heap.size 3 3 _ S4.out (by omega) (by omega) (by omega) (by omega) ?_).mono ?_
  · intro i hi
    rw [N4.cell]
    rcases i with _ | _ | _ | i <;> first | exact ⟨_, rfl, by omega⟩ | omega
  clear N4
  rintro e w3 ⟨v3, rfl, ⟨p, rfl, hp⟩, hS3, hg3⟩
  have hz4 := hg3.size
  rw [hz3] at hz4
  have R5 := Lib.hid (R4.out.grown hg3 (by omega))
  have G5 := Lib.hid (grown_trans G4.out hg3)
  have S5 := Lib.hid hS3
  have T3 := Lib.hid (show Rw w3 w1.heap.size 25 #[.int .i64 (2 + d), .int .i64 b, .int .i64 0] from T2.out.grown hg3 (by omega))
  clear R4 G4 S4 hg3 hS3 T2 hz3
  have hgeo : (2 ≤ 2 + d ∧ 2 + d ≤ 3) ∧ (4 ≤ b ∧ b ≤ 5) ∧ (p = 8 ∨ p = 16) := ⟨by omega, by omega, hp⟩
  have HGEO := Lib.hid hgeo
  have HP := Lib.hid hp
  clear hgeo hp
  obtain ⟨a0, a1, a2⟩ := T3.out.three
  obtain ⟨f0, f1, f2, f3, f4, f5, f6, f7⟩ := T3.out.frees
  go_wp2_with fail
  clear a0 a1 a2 f0 f1 f2 f3 f4 f5 f6 f7
  have S5k := Shape.new HGEO.out
  have R5b := Lib.hid (R5.out.farA (g' := w1.heap.size) (k := 2) (by omega) (.int .i64 p))
  have G5b := Lib.hid (grown_out (k := 2) G5.out (show w.heap.size ≤ w1.heap.size by omega) (.int .i64 p))
  have S5b := Lib.hid (S5.out.keepS (sset (Same.refl _ _ _) (k := 2) (.inr (show g + 1 ≤ w1.heap.size by omega)) (.int .i64 p)) (by simp))
  have hz5b : (w3.setCell ⟨w1.heap.size, 2, none⟩ (.int .i64 p)).heap.size = w3.heap.size := by simp
  clear R5 G5 S5
  refine (l06New_any (2 + d) b p _ S5k.geo).mono ?_
  rintro e w4 ⟨u, rfl, ho, b4⟩
  have H0 := Lib.hid S5k
  have hz5 := b4.size
  have R6 := Lib.hid (R5b.out.below b4 (by omega))
  have G6 := Lib.hid (grown_below G5b.out (b4.mono (by omega)))
  have S6 := Lib.hid (S5b.out.keep b4)
  obtain ⟨ub, rfl, hb⟩ := ho
  obtain ⟨A, nb, cb, rfl⟩ := hb.slice
  obtain ⟨F, hF⟩ : ∃ F, F = newFl (2 + d) b p := ⟨_, rfl⟩
  rw [← hF] at hb H0 ⊢
  have O0 := Lib.hid hb
  clear R5b G5b S5b b4 S5k hF hb T3 HGEO HP
  unfold flc
  have R7 := Lib.hid (R6.out.alloc (.cells #[.int .i64 F.d, .int .i64 F.b, .int .i64 F.p, .slice A nb cb, .int .i64 F.fu, .int .i64 F.ke, .bool F.off, .int .i64 F.op] 28))
  have Q7 := Lib.hid (Rw.new w4 28 #[.int .i64 F.d, .int .i64 F.b, .int .i64 F.p, .slice A nb cb, .int .i64 F.fu, .int .i64 F.ke, .bool F.off, .int .i64 F.op])
  have G7 := Lib.hid (grown_trans G6.out (World.grownBy_alloc _ (.cells #[.int .i64 F.d, .int .i64 F.b, .int .i64 F.p, .slice A nb cb, .int .i64 F.fu, .int .i64 F.ke, .bool F.off, .int .i64 F.op] 28) _))
  have S7 := Lib.hid (S6.out.keep ((Below.refl _ _).alloc (Nat.le_refl _) (.cells #[.int .i64 F.d, .int .i64 F.b, .int .i64 F.p, .slice A nb cb, .int .i64 F.fu, .int .i64 F.ke, .bool F.off, .int .i64 F.op] 28)))
  have O7 := Lib.hid (O0.out.same (sm ((Below.refl w4.heap.size _).alloc (Nat.le_refl _) (.cells #[.int .i64 F.d, .int .i64 F.b, .int .i64 F.p, .slice A nb cb, .int .i64 F.fu, .int .i64 F.ke, .bool F.off, .int .i64 F.op] 28)) _ (Nat.le_refl _)))
  clear R6 G6 S6 O0
  go_wp2_with fail
  refine (one_any B g _ 3 _ S7.out (by omega) (by omega) (by omega)).mono ?_
  rintro e w5 ⟨v5, rfl, ⟨bb, rfl⟩, hS5, hg5⟩
  have hzf : w.heap.size < w4.heap.size := by simp at hz5; omega
  have D0 := Lib.hid (DrSt.pass (w := w) (r := w.heap.size) (f := w4.heap.size) (M := 0) ⟨F, A, nb, cb, _, _, R7.out, Q7.out, O7.out, ⟨hlt, Nat.le_refl _, hzf, by simp at hz5 ⊢; omega, ⟨by simp at hz5 ⊢; omega, by simp⟩, .inl (Nat.le_refl _)⟩, H0.out, S7.out, G7.out⟩ hg5 hS5)
  clear R7 Q7 O7 H0 S7 G7 hg5 hS5
  obtain ⟨f, hf⟩ : ∃ f, f = w4.heap.size := ⟨_, rfl⟩
  rw [← hf] at hzf D0 ⊢
  clear hf hz5 hz5b hz4 hz2 hz1
  go_upto_if 21 with fail
  go_cut [] (fun wx => Hid (DrSt B g (n + 100) w w.heap.size f 0 wx))
  case first =>
    cases bb
    case' true =>
      go_wp2_with fail
      refine (pick_any B g _ 8 _ D0.out.src (by omega) (by omega) (by omega)).mono ?_
      rintro e w6 ⟨v6, rfl, ⟨x, rfl, hx0, hx1⟩, hS6, hg6⟩
      have D1 := Lib.hid (D0.out.pass hg6 hS6)
      clear D0 hg6 hS6 hx0 hx1
      obtain ⟨c0, c1, c2, c3, c4, c5, c6, c7, hr⟩ := D1.out.frees
      obtain ⟨d0, d1, d2, d3, d4, d5, d6, d7⟩ := hr.eight
      obtain ⟨f0, f1, f2, f3, f4, f5, f6, f7⟩ := hr.frees
      clear hr
      go_wp2_with fail
      clear d0 d1 d2 d3 d4 d5 d6 d7 f0 f1 f2 f3 f4 f5 f6 f7 c0 c1 c2 c3 c4 c5 c6 c7
      have D2 := Lib.hid (D1.out.put 4 (.int .i64 x) (.inl ⟨rfl, _, rfl⟩))
      clear D1
      refine (l06Keep_any B g _ _ D2.out.src (by omega)).mono ?_
      rintro e w7 ⟨v7, rfl, ⟨y, rfl, hy0, hy1⟩, hS7, hg7⟩
      have D3 := Lib.hid (D2.out.pass hg7 hS7)
      clear D2 hg7 hS7 hy0 hy1
      obtain ⟨c0, c1, c2, c3, c4, c5, c6, c7, hr⟩ := D3.out.frees
      obtain ⟨d0, d1, d2, d3, d4, d5, d6, d7⟩ := hr.eight
      obtain ⟨f0, f1, f2, f3, f4, f5, f6, f7⟩ := hr.frees
      clear hr
      go_wp2
      go_meet
      case rel => exact Lib.hid ((D3.out.put 5 (.int .i64 y) (.inr (.inl ⟨rfl, _, rfl⟩))).more (by omega))
    case' false =>
      go_wp2
      go_meet
      case rel => exact Lib.hid (D0.out.more (by omega))
  case rest =>
    clear D0
    obtain ⟨F, A, nb, cb, lo, hi, h1, h2, h3, h4, h5, h6, h7⟩ := hcut.out
    have R8 := Lib.hid h1
    have Q8 := Lib.hid h2
    have hfl := h2.lt
    have G8 := Lib.hid h7
    have H4 := Lib.hid h4
    obtain ⟨d0, d1, d2, d3, d4, d5, d6, d7⟩ := h2.eight
    have WORK := Lib.hid (l06Work_any B g (n + 100) lo hi 0 (.agg (flc F (.slice A nb cb))) F wc h6 (by omega) ⟨_, rfl, h3⟩ (by omega) (by have := h7.size; omega) (by omega) h5 (by omega))
    clear hcut h1 h2 h3 h4 h5 h6 h7
    unfold flc at WORK
    go_wp2_with fail
    refine WORK.out.mono ?_
    rintro e w8 ⟨v8, G, lo2, hi2, rfl, ⟨u8, rfl, hown⟩, hbd, hsh, hs8, hg8⟩
    obtain ⟨A2, n2, cc2, rfl⟩ := hown.slice
    unfold flc
    have h4 := H4.out
    have hz8 := hg8.size
    have R9 := Lib.hid (R8.out.grown hg8 (by omega))
    have q9 := Q8.out.grown hg8 (by omega)
    have Q9 := Lib.hid q9
    have G9 := Lib.hid (grown_trans G8.out hg8)
    have S9 := Lib.hid hs8
    have O9 := Lib.hid hown
    have hlh := hown.lohi (by have := hsh.len; omega)
    have B9 := Lib.hid (And.intro hbd hlh)
    have H9 := Lib.hid hsh
    clear d0 d1 d2 d3 d4 d5 d6 d7 WORK R8 Q8 G8 hg8 hs8 hown hbd hlh hsh h4
    obtain ⟨d0, d1, d2, d3, d4, d5, d6, d7⟩ := q9.eight
    obtain ⟨f0, f1, f2, f3, f4, f5, f6, f7⟩ := q9.frees
    clear q9
    go_wp2_with fail
    clear d0 d1 d2 d3 d4 d5 d6 d7 f0 f1 f2 f3 f4 f5 f6 f7
    have D4 := Lib.hid (DrSt.all R9.out Q9.out O9.out (by have := B9.out; have := H4.out; omega) H9.out S9.out G9.out)
    clear R9 Q9 O9 H9 S9 G9 B9 H4
    refine (one_any B g _ 3 _ D4.out.src (by omega) (by omega) (by omega)).mono ?_
    rintro e w9 ⟨v9, rfl, ⟨b2, rfl⟩, hS9, hg9⟩
    have D5 := Lib.hid (D4.out.pass hg9 hS9)
    clear D4 hg9 hS9
    go_upto_if 32 with fail
    go_cut [] (fun wx => Hid (DrSt B g (n + 100200) w w.heap.size f 8 wx))
    case first =>
      cases b2
      case' true =>
        obtain ⟨c0, c1, c2, c3, c4, c5, c6, c7, hr⟩ := D5.out.frees
        obtain ⟨d0, d1, d2, d3, d4, d5, d6, d7⟩ := hr.eight
        obtain ⟨f0, f1, f2, f3, f4, f5, f6, f7⟩ := hr.frees
        clear hr
        go_wp2_with fail
        clear d0 d1 d2 d3 d4 d5 d6 d7 f0 f1 f2 f3 f4 f5 f6 f7 c0 c1 c2 c3 c4 c5 c6 c7
        have D6 := Lib.hid (D5.out.put 6 (.bool false) (.inr (.inr ⟨rfl, _, rfl⟩)))
        clear D5
        refine (pick_any B g _ 3 _ D6.out.src (by omega) (by omega) (by omega)).mono ?_
        rintro e w10 ⟨v10, rfl, ⟨x, rfl, hx0, hx1⟩, hS10, hg10⟩
        rw [P3.out] at hx1
        have D7 := Lib.hid (D6.out.pass hg10 hS10)
        clear D6 hg10 hS10
        obtain ⟨c0, c1, c2, c3, c4, c5, c6, c7, hr⟩ := D7.out.frees
        obtain ⟨d0, d1, d2, d3, d4, d5, d6, d7⟩ := hr.eight
        obtain ⟨f0, f1, f2, f3, f4, f5, f6, f7⟩ := hr.frees
        clear hr
        go_wp2_with fail
        clear d0 d1 d2 d3 d4 d5 d6 d7 f0 f1 f2 f3 f4 f5 f6 f7 c0 c1 c2 c3 c4 c5 c6 c7
        have D8 := Lib.hid (D7.out.put 4 (.int .i64 (x - 1)) (.inl ⟨rfl, _, rfl⟩))
        clear D7
        refine (l06Keep_any B g _ _ D8.out.src (by omega)).mono ?_
        rintro e w11 ⟨v11, rfl, ⟨y, rfl, hy0, hy1⟩, hS11, hg11⟩
        have D9 := Lib.hid (D8.out.pass hg11 hS11)
        clear D8 hg11 hS11 hy0 hy1
        obtain ⟨c0, c1, c2, c3, c4, c5, c6, c7, hr⟩ := D9.out.frees
        obtain ⟨d0, d1, d2, d3, d4, d5, d6, d7⟩ := hr.eight
        obtain ⟨f0, f1, f2, f3, f4, f5, f6, f7⟩ := hr.frees
        clear hr
        go_wp2
        go_meet
        case rel => exact Lib.hid ((D9.out.put 5 (.int .i64 y) (.inr (.inl ⟨rfl, _, rfl⟩))).more (by omega))
      case' false =>
        go_wp2
        go_meet
        case rel => exact Lib.hid (D5.out.more (by omega))
    case rest =>
      clear D5
      obtain ⟨wd, hwd⟩ : ∃ x, x = wc := ⟨_, rfl⟩
      rw [← hwd] at hcut ⊢
      clear hwd
      have D5 := hcut
      clear hcut
      go_wp2_with fail
      refine (one_any B g _ 5 _ D5.out.src (by omega) (by omega) (by omega)).mono ?_
      rintro e w12 ⟨v12, rfl, ⟨b3, rfl⟩, hS12, hg12⟩
      have D6 := Lib.hid (D5.out.pass hg12 hS12)
      clear D5 hg12 hS12
      go_upto_if 42 with fail
      go_cut [] (fun wx => Hid (DrSt B g (n + 100300) w w.heap.size f 8 wx))
      case first =>
        cases b3
        case' true =>
          obtain ⟨F, A, nb, cb, lo, hi, h1, h2, h3, h4, h5, h6, h7⟩ := D6.out
          obtain ⟨A', len, cap, e3, hl1, hl2, hl3, hbz⟩ := h3
          have hlen := h5.len
          obtain ⟨gb, pv, e4, hbo⟩ := hbz (by omega)
          clear hbz
          injection e3 with e3 e5 e6
          subst e3 e4 e5 e6
          have BO6 := Lib.hid (hbo.same (w' := w12.drew) (fun _ _ _ => rfl))
          have R6 := Lib.hid h1
          have Q6 := Lib.hid h2
          have B6 := Lib.hid h4
          have H6 := Lib.hid h5
          have S6 := Lib.hid h6
          have G6 := Lib.hid h7
          have NB := Lib.hid (show F.bs.length = nb from hl3)
          clear D6 h1 h2 h4 h5 h6 h7 hbo hlen hl3
          go_wp2_with fail
          refine wp_region_held_drew (S := fun W => Rw W f 28 #[.int .i64 F.d, .int .i64 F.b, .int .i64 F.p, .slice (some ⟨gb, 0, none⟩) nb cb, .int .i64 F.fu, .int .i64 F.ke, .bool F.off, .int .i64 F.op]) (by kernel_rfl) (show Rw w12.drew _ _ _ from Q6.out) (fun hHeld => ?_)
          refine wpAnyH_take (i := 0) (oi := _) (v := .pointer (some ⟨f, 3, none⟩)) rfl (by kernel_rfl) (by kernel_rfl) (by kernel_rfl) (fun _ _ _ h => h) (Or.inl ⟨by rfl, fun W hSw => by go_simp⟩) hHeld ?_
          refine wpAnyH_take (i := 1) (oi := _) (v := .slice (some ⟨gb, 0, none⟩) nb cb) rfl (by kernel_rfl) (by kernel_rfl) (by kernel_rfl) (fun _ _ _ h => h) (Or.inl ⟨by rfl, fun W hSw => by obtain ⟨q0, q1, q2, q3, q4, q5, q6, q7⟩ := hSw.eight; go_simp⟩) hHeld ?_
          refine wpAnyH_take (i := 2) (oi := _) (v := .pointer (some ⟨g, 0, none⟩)) rfl (by kernel_rfl) (by kernel_rfl) (by kernel_rfl) (fun _ _ _ h => h) (Or.inl ⟨by rfl, fun W hSw => by go_simp⟩) hHeld ?_
          refine wpAnyH_ready (rs := [3]) (by kernel_rfl) (by simp) ?_
          refine AllReadyH.cons (o := _) rfl (fun K hK => ?_) AllReadyH.nil
          go_simp
          refine (pick_any B g _ 4 w12.drew S6.out (by omega) (by omega) (by omega)).mono ?_
          rintro e w13 ⟨v13, rfl, ⟨z, rfl, hz0, hz1⟩, hS13, hg13⟩
          rw [P4.out] at hz1
          have q7 := Q6.out.grown (grown_drewL hg13) (by have := B6.out; omega)
          have Q7 := Lib.hid q7
          refine hK.out _ _ q7 (fun hHeld => ?_)
          clear hK K
          obtain ⟨k, rfl⟩ := Int.eq_ofNat_of_zero_le hz0
          have hlen := H6.out.len
          rw [NB.out] at hlen
          have hkn : k < nb := by omega
          have hk3 : k ≤ 3 := by omega
          have hz14 := hg13.size
          rw [show w12.drew.heap.size = w12.heap.size from rfl] at hz14
          have bo7 := BO6.out.same (same_above hg13 (by have := B6.out; omega) (by have := B6.out; exact this.2.2.2.2.1.2))
          have BO7 := Lib.hid bo7
          have R7 := Lib.hid (show Rw w13 w.heap.size 28 _ from (show Rw w12.drew _ _ _ from R6.out).grown hg13 (by omega))
          have S7 := Lib.hid hS13
          have G7 := Lib.hid (grown_trans G6.out (grown_drewL hg13))
          obtain ⟨r0, r1, r2, r3⟩ := bo7.row k (by rw [NB.out]; exact hkn)
          have fr := bo7.free (k * 4 + 2)
          clear BO6 R6 Q6 S6 G6 hg13 hS13 bo7 hz0 hz1 q7 hlen r0 r1 r3
          refine wpAnyH_ready (rs := [4]) (by kernel_rfl) (by simp) ?_
          refine AllReadyH.cons (o := _) rfl (fun K hK => ?_) AllReadyH.nil
          go_simp
          refine hK.out _ _ Q7.out (fun hHeld => ?_)
          clear hK K
          refine wpAnyH_ready (rs := [5]) (by kernel_rfl) (by simp) ?_
          refine AllReadyH.cons (o := _) rfl (fun K hK => ?_) AllReadyH.nil
          go_simp
          refine hK.out _ _ Q7.out (fun hHeld => ?_)
          clear hK K
          refine wpAnyH_ready (rs := [6]) (by kernel_rfl) (by simp) ?_
          refine AllReadyH.cons (o := _) rfl (fun K hK => ?_) AllReadyH.nil
          go_simp
          refine hK.out _ _ (show Rw (w13.setCell _ _) _ _ _ from Q7.out.farA (by have := BO7.out.low; have := BO7.out.high; have := B6.out; omega) _) (fun hHeld => ?_)
          clear hK K
          refine wpAnyH_done (by kernel_rfl) ?_ _
          go_wp2
          go_meet
          case rel => exact Lib.hid ((DrSt.blk (c := 2) R7.out Q7.out BO7.out hl1 hl2 NB.out (by have := B6.out; omega) H6.out S7.out G7.out hkn (.inr (.inr ⟨rfl, _, rfl⟩))).more (by omega))
        case' false =>
          go_wp2
          go_meet
          case rel => exact Lib.hid (D6.out.more (by omega))
      case rest =>
        obtain ⟨we, hwe⟩ : ∃ x, x = wc := ⟨_, rfl⟩
        rw [← hwe] at hcut ⊢
        clear hwe D6
        have D5 := hcut
        clear hcut
        go_wp2_with fail
        refine (one_any B g _ 8 _ D5.out.src (by omega) (by omega) (by omega)).mono ?_
        rintro e w14 ⟨v14, rfl, ⟨b4, rfl⟩, hS14, hg14⟩
        have D6 := Lib.hid (D5.out.pass hg14 hS14)
        clear D5 hg14 hS14
        go_upto_if 50 with fail
        go_cut [] (fun wx => Hid (DrSt B g (n + 100400) w w.heap.size f 8 wx))
        case first =>
          cases b4
          case' true =>
            go_wp2_with fail
            refine (pick_any B g _ 4 _ D6.out.src (by omega) (by omega) (by omega)).mono ?_
            rintro e w15 ⟨v15, rfl, ⟨z, rfl, hz0, hz1⟩, hS15, hg15⟩
            rw [P4.out] at hz1
            have D7 := Lib.hid (D6.out.pass hg15 hS15)
            clear D6 hg15 hS15
            obtain ⟨k, rfl⟩ := Int.eq_ofNat_of_zero_le hz0
            obtain ⟨F, A, nb, cb, lo, hi, h1, h2, h3, h4, h5, h6, h7⟩ := D7.out
            obtain ⟨A', len, cap, e3, hl1, hl2, hl3, hbz⟩ := h3
            have hlen := h5.len
            obtain ⟨gb, pv, e4, hbo⟩ := hbz (by omega)
            clear hbz
            injection e3 with e3 e5 e6
            subst e3 e4 e5 e6
            have hkn : k < nb := by omega
            have hk3 : k ≤ 3 := by omega
            have BO6 := Lib.hid (hbo.same (w' := w15.drew) (fun _ _ _ => rfl))
            have R6 := Lib.hid h1
            have Q6 := Lib.hid h2
            have B6 := Lib.hid h4
            have H6 := Lib.hid h5
            have S6 := Lib.hid h6
            have G6 := Lib.hid h7
            have NB := Lib.hid (show F.bs.length = nb from hl3)
            clear D7 h1 h2 h4 h5 h6 h7 hbo hlen hl3 hz0 hz1
            go_wp2_with fail
            refine wp_region_held_drew (S := fun W => Rw W f 28 #[.int .i64 F.d, .int .i64 F.b, .int .i64 F.p, .slice (some ⟨gb, 0, none⟩) nb cb, .int .i64 F.fu, .int .i64 F.ke, .bool F.off, .int .i64 F.op]) (by kernel_rfl) (show Rw w15.drew _ _ _ from Q6.out) (fun hHeld => ?_)
            refine wpAnyH_take (i := 0) (oi := _) (v := .pointer (some ⟨f, 3, none⟩)) rfl (by kernel_rfl) (by kernel_rfl) (by kernel_rfl) (fun _ _ _ h => h) (Or.inl ⟨by rfl, fun W hSw => by go_simp⟩) hHeld ?_
            refine wpAnyH_take (i := 1) (oi := _) (v := .slice (some ⟨gb, 0, none⟩) nb cb) rfl (by kernel_rfl) (by kernel_rfl) (by kernel_rfl) (fun _ _ _ h => h) (Or.inl ⟨by rfl, fun W hSw => by obtain ⟨q0, q1, q2, q3, q4, q5, q6, q7⟩ := hSw.eight; go_simp⟩) hHeld ?_
            refine wpAnyH_take (i := 2) (oi := _) (v := .int .i64 (k : Int)) rfl (by kernel_rfl) (by kernel_rfl) (by kernel_rfl) (fun _ _ _ h => h) (Or.inl ⟨by rfl, fun W hSw => by go_simp⟩) hHeld ?_
            refine wpAnyH_take (i := 3) (oi := _) (v := .pointer (some ⟨g, 0, none⟩)) rfl (by kernel_rfl) (by kernel_rfl) (by kernel_rfl) (fun _ _ _ h => h) (Or.inl ⟨by rfl, fun W hSw => by go_simp⟩) hHeld ?_
            refine wpAnyH_ready (rs := [4]) (by kernel_rfl) (by simp) ?_
            refine AllReadyH.cons (o := _) rfl (fun K hK => ?_) AllReadyH.nil
            go_simp
            refine (pick_any B g _ 2 w15.drew S6.out (by omega) (by omega) (by omega)).mono ?_
            rintro e w16 ⟨v16, rfl, ⟨y, rfl, hy0, hy1⟩, hS16, hg16⟩
            rw [P2.out] at hy1
            have q7 := Q6.out.grown (grown_drewL hg16) (by have := B6.out; omega)
            have Q7 := Lib.hid q7
            refine hK.out _ _ q7 (fun hHeld => ?_)
            clear hK K
            have hz16 := hg16.size
            rw [show w15.drew.heap.size = w15.heap.size from rfl] at hz16
            have bo7 := BO6.out.same (same_above hg16 (by have := B6.out; omega) (by have := B6.out; exact this.2.2.2.2.1.2))
            have BO7 := Lib.hid bo7
            have R7 := Lib.hid (show Rw w16 w.heap.size 28 _ from (show Rw w15.drew _ _ _ from R6.out).grown hg16 (by omega))
            have S7 := Lib.hid hS16
            have G7 := Lib.hid (grown_trans G6.out (grown_drewL hg16))
            obtain ⟨r0, r1, r2, r3⟩ := bo7.row k (by rw [NB.out]; exact hkn)
            have fr := bo7.free (k * 4)
            have hwy : IntKind.i64.wrap (999 + y) = 999 + y := IntWalk.i64_in _ (by omega)
            clear BO6 R6 Q6 S6 G6 hg16 hS16 bo7 q7 r1 r2 r3
            refine wpAnyH_ready (rs := [5]) (by kernel_rfl) (by simp) ?_
            refine AllReadyH.cons (o := _) rfl (fun K hK => ?_) AllReadyH.nil
            go_simp
            refine hK.out _ _ Q7.out (fun hHeld => ?_)
            clear hK K
            refine wpAnyH_ready (rs := [6]) (by kernel_rfl) (by simp) ?_
            refine AllReadyH.cons (o := _) rfl (fun K hK => ?_) AllReadyH.nil
            go_simp
            refine hK.out _ _ Q7.out (fun hHeld => ?_)
            clear hK K
            refine wpAnyH_ready (rs := [7]) (by kernel_rfl) (by simp) ?_
            refine AllReadyH.cons (o := _) rfl (fun K hK => ?_) AllReadyH.nil
            go_simp
            refine hK.out _ _ Q7.out (fun hHeld => ?_)
            clear hK K
            refine wpAnyH_ready (rs := [8]) (by kernel_rfl) (by simp) ?_
            refine AllReadyH.cons (o := _) rfl (fun K hK => ?_) AllReadyH.nil
            go_simp
            refine hK.out _ _ (show Rw (w16.setCell _ _) _ _ _ from Q7.out.farA (by have := BO7.out.low; have := BO7.out.high; have := B6.out; omega) _) (fun hHeld => ?_)
            clear hK K
            refine wpAnyH_done (by kernel_rfl) ?_ _
            go_wp2
            go_meet
            case rel => exact Lib.hid ((DrSt.blk (c := 0) R7.out Q7.out BO7.out hl1 hl2 NB.out (by have := B6.out; omega) H6.out S7.out G7.out hkn (.inl ⟨rfl, _, rfl⟩)).more (by omega))
          case' false =>
            go_wp2
            go_meet
            case rel => exact Lib.hid (D6.out.more (by omega))
        case rest =>
          clear D6
          obtain ⟨F, A, nb, cb, lo, hi, h1, h2, h3, h4, h5, h6, h7⟩ := hcut.out
          obtain ⟨d0, d1, d2, d3, d4, d5, d6, d7⟩ := h2.eight
          obtain ⟨r0, r1, r2, r3, r4, r5, r6, r7⟩ := h1.eight
          obtain ⟨f0, f1, f2, f3, f4, f5, f6, f7⟩ := h1.frees
          have R7 := Lib.hid h1
          have O7 := Lib.hid h3
          have B7 := Lib.hid h4
          have H7 := Lib.hid h5
          have S7 := Lib.hid h6
          have G7 := Lib.hid h7
          clear hcut h1 h2 h3 h4 h5 h6 h7
          go_wp2
          have own2 := O7.out.same (w' := ((((((((wc.setCell ⟨w.heap.size, 0, none⟩ (.int .i64 F.d)).setCell ⟨w.heap.size, 1, none⟩ (.int .i64 F.b)).setCell ⟨w.heap.size, 2, none⟩ (.int .i64 F.p)).setCell ⟨w.heap.size, 3, none⟩ (.slice A nb cb)).setCell ⟨w.heap.size, 4, none⟩ (.int .i64 F.fu)).setCell ⟨w.heap.size, 5, none⟩ (.int .i64 F.ke)).setCell ⟨w.heap.size, 6, none⟩ (.bool F.off)).setCell ⟨w.heap.size, 7, none⟩ (.int .i64 F.op))) (by (repeat refine sset ?_ (by have := B7.out; omega) _); exact Same.refl _ _ _)
          have src2 := S7.out.keepS (w' := ((((((((wc.setCell ⟨w.heap.size, 0, none⟩ (.int .i64 F.d)).setCell ⟨w.heap.size, 1, none⟩ (.int .i64 F.b)).setCell ⟨w.heap.size, 2, none⟩ (.int .i64 F.p)).setCell ⟨w.heap.size, 3, none⟩ (.slice A nb cb)).setCell ⟨w.heap.size, 4, none⟩ (.int .i64 F.fu)).setCell ⟨w.heap.size, 5, none⟩ (.int .i64 F.ke)).setCell ⟨w.heap.size, 6, none⟩ (.bool F.off)).setCell ⟨w.heap.size, 7, none⟩ (.int .i64 F.op))) (by (repeat refine sset ?_ (.inr (by omega)) _); exact Same.refl _ _ _) (by simp)
          have gr2 : w.grownBy ((((((((wc.setCell ⟨w.heap.size, 0, none⟩ (.int .i64 F.d)).setCell ⟨w.heap.size, 1, none⟩ (.int .i64 F.b)).setCell ⟨w.heap.size, 2, none⟩ (.int .i64 F.p)).setCell ⟨w.heap.size, 3, none⟩ (.slice A nb cb)).setCell ⟨w.heap.size, 4, none⟩ (.int .i64 F.fu)).setCell ⟨w.heap.size, 5, none⟩ (.int .i64 F.ke)).setCell ⟨w.heap.size, 6, none⟩ (.bool F.off)).setCell ⟨w.heap.size, 7, none⟩ (.int .i64 F.op)) (some g) := by
            repeat refine grown_out ?_ (by omega) _
            exact G7.out
          refine bodyPost_ret (results_cell_row Tryz.results38 _ _ _ _ _ _ _ rfl (R7.out.put8 _ _ _ _ _ _ _ _) Tryz.underlying28 rfl infoFl8) rfl ⟨_, F, rfl, ⟨_, rfl, own2.wide (by have := B7.out; omega) (by have := B7.out; simp; omega)⟩, H7.out, src2.more (by omega), gr2⟩
end Go.Proofs.YthenilomgbnpeaaGreatDoor
