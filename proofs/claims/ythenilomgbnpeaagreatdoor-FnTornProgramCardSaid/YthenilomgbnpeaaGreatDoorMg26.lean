/- The proof's own lemmas, part 27: DrB. -/
import Derived.Test.YthenilomgbnpeaaGreatDoorMg25
import Derived.Deep.CutBlock
/- Chapter 6's generator of arrays that are sometimes invalid: the contract. -/
namespace Go.Proofs.YthenilomgbnpeaaGreatDoor
open Go.RowKit
set_option linter.unusedVariables false
/-- What is said of an array that the generator returns: how many blocks and pages, and how many operations. -/
def Bent (F : Fl) : Prop := F.bs.length ≤ 36 ∧ (∀ i, i < F.bs.length → (F.blk i).pg.length ≤ 16) ∧ (-1 ≤ F.op ∧ F.op ≤ 8)
theorem Shape.bent {F : Fl} (h : Shape F 8) : Bent F := ⟨by have := h.len; omega, fun i hi => by have := h.plen hi; omega, by have := h.2.2.2; omega⟩
theorem Bent.lens {F : Fl} (h : Bent F) : FlLen F := ⟨by have := h.1; omega, fun i hi => by have := h.2.1 i hi; omega⟩
def BentSt (B g n : Nat) (w : World) (r f : Nat) (wx : World) : Prop := ∃ (F : Fl) (A : Option Addr) (nb cb lo hi : Nat), Rw wx r 28 #[.int .i64 0, .int .i64 0, .int .i64 0, .slice none 0 0, .int .i64 0, .int .i64 0, .bool false, .int .i64 0] ∧
  Rw wx f 28 #[.int .i64 F.d, .int .i64 F.b, .int .i64 F.p, .slice A nb cb, .int .i64 F.fu, .int .i64 F.ke, .bool F.off, .int .i64 F.op] ∧ BksIn wx lo hi (.slice A nb cb) F.bs ∧ (g < w.heap.size ∧ w.heap.size ≤ r ∧ r < f ∧ r < lo ∧ (lo ≤ wx.heap.size ∧ hi ≤ wx.heap.size) ∧ (hi ≤ f ∨ f + 1 ≤ lo)) ∧ Bent F ∧ Src wx B g n ∧ w.grownBy wx (some g)
section
variable {B g n m r f : Nat} {w wx : World}
theorem BentSt.more (h : BentSt B g n w r f wx) (hn : n ≤ m) : BentSt B g m w r f wx := by
  obtain ⟨F, A, nb, cb, lo, hi, h1, h2, h3, h4, h5, h6, h7⟩ := h
  exact ⟨F, A, nb, cb, lo, hi, h1, h2, h3, h4, h5, h6.more hn, h7⟩
theorem DrSt.bent (h : DrSt B g n w r f 8 wx) : BentSt B g n w r f wx := by
  obtain ⟨F, A, nb, cb, lo, hi, h1, h2, h3, h4, h5, h6, h7⟩ := h
  exact ⟨F, A, nb, cb, lo, hi, h1, h2, h3.reads, h4, h5.bent, h6, h7⟩
theorem DrSt.geo (h : DrSt B g n w r f 8 wx) (x : Int) : BentSt B g n w r f (wx.setCell ⟨f, 2, none⟩ (.int .i64 x)) := by
  obtain ⟨F, A, nb, cb, lo, hi, h1, h2, h3, h4, h5, h6, h7⟩ := h
  refine ⟨{ F with p := x }, A, nb, cb, lo, hi, h1.farA (by omega) _, h2.set_ 2 _, (h3.same (sset (Same.refl lo hi wx) (by omega) _)).reads, by simp only [World.size_setCell]; exact h4, h5.bent, h6.keepS (sset (Same.refl _ _ _) (.inr (by omega)) _) (by simp), grown_out h7 (by omega) _⟩
theorem DrSt.ops (h : DrSt B g n w r f 8 wx) : BentSt B g n w r f (wx.setCell ⟨f, 7, none⟩ (.int .i64 (-1))) := by
  obtain ⟨F, A, nb, cb, lo, hi, h1, h2, h3, h4, h5, h6, h7⟩ := h
  refine ⟨{ F with op := -1 }, A, nb, cb, lo, hi, h1.farA (by omega) _, h2.set_ 7 _, (h3.same (sset (Same.refl lo hi wx) (by omega) _)).reads, by simp only [World.size_setCell]; exact h4, ⟨h5.bent.1, h5.bent.2.1, by show (-1 : Int) ≤ -1 ∧ (-1 : Int) ≤ 8; omega⟩, h6.keepS (sset (Same.refl _ _ _) (.inr (by omega)) _) (by simp), grown_out h7 (by omega) _⟩
/-- The first block cut off. -/
theorem DrSt.tail {F : Fl} {gb nb cb lo hi : Nat} {pv : Nat → Value} (h1 : Rw wx r 28 #[.int .i64 0, .int .i64 0, .int .i64 0, .slice none 0 0, .int .i64 0, .int .i64 0, .bool false, .int .i64 0]) (h2 : Rw wx f 28 #[.int .i64 F.d, .int .i64 F.b, .int .i64 F.p, .slice (some ⟨gb, 0, none⟩) nb cb, .int .i64 F.fu, .int .i64 F.ke, .bool F.off, .int .i64 F.op]) (h3 : BO wx lo hi gb pv F.bs) (hl1 : nb ≤ cb) (hl2 : cb ≤ 9223372036854775807) (hl3 : F.bs.length = nb)
    (h4 : (g < w.heap.size ∧ w.heap.size ≤ r ∧ r < f ∧ r < lo ∧ (lo ≤ wx.heap.size ∧ hi ≤ wx.heap.size) ∧ (hi ≤ f ∨ f + 1 ≤ lo))) (h5 : Shape F 8) (h6 : Src wx B g n) (h7 : w.grownBy wx (some g)) :
    BentSt B g n w r f (wx.setCell ⟨f, 3, none⟩ (.slice (some ⟨gb, 4, none⟩) (nb - 1) (cb - 1))) := by
  have hl := h5.len
  have bo := (h3.same (sset (Same.refl lo hi wx) (g := f) (k := 3) (by omega) (.slice (some ⟨gb, 4, none⟩) (nb - 1) (cb - 1))))
  have hd : ∀ i, (F.bs.drop 1).getD i Blk.zero = F.bs.getD (1 + i) Blk.zero := fun i => by rw [List.getD_eq_getElem?_getD, List.getD_eq_getElem?_getD, List.getElem?_drop]
  refine ⟨{ F with bs := F.bs.drop 1 }, some ⟨gb, 4, none⟩, nb - 1, cb - 1, lo, hi, h1.farA (by omega) _, h2.set_ 3 _, ⟨_, _, _, rfl, by omega, by omega, by simp; omega, fun _ => ⟨gb, 4, rfl, bo.low, bo.high, fun i hi => ⟨pv (1 + i), ?_, ?_⟩⟩⟩, by simp only [World.size_setCell]; exact h4, ⟨?_, fun i hi => ?_, h5.bent.2.2⟩, h6.keepS (sset (Same.refl _ _ _) (.inr (by omega)) _) (by simp), grown_out h7 (by omega) _⟩
  · have := bo.row (1 + i) (by omega)
    rw [hd, show 4 + i * 4 = (1 + i) * 4 by omega]
    exact this
  · rw [hd]
    exact (bo.pgs (1 + i) (by omega)).reads
  · show (F.bs.drop 1).length ≤ 36
    rw [List.length_drop]; omega
  · have hi2 : i < (F.bs.drop 1).length := hi
    rw [List.length_drop] at hi2
    show ((F.bs.drop 1).getD i Blk.zero).pg.length ≤ 16
    rw [hd]
    exact h5.bent.2.1 (1 + i) (by omega)
/-- A page of a block replaced. -/
theorem DrSt.page {F : Fl} {gb nb cb lo hi k b off np cp : Nat} {pv : Nat → Value} {s : ByteArray} (h1 : Rw wx r 28 #[.int .i64 0, .int .i64 0, .int .i64 0, .slice none 0 0, .int .i64 0, .int .i64 0, .bool false, .int .i64 0]) (h2 : Rw wx f 28 #[.int .i64 F.d, .int .i64 F.b, .int .i64 F.p, .slice (some ⟨gb, 0, none⟩) nb cb, .int .i64 F.fu, .int .i64 F.ke, .bool F.off, .int .i64 F.op]) (h3 : BO wx lo hi gb pv F.bs) (hl1 : nb ≤ cb) (hl2 : cb ≤ 9223372036854775807) (hl3 : F.bs.length = nb)
    (h4 : (g < w.heap.size ∧ w.heap.size ≤ r ∧ r < f ∧ r < lo ∧ (lo ≤ wx.heap.size ∧ hi ≤ wx.heap.size) ∧ (hi ≤ f ∨ f + 1 ≤ lo))) (h5 : Shape F 8) (h6 : Src wx B g n) (h7 : w.grownBy wx (some g)) (hk : k < nb) (hv : pv k = .slice (some ⟨b, off, none⟩) np cp) (hnp : 0 < np) (hs : s.size ≤ 9223372036854775807) :
    BentSt B g n w r f (wx.setCell ⟨b, off, none⟩ (.string s)) := by
  have hp := h3.page (k := k) (by omega) hv hnp
  have bo := h3.storePg (k := k) (n := 0) (by omega) hnp hv s hs
  have hsh := h5.set (G := { F with bs := F.bs.set k { F.bs.getD k Blk.zero with pg := (F.bs.getD k Blk.zero).pg.set 0 s } }) k _ (by simp [Fl.blk]) rfl rfl rfl rfl h5.2.2.2
  exact ⟨{ F with bs := F.bs.set k { F.bs.getD k Blk.zero with pg := (F.bs.getD k Blk.zero).pg.set 0 s } }, some ⟨gb, 0, none⟩, nb, cb, lo, hi, h1.farA (by omega) _, h2.farA (by omega) _, BksOwn.reads ⟨_, _, _, rfl, hl1, hl2, by simpa using hl3, fun _ => ⟨gb, pv, rfl, bo⟩⟩, by simp only [World.size_setCell]; exact h4, hsh.bent, h6.keepS (sset (Same.refl _ _ _) (.inr (by omega)) _) (by simp), grown_out h7 (by omega) _⟩
end
/-- What l06Bent does. -/
def BentFl (B g n : Nat) (w : World) (e : Ending) (w' : World) : Prop := ∃ (v : Value) (F : Fl), e = .returned v ∧ FlIn w' w.heap.size w'.heap.size v F ∧ Bent F ∧ Src w' B g n ∧ w.grownBy w' (some g)
set_option maxHeartbeats 4000000 in
set_option maxRecDepth 100000 in
theorem l06Bent_any (B g n : Nat) (w : World) (h : Src w B g n) (hn : n ≤ 300000000000) :
    Calls Tryz.prog 17 #[.pointer (some ⟨g, 0, none⟩)] w (BentFl B g (n + 300000) w) := by
  have hlt := h.lt
  have b0 := (Below.refl w.heap.size w).alloc (Nat.le_refl _) (.cells #[.int .i64 0, .int .i64 0, .int .i64 0, .slice none 0 0, .int .i64 0, .int .i64 0, .bool false, .int .i64 0] 28)
  have R0 := Lib.hid (Rw.new w 28 #[.int .i64 0, .int .i64 0, .int .i64 0, .slice none 0 0, .int .i64 0, .int .i64 0, .bool false, .int .i64 0])
  have S0 := Lib.hid (h.keep b0)
  have G0 := Lib.hid (grown_below (grown_refl w (some g)) b0)
  have P4 : Hid (pickMax 4 = 3) := by show _ = _; decide
  have P24 : Hid (pickMax 24 = 23) := by show _ = _; decide
  clear b0 h
  go_enter Tryz.func17, Tryz.ntmps17
  go_wp2_with fail
  refine (l06Draw_any B g n _ S0.out (by omega)).mono ?_
  rintro e w1 ⟨v1, F, rfl, ⟨u, rfl, hb⟩, hsh, hS1, hg1⟩
  obtain ⟨A, nb, cb, rfl⟩ := hb.slice
  have hz1 := hg1.size
  simp only [World.size_alloc] at hb hz1
  obtain ⟨f, hf⟩ : ∃ f, f = w1.heap.size := ⟨_, rfl⟩
  have D0 := Lib.hid (show DrSt B g (n + 200000) w w.heap.size w1.heap.size 8 (w1.alloc (.cells #[.int .i64 F.d, .int .i64 F.b, .int .i64 F.p, .slice A nb cb, .int .i64 F.fu, .int .i64 F.ke, .bool F.off, .int .i64 F.op] 28)) from
    ⟨F, A, nb, cb, _, _, (R0.out.grown hg1 (by omega)).alloc _, Rw.new _ _ _, hb.same (sm ((Below.refl w1.heap.size _).alloc (Nat.le_refl _) _) _ (Nat.le_refl _)), ⟨hlt, Nat.le_refl _, by omega, by omega, ⟨by simp; omega, by simp⟩, .inl (Nat.le_refl _)⟩, hsh, hS1.keep ((Below.refl _ _).alloc (Nat.le_refl _) _), grown_trans (grown_trans G0.out hg1) (World.grownBy_alloc _ _ _)⟩)
  clear R0 S0 G0 hb hsh hS1 hg1
  unfold flc
  go_wp2_with fail
  refine (pick_any B g _ 4 _ D0.out.src (by omega) (by omega) (by omega)).mono ?_
  rintro e w2 ⟨v2, rfl, ⟨z, rfl, hz0, hz3⟩, hS2, hg2⟩
  rw [P4.out] at hz3
  have D1 := Lib.hid (D0.out.pass hg2 hS2)
  rw [← hf] at D1 ⊢
  have hff : w.heap.size + 1 ≤ f := by omega
  clear D0 hg2 hS2 hf hz1
  obtain ⟨k, rfl⟩ := Int.eq_ofNat_of_zero_le hz0
  have hk3 : k ≤ 3 := by omega
  clear hz0 hz3
  go_wp2_with fail
  refine (pick_any B g _ 24 _ D1.out.src (by omega) (by omega) (by omega)).mono ?_
  rintro e w3 ⟨v3, rfl, ⟨q, rfl, hq0, hq1⟩, hS3, hg3⟩
  rw [P24.out] at hq1
  have D2 := Lib.hid (D1.out.pass hg3 hS3)
  clear D1 hg3 hS3
  go_upto_block 0 with fail
  go_cut [] (fun wx => Hid (BentSt B g (n + 200100) w w.heap.size f wx))
  case first =>
    have hcases : q = 0 ∨ q = 1 ∨ q = 2 ∨ q = 3 ∨ q = 4 ∨ q = 5 ∨ q = 6 ∨ q = 7 ∨ 8 ≤ q := by omega
    rcases hcases with rfl | rfl | rfl | rfl | rfl | rfl | rfl | rfl | hq8
    · clear hq0 hq1
      obtain ⟨c0, c1, c2, c3, c4, c5, c6, c7, hr⟩ := D2.out.frees
      obtain ⟨d0, d1, d2, d3, d4, d5, d6, d7⟩ := hr.eight
      obtain ⟨f0, f1, f2, f3, f4, f5, f6, f7⟩ := hr.frees
      clear hr
      go_wp2
      go_meet
      case rel => exact Lib.hid ((D2.out.geo 12).more (by omega))
    · clear hq0 hq1
      obtain ⟨F, A, nb, cb, lo, hi, h1, h2, h3, h4, h5, h6, h7⟩ := D2.out
      obtain ⟨A', len, cap, e3, hl1, hl2, hl3, hbz⟩ := h3
      have hlen := h5.len
      obtain ⟨gb, pv, e4, hbo⟩ := hbz (by omega)
      clear hbz
      injection e3 with e3 e5 e6
      subst e3 e4 e5 e6
      have hkn : k < nb := by omega
      have BO6 := Lib.hid (hbo.same (w' := w3.drew) (fun _ _ _ => rfl))
      have R6 := Lib.hid h1
      have Q6 := Lib.hid h2
      have B6 := Lib.hid h4
      have H6 := Lib.hid h5
      have S6 := Lib.hid h6
      have G6 := Lib.hid h7
      have NB := Lib.hid (show F.bs.length = nb from hl3)
      obtain ⟨d0, d1, d2, d3, d4, d5, d6, d7⟩ := h2.eight
      obtain ⟨f0, f1, f2, f3, f4, f5, f6, f7⟩ := h2.frees
      have hbo1 := Lib.hid hbo
      have hnb1 : 8 ≤ nb := by omega
      have hcb1 : 8 ≤ cb := by omega
      clear D2 h1 h2 h4 h5 h6 h7 hbo hlen BO6 hkn
      go_wp2
      go_meet
      case rel => exact Lib.hid ((DrSt.tail R6.out Q6.out hbo1.out hl1 hl2 NB.out B6.out H6.out S6.out G6.out).more (by omega))
    · clear hq0 hq1
      obtain ⟨F, A, nb, cb, lo, hi, h1, h2, h3, h4, h5, h6, h7⟩ := D2.out
      obtain ⟨A', len, cap, e3, hl1, hl2, hl3, hbz⟩ := h3
      have hlen := h5.len
      obtain ⟨gb, pv, e4, hbo⟩ := hbz (by omega)
      clear hbz
      injection e3 with e3 e5 e6
      subst e3 e4 e5 e6
      have hkn : k < nb := by omega
      have BO6 := Lib.hid (hbo.same (w' := w3.drew) (fun _ _ _ => rfl))
      have R6 := Lib.hid h1
      have Q6 := Lib.hid h2
      have B6 := Lib.hid h4
      have H6 := Lib.hid h5
      have S6 := Lib.hid h6
      have G6 := Lib.hid h7
      have NB := Lib.hid (show F.bs.length = nb from hl3)
      clear D2 h1 h2 h4 h5 h6 h7 hbo hlen hl3
      go_wp2_with fail
      refine wp_region_held_drew (S := fun W => Rw W f 28 #[.int .i64 F.d, .int .i64 F.b, .int .i64 F.p, .slice (some ⟨gb, 0, none⟩) nb cb, .int .i64 F.fu, .int .i64 F.ke, .bool F.off, .int .i64 F.op]) (by kernel_rfl) (show Rw w3.drew _ _ _ from Q6.out) (fun hHeld => ?_)
      refine wpAnyH_take (i := 0) (oi := _) (v := .pointer (some ⟨f, 3, none⟩)) rfl (by kernel_rfl) (by kernel_rfl) (by kernel_rfl) (fun _ _ _ h => h) (Or.inl ⟨by rfl, fun W hSw => by go_simp⟩) hHeld ?_
      refine wpAnyH_take (i := 1) (oi := _) (v := .slice (some ⟨gb, 0, none⟩) nb cb) rfl (by kernel_rfl) (by kernel_rfl) (by kernel_rfl) (fun _ _ _ h => h) (Or.inl ⟨by rfl, fun W hSw => by obtain ⟨q0, q1, q2, q3, q4, q5, q6, q7⟩ := hSw.eight; go_simp⟩) hHeld ?_
      refine wpAnyH_take (i := 2) (oi := _) (v := .int .i64 (k : Int)) rfl (by kernel_rfl) (by kernel_rfl) (by kernel_rfl) (fun _ _ _ h => h) (Or.inl ⟨by rfl, fun W hSw => by go_simp⟩) hHeld ?_
      refine wpAnyH_take (i := 3) (oi := _) (v := .pointer (some ⟨g, 0, none⟩)) rfl (by kernel_rfl) (by kernel_rfl) (by kernel_rfl) (fun _ _ _ h => h) (Or.inl ⟨by rfl, fun W hSw => by go_simp⟩) hHeld ?_
      refine wpAnyH_ready (rs := [4]) (by kernel_rfl) (by simp) ?_
      refine AllReadyH.cons (o := _) rfl (fun K hK => ?_) AllReadyH.nil
      go_simp
      have hzd : w3.drew.heap.size = w3.heap.size := rfl
      refine hK.out _ _ (show Rw (w3.drew.alloc _) _ _ _ from (show Rw w3.drew _ _ _ from Q6.out).alloc _) (fun hHeld => ?_)
      clear hK K
      refine wpAnyH_ready (rs := [5]) (by kernel_rfl) (by simp) ?_
      refine AllReadyH.cons (o := _) rfl (fun K hK => ?_) AllReadyH.nil
      go_simp
      have N4 : Rw _ w3.heap.size _ _ := Rw.new w3.drew 2 #[.int .i64 (-1), .int .i64 17, .int .i64 0]
      have ba := (Below.refl w3.heap.size w3.drew).alloc (Nat.le_refl _) (.cells #[.int .i64 (-1), .int .i64 17, .int .i64 0] 2)
      have sa := S6.out.lt
      have S7 := Lib.hid ((show Src w3.drew B g _ from S6.out).keep ba)
      have G7 := Lib.hid (grown_trans G6.out (grown_drewL (World.grownBy_alloc w3.drew (.cells #[.int .i64 (-1), .int .i64 17, .int .i64 0] 2) (some g))))
      have R7 := Lib.hid (show Rw _ w.heap.size 28 _ from (show Rw w3.drew _ _ _ from R6.out).alloc (.cells #[.int .i64 (-1), .int .i64 17, .int .i64 0] 2))
      have Q7 := Lib.hid (show Rw _ f 28 _ from (show Rw w3.drew _ _ _ from Q6.out).alloc (.cells #[.int .i64 (-1), .int .i64 17, .int .i64 0] 2))
      have BO7 := Lib.hid (BO6.out.same (sm ba _ (by have := B6.out; exact this.2.2.2.2.1.2)))
      have hz7 : (w3.drew.alloc (.cells #[.int .i64 (-1), .int .i64 17, .int .i64 0] 2)).heap.size = w3.heap.size + 1 := by simp
      clear ba BO6 R6 Q6 S6 G6
      have hfs := Q7.out.lt
      refine (among_any (fun x => True) B g _ w3.heap.size 3 3 _ S7.out (by omega) (by omega) (by omega) (by omega) ?_).mono ?_
      · intro i hi
        rw [N4.cell]
        rcases i with _ | _ | _ | i <;> first | exact ⟨_, rfl, trivial⟩ | omega
      clear N4
      rintro e w4 ⟨v4, rfl, ⟨y, rfl, _⟩, hS4, hg4⟩
      have hz4 := hg4.size
      rw [hz7] at hz4
      have Q8 := Lib.hid (Q7.out.grown hg4 (by have := B6.out; omega))
      refine hK.out _ _ Q8.out (fun hHeld => ?_)
      clear hK K
      have bo8 := BO7.out.same (same_above hg4 (by have := B6.out; omega) (by rw [hz7]; have := B6.out; omega))
      have BO8 := Lib.hid bo8
      have R8 := Lib.hid (R7.out.grown hg4 (by omega))
      have S8 := Lib.hid hS4
      have G8 := Lib.hid (grown_trans G7.out hg4)
      obtain ⟨r0, r1, r2, r3⟩ := bo8.row k (by rw [NB.out]; exact hkn)
      have fr := bo8.free (k * 4 + 1)
      clear BO7 R7 Q7 S7 G7 hg4 hS4 bo8 r2 r3 hz7 hzd
      refine wpAnyH_ready (rs := [6]) (by kernel_rfl) (by simp) ?_
      refine AllReadyH.cons (o := _) rfl (fun K hK => ?_) AllReadyH.nil
      go_simp
      refine hK.out _ _ Q8.out (fun hHeld => ?_)
      clear hK K
      refine wpAnyH_ready (rs := [7]) (by kernel_rfl) (by simp) ?_
      refine AllReadyH.cons (o := _) rfl (fun K hK => ?_) AllReadyH.nil
      go_simp
      refine hK.out _ _ Q8.out (fun hHeld => ?_)
      clear hK K
      refine wpAnyH_ready (rs := [8]) (by kernel_rfl) (by simp) ?_
      refine AllReadyH.cons (o := _) rfl (fun K hK => ?_) AllReadyH.nil
      go_simp
      refine hK.out _ _ (show Rw (w4.setCell _ _) _ _ _ from Q8.out.farA (by have := BO8.out.low; have := BO8.out.high; have := B6.out; omega) _) (fun hHeld => ?_)
      clear hK K
      refine wpAnyH_done (by kernel_rfl) ?_ _
      go_wp2
      go_meet
      case rel => exact Lib.hid ((DrSt.bent (DrSt.blk (c := 1) R8.out Q8.out BO8.out hl1 hl2 NB.out (by have := B6.out; omega) H6.out S8.out G8.out hkn (.inr (.inl ⟨rfl, _, rfl⟩)))).more (by omega))
    · clear hq0 hq1
      obtain ⟨F, A, nb, cb, lo, hi, h1, h2, h3, h4, h5, h6, h7⟩ := D2.out
      obtain ⟨A', len, cap, e3, hl1, hl2, hl3, hbz⟩ := h3
      have hlen := h5.len
      obtain ⟨gb, pv, e4, hbo⟩ := hbz (by omega)
      clear hbz
      injection e3 with e3 e5 e6
      subst e3 e4 e5 e6
      have hkn : k < nb := by omega
      have BO6 := Lib.hid (hbo.same (w' := w3.drew) (fun _ _ _ => rfl))
      have R6 := Lib.hid h1
      have Q6 := Lib.hid h2
      have B6 := Lib.hid h4
      have H6 := Lib.hid h5
      have S6 := Lib.hid h6
      have G6 := Lib.hid h7
      have NB := Lib.hid (show F.bs.length = nb from hl3)
      obtain ⟨d0, d1, d2, d3, d4, d5, d6, d7⟩ := h2.eight
      obtain ⟨b, off, cp, hv, hcp, hcp2⟩ := hbo.somePg (k := k) (by omega) (by have := h5.plen (i := k) (by omega); unfold Fl.blk at this; omega)
      have hp := hbo.page (t := 0) (by omega) hv (by have := h5.plen (i := k) (by omega); unfold Fl.blk at this; omega)
      have hnp : 0 < (F.bs.getD k Blk.zero).pg.length := by have := h5.plen (i := k) (by omega); unfold Fl.blk at this; omega
      obtain ⟨np, hnpe⟩ : ∃ np, np = (F.bs.getD k Blk.zero).pg.length := ⟨_, rfl⟩
      rw [← hnpe] at hv hcp hnp
      obtain ⟨hpc, hpf, _, _, _⟩ := hp
      obtain ⟨r0, r1, r2, r3⟩ := hbo.row k (by omega)
      rw [hv] at r3
      rw [Nat.add_zero] at hpc hpf
      have hbo1 := Lib.hid hbo
      have HV := Lib.hid hv
      clear D2 h1 h2 h4 h5 h6 h7 hbo hlen BO6 hnpe hv r0 r1 r2
      go_wp2
      go_meet
      case rel => exact Lib.hid ((DrSt.page R6.out Q6.out hbo1.out hl1 hl2 NB.out B6.out H6.out S6.out G6.out hkn HV.out hnp (by decide)).more (by omega))
    · clear hq0 hq1
      go_wp2_with fail
      have N4 := Rw.new w3 2 #[.int .i64 (-2), .int .i64 1000000, .int .i64 1000001]
      have hz7 : (w3.alloc (.cells #[.int .i64 (-2), .int .i64 1000000, .int .i64 1000001] 2)).heap.size = w3.heap.size + 1 := by simp
      have sa := D2.out.src.lt
      have D3 := Lib.hid (D2.out.pass (World.grownBy_alloc _ (.cells #[.int .i64 (-2), .int .i64 1000000, .int .i64 1000001] 2) _) (D2.out.src.keep ((Below.refl _ _).alloc (Nat.le_refl _) (.cells #[.int .i64 (-2), .int .i64 1000000, .int .i64 1000001] 2))))
      clear D2
      refine (among_any (fun x => True) B g _ w3.heap.size 3 3 _ D3.out.src (by omega) (by omega) (by omega) (by omega) ?_).mono ?_
      · intro i hi
        rw [N4.cell]
        rcases i with _ | _ | _ | i <;> first | exact ⟨_, rfl, trivial⟩ | omega
      clear N4 hz7
      rintro e w4 ⟨v4, rfl, ⟨y, rfl, _⟩, hS4, hg4⟩
      have D2 := Lib.hid (D3.out.pass hg4 hS4)
      clear D3 hg4 hS4
      obtain ⟨c0, c1, c2, c3, c4, c5, c6, c7, hr⟩ := D2.out.frees
      obtain ⟨d0, d1, d2, d3, d4, d5, d6, d7⟩ := hr.eight
      obtain ⟨f0, f1, f2, f3, f4, f5, f6, f7⟩ := hr.frees
      clear hr
      go_wp2
      go_meet
      case rel => exact Lib.hid ((D2.out.put 4 (.int .i64 y) (.inl ⟨rfl, _, rfl⟩)).bent.more (by omega))
    · clear hq0 hq1
      go_wp2_with fail
      have N4 := Rw.new w3 2 #[.int .i64 (-1), .int .i64 92]
      have hz7 : (w3.alloc (.cells #[.int .i64 (-1), .int .i64 92] 2)).heap.size = w3.heap.size + 1 := by simp
      have sa := D2.out.src.lt
      have D3 := Lib.hid (D2.out.pass (World.grownBy_alloc _ (.cells #[.int .i64 (-1), .int .i64 92] 2) _) (D2.out.src.keep ((Below.refl _ _).alloc (Nat.le_refl _) (.cells #[.int .i64 (-1), .int .i64 92] 2))))
      clear D2
      refine (among_any (fun x => True) B g _ w3.heap.size 2 2 _ D3.out.src (by omega) (by omega) (by omega) (by omega) ?_).mono ?_
      · intro i hi
        rw [N4.cell]
        rcases i with _ | _ | i <;> first | exact ⟨_, rfl, trivial⟩ | omega
      clear N4 hz7
      rintro e w4 ⟨v4, rfl, ⟨y, rfl, _⟩, hS4, hg4⟩
      have D2 := Lib.hid (D3.out.pass hg4 hS4)
      clear D3 hg4 hS4
      obtain ⟨c0, c1, c2, c3, c4, c5, c6, c7, hr⟩ := D2.out.frees
      obtain ⟨d0, d1, d2, d3, d4, d5, d6, d7⟩ := hr.eight
      obtain ⟨f0, f1, f2, f3, f4, f5, f6, f7⟩ := hr.frees
      clear hr
      go_wp2
      go_meet
      case rel => exact Lib.hid ((D2.out.put 5 (.int .i64 y) (.inr (.inl ⟨rfl, _, rfl⟩))).bent.more (by omega))
    · clear hq0 hq1
      obtain ⟨c0, c1, c2, c3, c4, c5, c6, c7, hr⟩ := D2.out.frees
      obtain ⟨d0, d1, d2, d3, d4, d5, d6, d7⟩ := hr.eight
      obtain ⟨f0, f1, f2, f3, f4, f5, f6, f7⟩ := hr.frees
      clear hr
      go_wp2
      go_meet
      case rel => exact Lib.hid ((D2.out.ops).more (by omega))
    · clear hq0 hq1
      obtain ⟨F, A, nb, cb, lo, hi, h1, h2, h3, h4, h5, h6, h7⟩ := D2.out
      obtain ⟨A', len, cap, e3, hl1, hl2, hl3, hbz⟩ := h3
      have hlen := h5.len
      obtain ⟨gb, pv, e4, hbo⟩ := hbz (by omega)
      clear hbz
      injection e3 with e3 e5 e6
      subst e3 e4 e5 e6
      have hkn : k < nb := by omega
      have BO6 := Lib.hid (hbo.same (w' := w3.drew) (fun _ _ _ => rfl))
      have R6 := Lib.hid h1
      have Q6 := Lib.hid h2
      have B6 := Lib.hid h4
      have H6 := Lib.hid h5
      have S6 := Lib.hid h6
      have G6 := Lib.hid h7
      have NB := Lib.hid (show F.bs.length = nb from hl3)
      clear D2 h1 h2 h4 h5 h6 h7 hbo hlen hl3
      go_wp2_with fail
      refine wp_region_held_drew (S := fun W => Rw W f 28 #[.int .i64 F.d, .int .i64 F.b, .int .i64 F.p, .slice (some ⟨gb, 0, none⟩) nb cb, .int .i64 F.fu, .int .i64 F.ke, .bool F.off, .int .i64 F.op]) (by kernel_rfl) (show Rw w3.drew _ _ _ from Q6.out) (fun hHeld => ?_)
      refine wpAnyH_take (i := 0) (oi := _) (v := .pointer (some ⟨f, 3, none⟩)) rfl (by kernel_rfl) (by kernel_rfl) (by kernel_rfl) (fun _ _ _ h => h) (Or.inl ⟨by rfl, fun W hSw => by go_simp⟩) hHeld ?_
      refine wpAnyH_take (i := 1) (oi := _) (v := .slice (some ⟨gb, 0, none⟩) nb cb) rfl (by kernel_rfl) (by kernel_rfl) (by kernel_rfl) (fun _ _ _ h => h) (Or.inl ⟨by rfl, fun W hSw => by obtain ⟨q0, q1, q2, q3, q4, q5, q6, q7⟩ := hSw.eight; go_simp⟩) hHeld ?_
      refine wpAnyH_take (i := 2) (oi := _) (v := .int .i64 (k : Int)) rfl (by kernel_rfl) (by kernel_rfl) (by kernel_rfl) (fun _ _ _ h => h) (Or.inl ⟨by rfl, fun W hSw => by go_simp⟩) hHeld ?_
      refine wpAnyH_take (i := 3) (oi := _) (v := .pointer (some ⟨g, 0, none⟩)) rfl (by kernel_rfl) (by kernel_rfl) (by kernel_rfl) (fun _ _ _ h => h) (Or.inl ⟨by rfl, fun W hSw => by go_simp⟩) hHeld ?_
      refine wpAnyH_ready (rs := [4]) (by kernel_rfl) (by simp) ?_
      refine AllReadyH.cons (o := _) rfl (fun K hK => ?_) AllReadyH.nil
      go_simp
      have hzd : w3.drew.heap.size = w3.heap.size := rfl
      refine hK.out _ _ (show Rw (w3.drew.alloc _) _ _ _ from (show Rw w3.drew _ _ _ from Q6.out).alloc _) (fun hHeld => ?_)
      clear hK K
      refine wpAnyH_ready (rs := [5]) (by kernel_rfl) (by simp) ?_
      refine AllReadyH.cons (o := _) rfl (fun K hK => ?_) AllReadyH.nil
      go_simp
      have N4 : Rw _ w3.heap.size _ _ := Rw.new w3.drew 2 #[.int .i64 (-1), .int .i64 1000, .int .i64 1001]
      have ba := (Below.refl w3.heap.size w3.drew).alloc (Nat.le_refl _) (.cells #[.int .i64 (-1), .int .i64 1000, .int .i64 1001] 2)
      have sa := S6.out.lt
      have S7 := Lib.hid ((show Src w3.drew B g _ from S6.out).keep ba)
      have G7 := Lib.hid (grown_trans G6.out (grown_drewL (World.grownBy_alloc w3.drew (.cells #[.int .i64 (-1), .int .i64 1000, .int .i64 1001] 2) (some g))))
      have R7 := Lib.hid (show Rw _ w.heap.size 28 _ from (show Rw w3.drew _ _ _ from R6.out).alloc (.cells #[.int .i64 (-1), .int .i64 1000, .int .i64 1001] 2))
      have Q7 := Lib.hid (show Rw _ f 28 _ from (show Rw w3.drew _ _ _ from Q6.out).alloc (.cells #[.int .i64 (-1), .int .i64 1000, .int .i64 1001] 2))
      have BO7 := Lib.hid (BO6.out.same (sm ba _ (by have := B6.out; exact this.2.2.2.2.1.2)))
      have hz7 : (w3.drew.alloc (.cells #[.int .i64 (-1), .int .i64 1000, .int .i64 1001] 2)).heap.size = w3.heap.size + 1 := by simp
      clear ba BO6 R6 Q6 S6 G6
      have hfs := Q7.out.lt
      refine (among_any (fun x => True) B g _ w3.heap.size 3 3 _ S7.out (by omega) (by omega) (by omega) (by omega) ?_).mono ?_
      · intro i hi
        rw [N4.cell]
        rcases i with _ | _ | _ | i <;> first | exact ⟨_, rfl, trivial⟩ | omega
      clear N4
      rintro e w4 ⟨v4, rfl, ⟨y, rfl, _⟩, hS4, hg4⟩
      have hz4 := hg4.size
      rw [hz7] at hz4
      have Q8 := Lib.hid (Q7.out.grown hg4 (by have := B6.out; omega))
      refine hK.out _ _ Q8.out (fun hHeld => ?_)
      clear hK K
      have bo8 := BO7.out.same (same_above hg4 (by have := B6.out; omega) (by rw [hz7]; have := B6.out; omega))
      have BO8 := Lib.hid bo8
      have R8 := Lib.hid (R7.out.grown hg4 (by omega))
      have S8 := Lib.hid hS4
      have G8 := Lib.hid (grown_trans G7.out hg4)
      obtain ⟨r0, r1, r2, r3⟩ := bo8.row k (by rw [NB.out]; exact hkn)
      have fr := bo8.free (k * 4 + 0)
      rw [Nat.add_zero] at fr
      clear BO7 R7 Q7 S7 G7 hg4 hS4 bo8 r2 r3 hz7 hzd
      refine wpAnyH_ready (rs := [6]) (by kernel_rfl) (by simp) ?_
      refine AllReadyH.cons (o := _) rfl (fun K hK => ?_) AllReadyH.nil
      go_simp
      refine hK.out _ _ Q8.out (fun hHeld => ?_)
      clear hK K
      refine wpAnyH_ready (rs := [7]) (by kernel_rfl) (by simp) ?_
      refine AllReadyH.cons (o := _) rfl (fun K hK => ?_) AllReadyH.nil
      go_simp
      refine hK.out _ _ Q8.out (fun hHeld => ?_)
      clear hK K
      refine wpAnyH_ready (rs := [8]) (by kernel_rfl) (by simp) ?_
      refine AllReadyH.cons (o := _) rfl (fun K hK => ?_) AllReadyH.nil
      go_simp
      refine hK.out _ _ (show Rw (w4.setCell _ _) _ _ _ from Q8.out.farA (by have := BO8.out.low; have := BO8.out.high; have := B6.out; omega) _) (fun hHeld => ?_)
      clear hK K
      refine wpAnyH_done (by kernel_rfl) ?_ _
      go_wp2
      go_meet
      case rel => exact Lib.hid ((DrSt.bent (DrSt.blk (c := 0) R8.out Q8.out BO8.out hl1 hl2 NB.out (by have := B6.out; omega) H6.out S8.out G8.out hkn (.inl ⟨rfl, _, rfl⟩))).more (by omega))
    · have e0 : (q == 0) = false := by simp; omega
      have e1 : (q == 1) = false := by simp; omega
      have e2 : (q == 2) = false := by simp; omega
      have e3 : (q == 3) = false := by simp; omega
      have e4 : (q == 4) = false := by simp; omega
      have e5 : (q == 5) = false := by simp; omega
      have e6 : (q == 6) = false := by simp; omega
      have e7 : (q == 7) = false := by simp; omega
      go_wp2
      go_meet
      case rel => exact Lib.hid (D2.out.bent.more (by omega))
  case rest =>
    clear D2 hq0 hq1
    obtain ⟨F, A, nb, cb, lo, hi, h1, h2, h3, h4, h5, h6, h7⟩ := hcut.out
    obtain ⟨d0, d1, d2, d3, d4, d5, d6, d7⟩ := h2.eight
    obtain ⟨r0, r1, r2, r3, r4, r5, r6, r7⟩ := h1.eight
    obtain ⟨f0, f1, f2, f3, f4, f5, f6, f7⟩ := h1.frees
    have R7 := Lib.hid h1
    have O7 := Lib.hid h3
    have B7 := Lib.hid h4
    have H7 := Lib.hid h5
    have S7 := Lib.hid h6
    have G7 := Lib.hid h7
    clear hcut h1 h2 h3 h4 h5 h6 h7
    go_wp2
    have own2 := O7.out.same (w' := ((((((((wc.setCell ⟨w.heap.size, 0, none⟩ (.int .i64 F.d)).setCell ⟨w.heap.size, 1, none⟩ (.int .i64 F.b)).setCell ⟨w.heap.size, 2, none⟩ (.int .i64 F.p)).setCell ⟨w.heap.size, 3, none⟩ (.slice A nb cb)).setCell ⟨w.heap.size, 4, none⟩ (.int .i64 F.fu)).setCell ⟨w.heap.size, 5, none⟩ (.int .i64 F.ke)).setCell ⟨w.heap.size, 6, none⟩ (.bool F.off)).setCell ⟨w.heap.size, 7, none⟩ (.int .i64 F.op))) (by (repeat refine sset ?_ (by have := B7.out; omega) _); exact Same.refl _ _ _)
    have src2 := S7.out.keepS (w' := ((((((((wc.setCell ⟨w.heap.size, 0, none⟩ (.int .i64 F.d)).setCell ⟨w.heap.size, 1, none⟩ (.int .i64 F.b)).setCell ⟨w.heap.size, 2, none⟩ (.int .i64 F.p)).setCell ⟨w.heap.size, 3, none⟩ (.slice A nb cb)).setCell ⟨w.heap.size, 4, none⟩ (.int .i64 F.fu)).setCell ⟨w.heap.size, 5, none⟩ (.int .i64 F.ke)).setCell ⟨w.heap.size, 6, none⟩ (.bool F.off)).setCell ⟨w.heap.size, 7, none⟩ (.int .i64 F.op))) (by (repeat refine sset ?_ (.inr (by omega)) _); exact Same.refl _ _ _) (by simp)
    have gr2 : w.grownBy ((((((((wc.setCell ⟨w.heap.size, 0, none⟩ (.int .i64 F.d)).setCell ⟨w.heap.size, 1, none⟩ (.int .i64 F.b)).setCell ⟨w.heap.size, 2, none⟩ (.int .i64 F.p)).setCell ⟨w.heap.size, 3, none⟩ (.slice A nb cb)).setCell ⟨w.heap.size, 4, none⟩ (.int .i64 F.fu)).setCell ⟨w.heap.size, 5, none⟩ (.int .i64 F.ke)).setCell ⟨w.heap.size, 6, none⟩ (.bool F.off)).setCell ⟨w.heap.size, 7, none⟩ (.int .i64 F.op)) (some g) := by
      repeat refine grown_out ?_ (by omega) _
      exact G7.out
    refine bodyPost_ret (results_cell_row Tryz.results17 _ _ _ _ _ _ _ rfl (R7.out.put8 _ _ _ _ _ _ _ _) Tryz.underlying28 rfl infoFl8) rfl ⟨_, F, rfl, ⟨_, rfl, own2.wide (by have := B7.out; omega) (by have := B7.out; simp; omega)⟩, H7.out, src2.more (by omega), gr2⟩
end Go.Proofs.YthenilomgbnpeaaGreatDoor
