/- The proof's own lemmas, part 7 of 8: DrB DrG SmN Oth FoN FlRd WkFo TeN DecE Ones Op Ints Diff. -/
import Derived.Test.YtlmdpdidjldkpaaGreatDoorMg5
import Derived.Deep.CutBlock
import Derived.Test.YtlmdpdidjldkpaaGreatDoorProg
import Derived.Test.YtlmdpdidjldkpaaGreatDoorMg2
import Derived.Test.YtlmdpdidjldkpaaGreatDoorMg3
import Derived.Deep.QuietTactic
import Derived.BigQuiet
import Derived.Test.YtlmdpdidjldkpaaGreatDoorMg4
import Derived.Test.YtlmdpdidjldkpaaGreatDoorMg0
import Derived.Test.YtlmdpdidjldkpaaGreatDoorMg1
import Derived.Lib.AppendStr
import Derived.Lib.BufferWrite
import Derived.ProofKit
import Derived.Lib.Hide
import Derived.Lib.BitFns
import Derived.WalkKit
/- Chapter 6's generator of arrays that are sometimes invalid: the contract. -/
namespace Go.Proofs.YtlmdpdidjldkpaaGreatDoor
open Go.RowKit
set_option linter.unusedVariables false
/-- What is said of an array that the generator returns: how many blocks and pages, and how many operations. -/
def Bent (F : Fl) : Prop := F.bs.length ≤ 36 ∧ (∀ i, i < F.bs.length → (F.blk i).pg.length ≤ 16) ∧ (-1 ≤ F.op ∧ F.op ≤ 8)
theorem Shape.bent {F : Fl} (h : Shape F 8) : Bent F := ⟨by have := h.len; omega, fun i hi => by have := h.plen hi; omega, by have := h.2.2.2; omega⟩
theorem Bent.lens {F : Fl} (h : Bent F) : FlLen F := ⟨by have := h.1; omega, fun i hi => by have := h.2.1 i hi; omega⟩
def BentSt (B g n : Nat) (w : World) (r f : Nat) (wx : World) : Prop := ∃ (F : Fl) (A : Option Addr) (nb cb lo hi : Nat), Rw wx r 28 #[.int .i64 0, .int .i64 0, .int .i64 0, .slice none 0 0, .int .i64 0, .int .i64 0, .bool false, .int .i64 0] ∧
  Rw wx f 28 #[.int .i64 F.d, .int .i64 F.b, .int .i64 F.p, .slice A nb cb, .int .i64 F.fu, .int .i64 F.ke, .bool F.off, .int .i64 F.op] ∧ BksIn wx lo hi (.slice A nb cb) F.bs ∧ (g < w.heap.size ∧ w.heap.size ≤ r ∧ r < f ∧ r < lo ∧ (lo ≤ wx.heap.size ∧ hi ≤ wx.heap.size) ∧ (hi ≤ f ∨ f + 1 ≤ lo)) ∧ Bent F ∧ Src wx B g n ∧ w.grownBy wx (some g)
section
variable {B g n m r f : Nat} {w wx : World}
theorem BentSt.more (h : BentSt B g n w r f wx) (hn : n ≤ m) : BentSt B g m w r f wx := by
  obtain ⟨F, A, nb, cb, lo, hi, h1, h2, h3, h4, h5, h6, h7⟩ := h
  exact ⟨F, A, nb, cb, lo, hi, h1, h2, h3, h4, h5, h6.more hn, h7⟩
theorem DrSt.bent (h : DrSt B g n w r f 8 wx) : BentSt B g n w r f wx := by
  obtain ⟨F, A, nb, cb, lo, hi, h1, h2, h3, h4, h5, h6, h7⟩ := h
  exact ⟨F, A, nb, cb, lo, hi, h1, h2, h3.reads, h4, h5.bent, h6, h7⟩
theorem DrSt.geo (h : DrSt B g n w r f 8 wx) (x : Int) : BentSt B g n w r f (wx.setCell ⟨f, 2, none⟩ (.int .i64 x)) := by
  obtain ⟨F, A, nb, cb, lo, hi, h1, h2, h3, h4, h5, h6, h7⟩ := h
  refine ⟨{ F with p := x }, A, nb, cb, lo, hi, h1.farA (by omega) _, h2.set_ 2 _, (h3.same (sset (Same.refl lo hi wx) (by omega) _)).reads, by simp only [World.size_setCell]; exact h4, h5.bent, h6.keepS (sset (Same.refl _ _ _) (.inr (by omega)) _) (by simp), grown_out h7 (by omega) _⟩
theorem DrSt.ops (h : DrSt B g n w r f 8 wx) : BentSt B g n w r f (wx.setCell ⟨f, 7, none⟩ (.int .i64 (-1))) := by
  obtain ⟨F, A, nb, cb, lo, hi, h1, h2, h3, h4, h5, h6, h7⟩ := h
  refine ⟨{ F with op := -1 }, A, nb, cb, lo, hi, h1.farA (by omega) _, h2.set_ 7 _, (h3.same (sset (Same.refl lo hi wx) (by omega) _)).reads, by simp only [World.size_setCell]; exact h4, ⟨h5.bent.1, h5.bent.2.1, by show (-1 : Int) ≤ -1 ∧ (-1 : Int) ≤ 8; omega⟩, h6.keepS (sset (Same.refl _ _ _) (.inr (by omega)) _) (by simp), grown_out h7 (by omega) _⟩
/-- The first block cut off. -/
theorem DrSt.tail {F : Fl} {gb nb cb lo hi : Nat} {pv : Nat → Value} (h1 : Rw wx r 28 #[.int .i64 0, .int .i64 0, .int .i64 0, .slice none 0 0, .int .i64 0, .int .i64 0, .bool false, .int .i64 0]) (h2 : Rw wx f 28 #[.int .i64 F.d, .int .i64 F.b, .int .i64 F.p, .slice (some ⟨gb, 0, none⟩) nb cb, .int .i64 F.fu, .int .i64 F.ke, .bool F.off, .int .i64 F.op]) (h3 : BO wx lo hi gb pv F.bs) (hl1 : nb ≤ cb) (hl2 : cb ≤ 9223372036854775807) (hl3 : F.bs.length = nb)
    (h4 : (g < w.heap.size ∧ w.heap.size ≤ r ∧ r < f ∧ r < lo ∧ (lo ≤ wx.heap.size ∧ hi ≤ wx.heap.size) ∧ (hi ≤ f ∨ f + 1 ≤ lo))) (h5 : Shape F 8) (h6 : Src wx B g n) (h7 : w.grownBy wx (some g)) :
    BentSt B g n w r f (wx.setCell ⟨f, 3, none⟩ (.slice (some ⟨gb, 4, none⟩) (nb - 1) (cb - 1))) := by
  have hl := h5.len
  have bo := (h3.same (sset (Same.refl lo hi wx) (g := f) (k := 3) (by omega) (.slice (some ⟨gb, 4, none⟩) (nb - 1) (cb - 1))))
  have hd : ∀ i, (F.bs.drop 1).getD i Blk.zero = F.bs.getD (1 + i) Blk.zero := fun i => by rw [List.getD_eq_getElem?_getD, List.getD_eq_getElem?_getD, List.getElem?_drop]
  refine ⟨{ F with bs := F.bs.drop 1 }, some ⟨gb, 4, none⟩, nb - 1, cb - 1, lo, hi, h1.farA (by omega) _, h2.set_ 3 _, ⟨_, _, _, rfl, by omega, by omega, by simp; omega, fun _ => ⟨gb, 4, rfl, bo.low, bo.high, fun i hi => ⟨pv (1 + i), ?_, ?_⟩⟩⟩, by simp only [World.size_setCell]; exact h4, ⟨?_, fun i hi => ?_, h5.bent.2.2⟩, h6.keepS (sset (Same.refl _ _ _) (.inr (by omega)) _) (by simp), grown_out h7 (by omega) _⟩
  · have := bo.row (1 + i) (by omega)
    rw [hd, show 4 + i * 4 = (1 + i) * 4 by omega]
    exact this
  · rw [hd]
    exact (bo.pgs (1 + i) (by omega)).reads
  · show (F.bs.drop 1).length ≤ 36
    rw [List.length_drop]; omega
  · have hi2 : i < (F.bs.drop 1).length := hi
    rw [List.length_drop] at hi2
    show ((F.bs.drop 1).getD i Blk.zero).pg.length ≤ 16
    rw [hd]
    exact h5.bent.2.1 (1 + i) (by omega)
/-- A page of a block replaced. -/
theorem DrSt.page {F : Fl} {gb nb cb lo hi k b off np cp : Nat} {pv : Nat → Value} {s : ByteArray} (h1 : Rw wx r 28 #[.int .i64 0, .int .i64 0, .int .i64 0, .slice none 0 0, .int .i64 0, .int .i64 0, .bool false, .int .i64 0]) (h2 : Rw wx f 28 #[.int .i64 F.d, .int .i64 F.b, .int .i64 F.p, .slice (some ⟨gb, 0, none⟩) nb cb, .int .i64 F.fu, .int .i64 F.ke, .bool F.off, .int .i64 F.op]) (h3 : BO wx lo hi gb pv F.bs) (hl1 : nb ≤ cb) (hl2 : cb ≤ 9223372036854775807) (hl3 : F.bs.length = nb)
    (h4 : (g < w.heap.size ∧ w.heap.size ≤ r ∧ r < f ∧ r < lo ∧ (lo ≤ wx.heap.size ∧ hi ≤ wx.heap.size) ∧ (hi ≤ f ∨ f + 1 ≤ lo))) (h5 : Shape F 8) (h6 : Src wx B g n) (h7 : w.grownBy wx (some g)) (hk : k < nb) (hv : pv k = .slice (some ⟨b, off, none⟩) np cp) (hnp : 0 < np) (hs : s.size ≤ 9223372036854775807) :
    BentSt B g n w r f (wx.setCell ⟨b, off, none⟩ (.string s)) := by
  have hp := h3.page (k := k) (by omega) hv hnp
  have bo := h3.storePg (k := k) (n := 0) (by omega) hnp hv s hs
  have hsh := h5.set (G := { F with bs := F.bs.set k { F.bs.getD k Blk.zero with pg := (F.bs.getD k Blk.zero).pg.set 0 s } }) k _ (by simp [Fl.blk]) rfl rfl rfl rfl h5.2.2.2
  exact ⟨{ F with bs := F.bs.set k { F.bs.getD k Blk.zero with pg := (F.bs.getD k Blk.zero).pg.set 0 s } }, some ⟨gb, 0, none⟩, nb, cb, lo, hi, h1.farA (by omega) _, h2.farA (by omega) _, BksOwn.reads ⟨_, _, _, rfl, hl1, hl2, by simpa using hl3, fun _ => ⟨gb, pv, rfl, bo⟩⟩, by simp only [World.size_setCell]; exact h4, hsh.bent, h6.keepS (sset (Same.refl _ _ _) (.inr (by omega)) _) (by simp), grown_out h7 (by omega) _⟩
end
/-- What l06Bent does. -/
def BentFl (B g n : Nat) (w : World) (e : Ending) (w' : World) : Prop := ∃ (v : Value) (F : Fl), e = .returned v ∧ FlIn w' w.heap.size w'.heap.size v F ∧ Bent F ∧ Src w' B g n ∧ w.grownBy w' (some g)
set_option maxHeartbeats 4000000 in
set_option maxRecDepth 100000 in
theorem l06Bent_any (B g n : Nat) (w : World) (h : Src w B g n) (hn : n ≤ 300000000000) :
    Calls Tryz.prog 17 #[.pointer (some ⟨g, 0, none⟩)] w (BentFl B g (n + 300000) w) := by
  have hlt := h.lt
  have b0 := (Below.refl w.heap.size w).alloc (Nat.le_refl _) (.cells #[.int .i64 0, .int .i64 0, .int .i64 0, .slice none 0 0, .int .i64 0, .int .i64 0, .bool false, .int .i64 0] 28)
  have R0 := Lib.hid (Rw.new w 28 #[.int .i64 0, .int .i64 0, .int .i64 0, .slice none 0 0, .int .i64 0, .int .i64 0, .bool false, .int .i64 0])
  have S0 := Lib.hid (h.keep b0)
  have G0 := Lib.hid (grown_below (grown_refl w (some g)) b0)
  have P4 : Hid (pickMax 4 = 3) := by show _ = _; decide
  have P24 : Hid (pickMax 24 = 23) := by show _ = _; decide
  clear b0 h
  go_enter Tryz.func17, Tryz.ntmps17
  go_wp2_with fail
  refine (l06Draw_any B g n _ S0.out (by omega)).mono ?_
  rintro e w1 ⟨v1, F, rfl, ⟨u, rfl, hb⟩, hsh, hS1, hg1⟩
  obtain ⟨A, nb, cb, rfl⟩ := hb.slice
  have hz1 := hg1.size
  simp only [World.size_alloc] at hb hz1
  obtain ⟨f, hf⟩ : ∃ f, f = w1.heap.size := ⟨_, rfl⟩
  have D0 := Lib.hid (show DrSt B g (n + 200000) w w.heap.size w1.heap.size 8 (w1.alloc (.cells #[.int .i64 F.d, .int .i64 F.b, .int .i64 F.p, .slice A nb cb, .int .i64 F.fu, .int .i64 F.ke, .bool F.off, .int .i64 F.op] 28)) from
    ⟨F, A, nb, cb, _, _, (R0.out.grown hg1 (by omega)).alloc _, Rw.new _ _ _, hb.same (sm ((Below.refl w1.heap.size _).alloc (Nat.le_refl _) _) _ (Nat.le_refl _)), ⟨hlt, Nat.le_refl _, by omega, by omega, ⟨by simp; omega, by simp⟩, .inl (Nat.le_refl _)⟩, hsh, hS1.keep ((Below.refl _ _).alloc (Nat.le_refl _) _), grown_trans (grown_trans G0.out hg1) (World.grownBy_alloc _ _ _)⟩)
  clear R0 S0 G0 hb hsh hS1 hg1
  unfold flc
  go_wp2_with fail
  refine (pick_any B g _ 4 _ D0.out.src (by omega) (by omega) (by omega)).mono ?_
  rintro e w2 ⟨v2, rfl, ⟨z, rfl, hz0, hz3⟩, hS2, hg2⟩
  rw [P4.out] at hz3
  have D1 := Lib.hid (D0.out.pass hg2 hS2)
  rw [← hf] at D1 ⊢
  have hff : w.heap.size + 1 ≤ f := by omega
  clear D0 hg2 hS2 hf hz1
  obtain ⟨k, rfl⟩ := Int.eq_ofNat_of_zero_le hz0
  have hk3 : k ≤ 3 := by omega
  clear hz0 hz3
  go_wp2_with fail
  refine (pick_any B g _ 24 _ D1.out.src (by omega) (by omega) (by omega)).mono ?_
  rintro e w3 ⟨v3, rfl, ⟨q, rfl, hq0, hq1⟩, hS3, hg3⟩
  rw [P24.out] at hq1
  have D2 := Lib.hid (D1.out.pass hg3 hS3)
  clear D1 hg3 hS3
  go_upto_block 0 with fail
  go_cut [] (fun wx => Hid (BentSt B g (n + 200100) w w.heap.size f wx))
  case first =>
    have hcases : q = 0 ∨ q = 1 ∨ q = 2 ∨ q = 3 ∨ q = 4 ∨ q = 5 ∨ q = 6 ∨ q = 7 ∨ 8 ≤ q := by omega
    rcases hcases with rfl | rfl | rfl | rfl | rfl | rfl | rfl | rfl | hq8
    · clear hq0 hq1
      obtain ⟨c0, c1, c2, c3, c4, c5, c6, c7, hr⟩ := D2.out.frees
      obtain ⟨d0, d1, d2, d3, d4, d5, d6, d7⟩ := hr.eight
      obtain ⟨f0, f1, f2, f3, f4, f5, f6, f7⟩ := hr.frees
      clear hr
      go_wp2
      go_meet
      case rel => exact Lib.hid ((D2.out.geo 12).more (by omega))
    · clear hq0 hq1
      obtain ⟨F, A, nb, cb, lo, hi, h1, h2, h3, h4, h5, h6, h7⟩ := D2.out
      obtain ⟨A', len, cap, e3, hl1, hl2, hl3, hbz⟩ := h3
      have hlen := h5.len
      obtain ⟨gb, pv, e4, hbo⟩ := hbz (by omega)
      clear hbz
      injection e3 with e3 e5 e6
      subst e3 e4 e5 e6
      have hkn : k < nb := by omega
      have BO6 := Lib.hid (hbo.same (w' := w3.drew) (fun _ _ _ => rfl))
      have R6 := Lib.hid h1
      have Q6 := Lib.hid h2
      have B6 := Lib.hid h4
      have H6 := Lib.hid h5
      have S6 := Lib.hid h6
      have G6 := Lib.hid h7
      have NB := Lib.hid (show F.bs.length = nb from hl3)
      obtain ⟨d0, d1, d2, d3, d4, d5, d6, d7⟩ := h2.eight
      obtain ⟨f0, f1, f2, f3, f4, f5, f6, f7⟩ := h2.frees
      have hbo1 := Lib.hid hbo
      have hnb1 : 8 ≤ nb := by omega
      have hcb1 : 8 ≤ cb := by omega
      clear D2 h1 h2 h4 h5 h6 h7 hbo hlen BO6 hkn
      go_wp2
      go_meet
      case rel => exact Lib.hid ((DrSt.tail R6.out Q6.out hbo1.out hl1 hl2 NB.out B6.out H6.out S6.out G6.out).more (by omega))
    · clear hq0 hq1
      obtain ⟨F, A, nb, cb, lo, hi, h1, h2, h3, h4, h5, h6, h7⟩ := D2.out
      obtain ⟨A', len, cap, e3, hl1, hl2, hl3, hbz⟩ := h3
      have hlen := h5.len
      obtain ⟨gb, pv, e4, hbo⟩ := hbz (by omega)
      clear hbz
      injection e3 with e3 e5 e6
      subst e3 e4 e5 e6
      have hkn : k < nb := by omega
      have BO6 := Lib.hid (hbo.same (w' := w3.drew) (fun _ _ _ => rfl))
      have R6 := Lib.hid h1
      have Q6 := Lib.hid h2
      have B6 := Lib.hid h4
      have H6 := Lib.hid h5
      have S6 := Lib.hid h6
      have G6 := Lib.hid h7
      have NB := Lib.hid (show F.bs.length = nb from hl3)
      clear D2 h1 h2 h4 h5 h6 h7 hbo hlen hl3
      go_wp2_with fail
      refine wp_region_held_drew (S := fun W => Rw W f 28 #[.int .i64 F.d, .int .i64 F.b, .int .i64 F.p, .slice (some ⟨gb, 0, none⟩) nb cb, .int .i64 F.fu, .int .i64 F.ke, .bool F.off, .int .i64 F.op]) (by kernel_rfl) (show Rw w3.drew _ _ _ from Q6.out) (fun hHeld => ?_)
      refine wpAnyH_take (i := 0) (oi := _) (v := .pointer (some ⟨f, 3, none⟩)) rfl (by kernel_rfl) (by kernel_rfl) (by kernel_rfl) (fun _ _ _ h => h) (Or.inl ⟨by rfl, fun W hSw => by go_simp⟩) hHeld ?_
      refine wpAnyH_take (i := 1) (oi := _) (v := .slice (some ⟨gb, 0, none⟩) nb cb) rfl (by kernel_rfl) (by kernel_rfl) (by kernel_rfl) (fun _ _ _ h => h) (Or.inl ⟨by rfl, fun W hSw => by obtain ⟨q0, q1, q2, q3, q4, q5, q6, q7⟩ := hSw.eight; go_simp⟩) hHeld ?_
      refine wpAnyH_take (i := 2) (oi := _) (v := .int .i64 (k : Int)) rfl (by kernel_rfl) (by kernel_rfl) (by kernel_rfl) (fun _ _ _ h => h) (Or.inl ⟨by rfl, fun W hSw => by go_simp⟩) hHeld ?_
      refine wpAnyH_take (i := 3) (oi := _) (v := .pointer (some ⟨g, 0, none⟩)) rfl (by kernel_rfl) (by kernel_rfl) (by kernel_rfl) (fun _ _ _ h => h) (Or.inl ⟨by rfl, fun W hSw => by go_simp⟩) hHeld ?_
      refine wpAnyH_ready (rs := [4]) (by kernel_rfl) (by simp) ?_
      refine AllReadyH.cons (o := _) rfl (fun K hK => ?_) AllReadyH.nil
      go_simp
      have hzd : w3.drew.heap.size = w3.heap.size := rfl
      refine hK.out _ _ (show Rw (w3.drew.alloc _) _ _ _ from (show Rw w3.drew _ _ _ from Q6.out).alloc _) (fun hHeld => ?_)
      clear hK K
      refine wpAnyH_ready (rs := [5]) (by kernel_rfl) (by simp) ?_
      refine AllReadyH.cons (o := _) rfl (fun K hK => ?_) AllReadyH.nil
      go_simp
      have N4 : Rw _ w3.heap.size _ _ := Rw.new w3.drew 2 #[.int .i64 (-1), .int .i64 17, .int .i64 0]
      have ba := (Below.refl w3.heap.size w3.drew).alloc (Nat.le_refl _) (.cells #[.int .i64 (-1), .int .i64 17, .int .i64 0] 2)
      have sa := S6.out.lt
      have S7 := Lib.hid ((show Src w3.drew B g _ from S6.out).keep ba)
      have G7 := Lib.hid (grown_trans G6.out (grown_drewL (World.grownBy_alloc w3.drew (.cells #[.int .i64 (-1), .int .i64 17, .int .i64 0] 2) (some g))))
      have R7 := Lib.hid (show Rw _ w.heap.size 28 _ from (show Rw w3.drew _ _ _ from R6.out).alloc (.cells #[.int .i64 (-1), .int .i64 17, .int .i64 0] 2))
      have Q7 := Lib.hid (show Rw _ f 28 _ from (show Rw w3.drew _ _ _ from Q6.out).alloc (.cells #[.int .i64 (-1), .int .i64 17, .int .i64 0] 2))
      have BO7 := Lib.hid (BO6.out.same (sm ba _ (by have := B6.out; exact this.2.2.2.2.1.2)))
      have hz7 : (w3.drew.alloc (.cells #[.int .i64 (-1), .int .i64 17, .int .i64 0] 2)).heap.size = w3.heap.size + 1 := by simp
      clear ba BO6 R6 Q6 S6 G6
      have hfs := Q7.out.lt
      refine (among_any (fun x => True) B g _ w3.heap.size 3 3 _ S7.out (by omega) (by omega) (by omega) (by omega) ?_).mono ?_
      · intro i hi
        rw [N4.cell]
        rcases i with _ | _ | _ | i <;> first | exact ⟨_, rfl, trivial⟩ | omega
      clear N4
      rintro e w4 ⟨v4, rfl, ⟨y, rfl, _⟩, hS4, hg4⟩
      have hz4 := hg4.size
      rw [hz7] at hz4
      have Q8 := Lib.hid (Q7.out.grown hg4 (by have := B6.out; omega))
      refine hK.out _ _ Q8.out (fun hHeld => ?_)
      clear hK K
      have bo8 := BO7.out.same (same_above hg4 (by have := B6.out; omega) (by rw [hz7]; have := B6.out; omega))
      have BO8 := Lib.hid bo8
      have R8 := Lib.hid (R7.out.grown hg4 (by omega))
      have S8 := Lib.hid hS4
      have G8 := Lib.hid (grown_trans G7.out hg4)
      obtain ⟨r0, r1, r2, r3⟩ := bo8.row k (by rw [NB.out]; exact hkn)
      have fr := bo8.free (k * 4 + 1)
      clear BO7 R7 Q7 S7 G7 hg4 hS4 bo8 r2 r3 hz7 hzd
      refine wpAnyH_ready (rs := [6]) (by kernel_rfl) (by simp) ?_
      refine AllReadyH.cons (o := _) rfl (fun K hK => ?_) AllReadyH.nil
      go_simp
      refine hK.out _ _ Q8.out (fun hHeld => ?_)
      clear hK K
      refine wpAnyH_ready (rs := [7]) (by kernel_rfl) (by simp) ?_
      refine AllReadyH.cons (o := _) rfl (fun K hK => ?_) AllReadyH.nil
      go_simp
      refine hK.out _ _ Q8.out (fun hHeld => ?_)
      clear hK K
      refine wpAnyH_ready (rs := [8]) (by kernel_rfl) (by simp) ?_
      refine AllReadyH.cons (o := _) rfl (fun K hK => ?_) AllReadyH.nil
      go_simp
      refine hK.out _ _ (show Rw (w4.setCell _ _) _ _ _ from Q8.out.farA (by have := BO8.out.low; have := BO8.out.high; have := B6.out; omega) _) (fun hHeld => ?_)
      clear hK K
      refine wpAnyH_done (by kernel_rfl) ?_ _
      go_wp2
      go_meet
      case rel => exact Lib.hid ((DrSt.bent (DrSt.blk (c := 1) R8.out Q8.out BO8.out hl1 hl2 NB.out (by have := B6.out; omega) H6.out S8.out G8.out hkn (.inr (.inl ⟨rfl, _, rfl⟩)))).more (by omega))
    · clear hq0 hq1
      obtain ⟨F, A, nb, cb, lo, hi, h1, h2, h3, h4, h5, h6, h7⟩ := D2.out
      obtain ⟨A', len, cap, e3, hl1, hl2, hl3, hbz⟩ := h3
      have hlen := h5.len
      obtain ⟨gb, pv, e4, hbo⟩ := hbz (by omega)
      clear hbz
      injection e3 with e3 e5 e6
      subst e3 e4 e5 e6
      have hkn : k < nb := by omega
      have BO6 := Lib.hid (hbo.same (w' := w3.drew) (fun _ _ _ => rfl))
      have R6 := Lib.hid h1
      have Q6 := Lib.hid h2
      have B6 := Lib.hid h4
      have H6 := Lib.hid h5
      have S6 := Lib.hid h6
      have G6 := Lib.hid h7
      have NB := Lib.hid (show F.bs.length = nb from hl3)
      obtain ⟨d0, d1, d2, d3, d4, d5, d6, d7⟩ := h2.eight
      obtain ⟨b, off, cp, hv, hcp, hcp2⟩ := hbo.somePg (k := k) (by omega) (by have := h5.plen (i := k) (by omega); unfold Fl.blk at this; omega)
      have hp := hbo.page (t := 0) (by omega) hv (by have := h5.plen (i := k) (by omega); unfold Fl.blk at this; omega)
      have hnp : 0 < (F.bs.getD k Blk.zero).pg.length := by have := h5.plen (i := k) (by omega); unfold Fl.blk at this; omega
      obtain ⟨np, hnpe⟩ : ∃ np, np = (F.bs.getD k Blk.zero).pg.length := ⟨_, rfl⟩
      rw [← hnpe] at hv hcp hnp
      obtain ⟨hpc, hpf, _, _, _⟩ := hp
      obtain ⟨r0, r1, r2, r3⟩ := hbo.row k (by omega)
      rw [hv] at r3
      rw [Nat.add_zero] at hpc hpf
      have hbo1 := Lib.hid hbo
      have HV := Lib.hid hv
      clear D2 h1 h2 h4 h5 h6 h7 hbo hlen BO6 hnpe hv r0 r1 r2
      go_wp2
      go_meet
      case rel => exact Lib.hid ((DrSt.page R6.out Q6.out hbo1.out hl1 hl2 NB.out B6.out H6.out S6.out G6.out hkn HV.out hnp (by decide)).more (by omega))
    · clear hq0 hq1
      go_wp2_with fail
      have N4 := Rw.new w3 2 #[.int .i64 (-2), .int .i64 1000000, .int .i64 1000001]
      have hz7 : (w3.alloc (.cells #[.int .i64 (-2), .int .i64 1000000, .int .i64 1000001] 2)).heap.size = w3.heap.size + 1 := by simp
      have sa := D2.out.src.lt
      have D3 := Lib.hid (D2.out.pass (World.grownBy_alloc _ (.cells #[.int .i64 (-2), .int .i64 1000000, .int .i64 1000001] 2) _) (D2.out.src.keep ((Below.refl _ _).alloc (Nat.le_refl _) (.cells #[.int .i64 (-2), .int .i64 1000000, .int .i64 1000001] 2))))
      clear D2
      refine (among_any (fun x => True) B g _ w3.heap.size 3 3 _ D3.out.src (by omega) (by omega) (by omega) (by omega) ?_).mono ?_
      · intro i hi
        rw [N4.cell]
        rcases i with _ | _ | _ | i <;> first | exact ⟨_, rfl, trivial⟩ | omega
      clear N4 hz7
      rintro e w4 ⟨v4, rfl, ⟨y, rfl, _⟩, hS4, hg4⟩
      have D2 := Lib.hid (D3.out.pass hg4 hS4)
      clear D3 hg4 hS4
      obtain ⟨c0, c1, c2, c3, c4, c5, c6, c7, hr⟩ := D2.out.frees
      obtain ⟨d0, d1, d2, d3, d4, d5, d6, d7⟩ := hr.eight
      obtain ⟨f0, f1, f2, f3, f4, f5, f6, f7⟩ := hr.frees
      clear hr
      go_wp2
      go_meet
      case rel => exact Lib.hid ((D2.out.put 4 (.int .i64 y) (.inl ⟨rfl, _, rfl⟩)).bent.more (by omega))
    · clear hq0 hq1
      go_wp2_with fail
      have N4 := Rw.new w3 2 #[.int .i64 (-1), .int .i64 92]
      have hz7 : (w3.alloc (.cells #[.int .i64 (-1), .int .i64 92] 2)).heap.size = w3.heap.size + 1 := by simp
      have sa := D2.out.src.lt
      have D3 := Lib.hid (D2.out.pass (World.grownBy_alloc _ (.cells #[.int .i64 (-1), .int .i64 92] 2) _) (D2.out.src.keep ((Below.refl _ _).alloc (Nat.le_refl _) (.cells #[.int .i64 (-1), .int .i64 92] 2))))
      clear D2
      refine (among_any (fun x => True) B g _ w3.heap.size 2 2 _ D3.out.src (by omega) (by omega) (by omega) (by omega) ?_).mono ?_
      · intro i hi
        rw [N4.cell]
        rcases i with _ | _ | i <;> first | exact ⟨_, rfl, trivial⟩ | omega
      clear N4 hz7
      rintro e w4 ⟨v4, rfl, ⟨y, rfl, _⟩, hS4, hg4⟩
      have D2 := Lib.hid (D3.out.pass hg4 hS4)
      clear D3 hg4 hS4
      obtain ⟨c0, c1, c2, c3, c4, c5, c6, c7, hr⟩ := D2.out.frees
      obtain ⟨d0, d1, d2, d3, d4, d5, d6, d7⟩ := hr.eight
      obtain ⟨f0, f1, f2, f3, f4, f5, f6, f7⟩ := hr.frees
      clear hr
      go_wp2
      go_meet
      case rel => exact Lib.hid ((D2.out.put 5 (.int .i64 y) (.inr (.inl ⟨rfl, _, rfl⟩))).bent.more (by omega))
    · clear hq0 hq1
      obtain ⟨c0, c1, c2, c3, c4, c5, c6, c7, hr⟩ := D2.out.frees
      obtain ⟨d0, d1, d2, d3, d4, d5, d6, d7⟩ := hr.eight
      obtain ⟨f0, f1, f2, f3, f4, f5, f6, f7⟩ := hr.frees
      clear hr
      go_wp2
      go_meet
      case rel => exact Lib.hid ((D2.out.ops).more (by omega))
    · clear hq0 hq1
      obtain ⟨F, A, nb, cb, lo, hi, h1, h2, h3, h4, h5, h6, h7⟩ := D2.out
      obtain ⟨A', len, cap, e3, hl1, hl2, hl3, hbz⟩ := h3
      have hlen := h5.len
      obtain ⟨gb, pv, e4, hbo⟩ := hbz (by omega)
      clear hbz
      injection e3 with e3 e5 e6
      subst e3 e4 e5 e6
      have hkn : k < nb := by omega
      have BO6 := Lib.hid (hbo.same (w' := w3.drew) (fun _ _ _ => rfl))
      have R6 := Lib.hid h1
      have Q6 := Lib.hid h2
      have B6 := Lib.hid h4
      have H6 := Lib.hid h5
      have S6 := Lib.hid h6
      have G6 := Lib.hid h7
      have NB := Lib.hid (show F.bs.length = nb from hl3)
      clear D2 h1 h2 h4 h5 h6 h7 hbo hlen hl3
      go_wp2_with fail
      refine wp_region_held_drew (S := fun W => Rw W f 28 #[.int .i64 F.d, .int .i64 F.b, .int .i64 F.p, .slice (some ⟨gb, 0, none⟩) nb cb, .int .i64 F.fu, .int .i64 F.ke, .bool F.off, .int .i64 F.op]) (by kernel_rfl) (show Rw w3.drew _ _ _ from Q6.out) (fun hHeld => ?_)
      refine wpAnyH_take (i := 0) (oi := _) (v := .pointer (some ⟨f, 3, none⟩)) rfl (by kernel_rfl) (by kernel_rfl) (by kernel_rfl) (fun _ _ _ h => h) (Or.inl ⟨by rfl, fun W hSw => by go_simp⟩) hHeld ?_
      refine wpAnyH_take (i := 1) (oi := _) (v := .slice (some ⟨gb, 0, none⟩) nb cb) rfl (by kernel_rfl) (by kernel_rfl) (by kernel_rfl) (fun _ _ _ h => h) (Or.inl ⟨by rfl, fun W hSw => by obtain ⟨q0, q1, q2, q3, q4, q5, q6, q7⟩ := hSw.eight; go_simp⟩) hHeld ?_
      refine wpAnyH_take (i := 2) (oi := _) (v := .int .i64 (k : Int)) rfl (by kernel_rfl) (by kernel_rfl) (by kernel_rfl) (fun _ _ _ h => h) (Or.inl ⟨by rfl, fun W hSw => by go_simp⟩) hHeld ?_
      refine wpAnyH_take (i := 3) (oi := _) (v := .pointer (some ⟨g, 0, none⟩)) rfl (by kernel_rfl) (by kernel_rfl) (by kernel_rfl) (fun _ _ _ h => h) (Or.inl ⟨by rfl, fun W hSw => by go_simp⟩) hHeld ?_
      refine wpAnyH_ready (rs := [4]) (by kernel_rfl) (by simp) ?_
      refine AllReadyH.cons (o := _) rfl (fun K hK => ?_) AllReadyH.nil
      go_simp
      have hzd : w3.drew.heap.size = w3.heap.size := rfl
      refine hK.out _ _ (show Rw (w3.drew.alloc _) _ _ _ from (show Rw w3.drew _ _ _ from Q6.out).alloc _) (fun hHeld => ?_)
      clear hK K
      refine wpAnyH_ready (rs := [5]) (by kernel_rfl) (by simp) ?_
      refine AllReadyH.cons (o := _) rfl (fun K hK => ?_) AllReadyH.nil
      go_simp
      have N4 : Rw _ w3.heap.size _ _ := Rw.new w3.drew 2 #[.int .i64 (-1), .int .i64 1000, .int .i64 1001]
      have ba := (Below.refl w3.heap.size w3.drew).alloc (Nat.le_refl _) (.cells #[.int .i64 (-1), .int .i64 1000, .int .i64 1001] 2)
      have sa := S6.out.lt
      have S7 := Lib.hid ((show Src w3.drew B g _ from S6.out).keep ba)
      have G7 := Lib.hid (grown_trans G6.out (grown_drewL (World.grownBy_alloc w3.drew (.cells #[.int .i64 (-1), .int .i64 1000, .int .i64 1001] 2) (some g))))
      have R7 := Lib.hid (show Rw _ w.heap.size 28 _ from (show Rw w3.drew _ _ _ from R6.out).alloc (.cells #[.int .i64 (-1), .int .i64 1000, .int .i64 1001] 2))
      have Q7 := Lib.hid (show Rw _ f 28 _ from (show Rw w3.drew _ _ _ from Q6.out).alloc (.cells #[.int .i64 (-1), .int .i64 1000, .int .i64 1001] 2))
      have BO7 := Lib.hid (BO6.out.same (sm ba _ (by have := B6.out; exact this.2.2.2.2.1.2)))
      have hz7 : (w3.drew.alloc (.cells #[.int .i64 (-1), .int .i64 1000, .int .i64 1001] 2)).heap.size = w3.heap.size + 1 := by simp
      clear ba BO6 R6 Q6 S6 G6
      have hfs := Q7.out.lt
      refine (among_any (fun x => True) B g _ w3.heap.size 3 3 _ S7.out (by omega) (by omega) (by omega) (by omega) ?_).mono ?_
      · intro i hi
        rw [N4.cell]
        rcases i with _ | _ | _ | i <;> first | exact ⟨_, rfl, trivial⟩ | omega
      clear N4
      rintro e w4 ⟨v4, rfl, ⟨y, rfl, _⟩, hS4, hg4⟩
      have hz4 := hg4.size
      rw [hz7] at hz4
      have Q8 := Lib.hid (Q7.out.grown hg4 (by have := B6.out; omega))
      refine hK.out _ _ Q8.out (fun hHeld => ?_)
      clear hK K
      have bo8 := BO7.out.same (same_above hg4 (by have := B6.out; omega) (by rw [hz7]; have := B6.out; omega))
      have BO8 := Lib.hid bo8
      have R8 := Lib.hid (R7.out.grown hg4 (by omega))
      have S8 := Lib.hid hS4
      have G8 := Lib.hid (grown_trans G7.out hg4)
      obtain ⟨r0, r1, r2, r3⟩ := bo8.row k (by rw [NB.out]; exact hkn)
      have fr := bo8.free (k * 4 + 0)
      rw [Nat.add_zero] at fr
      clear BO7 R7 Q7 S7 G7 hg4 hS4 bo8 r2 r3 hz7 hzd
      refine wpAnyH_ready (rs := [6]) (by kernel_rfl) (by simp) ?_
      refine AllReadyH.cons (o := _) rfl (fun K hK => ?_) AllReadyH.nil
      go_simp
      refine hK.out _ _ Q8.out (fun hHeld => ?_)
      clear hK K
      refine wpAnyH_ready (rs := [7]) (by kernel_rfl) (by simp) ?_
      refine AllReadyH.cons (o := _) rfl (fun K hK => ?_) AllReadyH.nil
      go_simp
      refine hK.out _ _ Q8.out (fun hHeld => ?_)
      clear hK K
      refine wpAnyH_ready (rs := [8]) (by kernel_rfl) (by simp) ?_
      refine AllReadyH.cons (o := _) rfl (fun K hK => ?_) AllReadyH.nil
      go_simp
      refine hK.out _ _ (show Rw (w4.setCell _ _) _ _ _ from Q8.out.farA (by have := BO8.out.low; have := BO8.out.high; have := B6.out; omega) _) (fun hHeld => ?_)
      clear hK K
      refine wpAnyH_done (by kernel_rfl) ?_ _
      go_wp2
      go_meet
      case rel => exact Lib.hid ((DrSt.bent (DrSt.blk (c := 0) R8.out Q8.out BO8.out hl1 hl2 NB.out (by have := B6.out; omega) H6.out S8.out G8.out hkn (.inl ⟨rfl, _, rfl⟩))).more (by omega))
    · have e0 : (q == 0) = false := by simp; omega
      have e1 : (q == 1) = false := by simp; omega
      have e2 : (q == 2) = false := by simp; omega
      have e3 : (q == 3) = false := by simp; omega
      have e4 : (q == 4) = false := by simp; omega
      have e5 : (q == 5) = false := by simp; omega
      have e6 : (q == 6) = false := by simp; omega
      have e7 : (q == 7) = false := by simp; omega
      go_wp2
      go_meet
      case rel => exact Lib.hid (D2.out.bent.more (by omega))
  case rest =>
    clear D2 hq0 hq1
    obtain ⟨F, A, nb, cb, lo, hi, h1, h2, h3, h4, h5, h6, h7⟩ := hcut.out
    obtain ⟨d0, d1, d2, d3, d4, d5, d6, d7⟩ := h2.eight
    obtain ⟨r0, r1, r2, r3, r4, r5, r6, r7⟩ := h1.eight
    obtain ⟨f0, f1, f2, f3, f4, f5, f6, f7⟩ := h1.frees
    have R7 := Lib.hid h1
    have O7 := Lib.hid h3
    have B7 := Lib.hid h4
    have H7 := Lib.hid h5
    have S7 := Lib.hid h6
    have G7 := Lib.hid h7
    clear hcut h1 h2 h3 h4 h5 h6 h7
    go_wp2
    have own2 := O7.out.same (w' := ((((((((wc.setCell ⟨w.heap.size, 0, none⟩ (.int .i64 F.d)).setCell ⟨w.heap.size, 1, none⟩ (.int .i64 F.b)).setCell ⟨w.heap.size, 2, none⟩ (.int .i64 F.p)).setCell ⟨w.heap.size, 3, none⟩ (.slice A nb cb)).setCell ⟨w.heap.size, 4, none⟩ (.int .i64 F.fu)).setCell ⟨w.heap.size, 5, none⟩ (.int .i64 F.ke)).setCell ⟨w.heap.size, 6, none⟩ (.bool F.off)).setCell ⟨w.heap.size, 7, none⟩ (.int .i64 F.op))) (by (repeat refine sset ?_ (by have := B7.out; omega) _); exact Same.refl _ _ _)
    have src2 := S7.out.keepS (w' := ((((((((wc.setCell ⟨w.heap.size, 0, none⟩ (.int .i64 F.d)).setCell ⟨w.heap.size, 1, none⟩ (.int .i64 F.b)).setCell ⟨w.heap.size, 2, none⟩ (.int .i64 F.p)).setCell ⟨w.heap.size, 3, none⟩ (.slice A nb cb)).setCell ⟨w.heap.size, 4, none⟩ (.int .i64 F.fu)).setCell ⟨w.heap.size, 5, none⟩ (.int .i64 F.ke)).setCell ⟨w.heap.size, 6, none⟩ (.bool F.off)).setCell ⟨w.heap.size, 7, none⟩ (.int .i64 F.op))) (by (repeat refine sset ?_ (.inr (by omega)) _); exact Same.refl _ _ _) (by simp)
    have gr2 : w.grownBy ((((((((wc.setCell ⟨w.heap.size, 0, none⟩ (.int .i64 F.d)).setCell ⟨w.heap.size, 1, none⟩ (.int .i64 F.b)).setCell ⟨w.heap.size, 2, none⟩ (.int .i64 F.p)).setCell ⟨w.heap.size, 3, none⟩ (.slice A nb cb)).setCell ⟨w.heap.size, 4, none⟩ (.int .i64 F.fu)).setCell ⟨w.heap.size, 5, none⟩ (.int .i64 F.ke)).setCell ⟨w.heap.size, 6, none⟩ (.bool F.off)).setCell ⟨w.heap.size, 7, none⟩ (.int .i64 F.op)) (some g) := by
      repeat refine grown_out ?_ (by omega) _
      exact G7.out
    refine bodyPost_ret (results_cell_row Tryz.results17 _ _ _ _ _ _ _ rfl (R7.out.put8 _ _ _ _ _ _ _ _) Tryz.underlying28 rfl infoFl8) rfl ⟨_, F, rfl, ⟨_, rfl, own2.wide (by have := B7.out; omega) (by have := B7.out; simp; omega)⟩, H7.out, src2.more (by omega), gr2⟩
end Go.Proofs.YtlmdpdidjldkpaaGreatDoor
/- Chapter 6's generators of a call's arguments: DrawProgramPage, DrawReadRaw, DrawEraseBlock. -/
namespace Go.Proofs.YtlmdpdidjldkpaaGreatDoor
open Go.RowKit
set_option linter.unusedVariables false
theorem results_cell_tmp3 {fn : Func} {p u v x : Tmp} {ty : TypeId} (h : fn.results = #[.cell p ty, .tmp u, .tmp v, .tmp x]) (tmps : Array Value) (P : Program) (w : World) :
    (results fn tmps).run P w =
      ((asAddr (tmps.getD p undef)).run P w).andThen fun a w₁ => ((loadVar ty a).run P w₁).andThen fun y w₂ => .ok (.tuple #[y, tmps.getD u undef, tmps.getD v undef, tmps.getD x undef]) w₂ := by
  simp only [results, h]
  simp [Sem.run_bind, Result.andThen]
theorem results_cell_tmp2 {fn : Func} {p u v : Tmp} {ty : TypeId} (h : fn.results = #[.cell p ty, .tmp u, .tmp v]) (tmps : Array Value) (P : Program) (w : World) :
    (results fn tmps).run P w =
      ((asAddr (tmps.getD p undef)).run P w).andThen fun a w₁ => ((loadVar ty a).run P w₁).andThen fun y w₂ => .ok (.tuple #[y, tmps.getD u undef, tmps.getD v undef]) w₂ := by
  simp only [results, h]
  simp [Sem.run_bind, Result.andThen]
theorem results_row_tmp3 {P : Program} {fn : Func} {p u v x : Tmp} {ty : TypeId} (h : fn.results = #[.cell p ty, .tmp u, .tmp v, .tmp x]) (tmps : Array Value) (w : World) (g : Nat) (t : TypeId) (cs : Array Value) (fr : Nat × Nat) (d : TypeDesc)
    (hp : tmps.getD p undef = .pointer (some ⟨g, 0, none⟩)) (hg : w.heap[g]? = some (.cells cs t fr))
    (hu : P.underlying ty = some d) (hd : (match d with | .struct _ | .array _ _ => true | _ => false) = true) (hi : (P.info? ty).map (·.size) = some cs.size) :
    (results fn tmps).run P w = .ok (.tuple #[.agg cs, tmps.getD u undef, tmps.getD v undef, tmps.getD x undef]) w := by
  rw [results_cell_tmp3 h, hp]
  simp [asAddr, run_loadVar_row w g t ty cs fr d hg hu hd hi]
theorem results_row_tmp2 {P : Program} {fn : Func} {p u v : Tmp} {ty : TypeId} (h : fn.results = #[.cell p ty, .tmp u, .tmp v]) (tmps : Array Value) (w : World) (g : Nat) (t : TypeId) (cs : Array Value) (fr : Nat × Nat) (d : TypeDesc)
    (hp : tmps.getD p undef = .pointer (some ⟨g, 0, none⟩)) (hg : w.heap[g]? = some (.cells cs t fr))
    (hu : P.underlying ty = some d) (hd : (match d with | .struct _ | .array _ _ => true | _ => false) = true) (hi : (P.info? ty).map (·.size) = some cs.size) :
    (results fn tmps).run P w = .ok (.tuple #[.agg cs, tmps.getD u undef, tmps.getD v undef]) w := by
  rw [results_cell_tmp2 h, hp]
  simp [asAddr, run_loadVar_row w g t ty cs fr d hg hu hd hi]
/-- The state of a drawer of arguments: its result's block r (zeros), the source's block g, its variable's block f (an array), the array's blocks. -/
def DgSt (F : Fl) (A : Option Addr) (nb cb lo hi r g f n : Nat) (w wx : World) : Prop := Rw wx r 28 #[.int .i64 0, .int .i64 0, .int .i64 0, .slice none 0 0, .int .i64 0, .int .i64 0, .bool false, .int .i64 0] ∧ Rw wx f 28 #[.int .i64 F.d, .int .i64 F.b, .int .i64 F.p, .slice A nb cb, .int .i64 F.fu, .int .i64 F.ke, .bool F.off, .int .i64 F.op] ∧ BksIn wx lo hi (.slice A nb cb) F.bs ∧
  (w.heap.size ≤ r ∧ r < g ∧ g < f ∧ g < lo ∧ hi ≤ f ∧ f < wx.heap.size) ∧ Src wx g g n ∧ Below w.heap.size w wx
section
variable {F : Fl} {A : Option Addr} {nb cb lo hi r g f n m : Nat} {w wx wy : World}
theorem DgSt.pass (h : DgSt F A nb cb lo hi r g f n w wx) (hg : wx.grownBy wy (some g)) (hs : Src wy g g m) : DgSt F A nb cb lo hi r g f m w wy := by
  obtain ⟨h1, h2, h3, h4, h5, h6⟩ := h
  have := hg.size
  exact ⟨h1.grown hg (by omega), h2.grown hg (by omega), h3.same (same_above hg (by omega) (by omega)), by omega, hs, h6.grown hg h6.size (fun k hk => by injection hk with hk; omega)⟩
theorem DgSt.src (h : DgSt F A nb cb lo hi r g f n w wx) : Src wx g g n := h.2.2.2.2.1
theorem DgSt.more (h : DgSt F A nb cb lo hi r g f n w wx) (hn : n ≤ m) : DgSt F A nb cb lo hi r g f m w wx := ⟨h.1, h.2.1, h.2.2.1, h.2.2.2.1, h.2.2.2.2.1.more hn, h.2.2.2.2.2⟩
theorem DgSt.alloc (h : DgSt F A nb cb lo hi r g f n w wx) (o : Obj) : DgSt F A nb cb lo hi r g f n w (wx.alloc o) :=
  h.pass (World.grownBy_alloc _ _ _) (h.src.keep ((Below.refl _ _).alloc (Nat.le_refl _) _))
/-- The result stored: what is known of the array afterwards. -/
theorem DgSt.fin (h : DgSt F A nb cb lo hi r g f n w wx) (hlo : w.heap.size ≤ lo) : FlIn ((((((((wx.setCell ⟨r, 0, none⟩ (.int .i64 F.d)).setCell ⟨r, 1, none⟩ (.int .i64 F.b)).setCell ⟨r, 2, none⟩ (.int .i64 F.p)).setCell ⟨r, 3, none⟩ (.slice A nb cb)).setCell ⟨r, 4, none⟩ (.int .i64 F.fu)).setCell ⟨r, 5, none⟩ (.int .i64 F.ke)).setCell ⟨r, 6, none⟩ (.bool F.off)).setCell ⟨r, 7, none⟩ (.int .i64 F.op)) w.heap.size ((((((((wx.setCell ⟨r, 0, none⟩ (.int .i64 F.d)).setCell ⟨r, 1, none⟩ (.int .i64 F.b)).setCell ⟨r, 2, none⟩ (.int .i64 F.p)).setCell ⟨r, 3, none⟩ (.slice A nb cb)).setCell ⟨r, 4, none⟩ (.int .i64 F.fu)).setCell ⟨r, 5, none⟩ (.int .i64 F.ke)).setCell ⟨r, 6, none⟩ (.bool F.off)).setCell ⟨r, 7, none⟩ (.int .i64 F.op)).heap.size (.agg #[.int .i64 F.d, .int .i64 F.b, .int .i64 F.p, .slice A nb cb, .int .i64 F.fu, .int .i64 F.ke, .bool F.off, .int .i64 F.op]) F ∧ Below w.heap.size w ((((((((wx.setCell ⟨r, 0, none⟩ (.int .i64 F.d)).setCell ⟨r, 1, none⟩ (.int .i64 F.b)).setCell ⟨r, 2, none⟩ (.int .i64 F.p)).setCell ⟨r, 3, none⟩ (.slice A nb cb)).setCell ⟨r, 4, none⟩ (.int .i64 F.fu)).setCell ⟨r, 5, none⟩ (.int .i64 F.ke)).setCell ⟨r, 6, none⟩ (.bool F.off)).setCell ⟨r, 7, none⟩ (.int .i64 F.op)) := by
  obtain ⟨h1, h2, h3, h4, h5, h6⟩ := h
  refine ⟨⟨_, rfl, (h3.same (by (repeat refine sset ?_ (by omega) _); exact Same.refl _ _ _)).wide hlo (by simp; omega)⟩, ?_⟩
  repeat refine bset ?_ h4.1 _
  exact h6
end
def DrewPg (w : World) (e : Ending) (w' : World) : Prop := ∃ (v : Value) (F : Fl) (block page : Int) (raw : ByteArray), e = .returned (.tuple #[v, .int .i64 block, .int .i64 page, .string raw]) ∧ FlIn w' w.heap.size w'.heap.size v F ∧ Bent F ∧ raw.size ≤ 400 ∧ Below w.heap.size w w'
set_option maxHeartbeats 4000000 in
set_option maxRecDepth 100000 in
theorem drawPg_any (w : World) (v : Value) (h : CodeIs w w.heap.size v) :
    Calls Tryz.prog 5 #[v] w (DrewPg w) := by
  have P4 : Hid (pickMax 4 = 3) := by show _ = _; decide
  have P3 : Hid (pickMax 3 = 2) := by show _ = _; decide
  have b0 := (Below.refl w.heap.size w).alloc (Nat.le_refl _) (.cells #[.int .i64 0, .int .i64 0, .int .i64 0, .slice none 0 0, .int .i64 0, .int .i64 0, .bool false, .int .i64 0] 28)
  have h0 := h.keep (w' := w.alloc (.cells #[.int .i64 0, .int .i64 0, .int .i64 0, .slice none 0 0, .int .i64 0, .int .i64 0, .bool false, .int .i64 0] 28)) (fun b hb => b0.block b hb)
  have R0 := Lib.hid (Rw.new w 28 #[.int .i64 0, .int .i64 0, .int .i64 0, .slice none 0 0, .int .i64 0, .int .i64 0, .bool false, .int .i64 0])
  have B0 := Lib.hid b0
  obtain ⟨Av, vlen, vcap, rfl, _⟩ := h
  have H0 := Lib.hid (l00From_any _ _ (show CodeIs (w.alloc (.cells #[.int .i64 0, .int .i64 0, .int .i64 0, .slice none 0 0, .int .i64 0, .int .i64 0, .bool false, .int .i64 0] 28)) (w.alloc (.cells #[.int .i64 0, .int .i64 0, .int .i64 0, .slice none 0 0, .int .i64 0, .int .i64 0, .bool false, .int .i64 0] 28)).heap.size _ by obtain ⟨a, b, c, e, h1, h2⟩ := h0; exact ⟨a, b, c, e, h1, fun hh => by obtain ⟨x, y, z, z2, z3⟩ := h2 hh; exact ⟨x, y, z, by simp; omega, z3⟩⟩))
  clear b0 h0
  go_enter Tryz.func5, Tryz.ntmps5
  go_wp2_with fail
  refine H0.out.mono ?_
  rintro e w1 ⟨rfl, hS1, hb1⟩
  have hgz : (w.alloc (.cells #[.int .i64 0, .int .i64 0, .int .i64 0, .slice none 0 0, .int .i64 0, .int .i64 0, .bool false, .int .i64 0] 28)).heap.size = w.heap.size + 1 := by simp
  rw [hgz] at hS1 hb1 ⊢
  obtain ⟨g, hg⟩ : ∃ g, g = w.heap.size + 1 := ⟨_, rfl⟩
  rw [← hg] at hS1 hb1 ⊢
  have R1 := Lib.hid (R0.out.below hb1 (by omega))
  have B1 := Lib.hid (B0.out.trans (hb1.mono (by omega)))
  have S1 := Lib.hid hS1
  have hlt := hS1.lt
  have hgw : w.heap.size < g := by omega
  clear R0 B0 H0 hS1 hb1 hgz hg
  go_wp2_with fail
  refine (l06Bent_any g g 0 _ S1.out (by omega)).mono ?_
  rintro e w2 ⟨u, F, rfl, ⟨ub, rfl, hb⟩, hbent, hS2, hg2⟩
  obtain ⟨A, nb, cb, rfl⟩ := hb.slice
  unfold flc
  have hz2 := hg2.size
  have D0 := Lib.hid (show DgSt F A nb cb w1.heap.size w2.heap.size w.heap.size g w2.heap.size _ w (w2.alloc (.cells #[.int .i64 F.d, .int .i64 F.b, .int .i64 F.p, .slice A nb cb, .int .i64 F.fu, .int .i64 F.ke, .bool F.off, .int .i64 F.op] 28)) from
    ⟨(R1.out.grown hg2 (by omega)).alloc _, Rw.new _ _ _, hb.same (sm ((Below.refl w2.heap.size _).alloc (Nat.le_refl _) _) _ (Nat.le_refl _)), ⟨Nat.le_refl _, by omega, by omega, by omega, Nat.le_refl _, by simp⟩, hS2.keep ((Below.refl _ _).alloc (Nat.le_refl _) _), (B1.out.grown hg2 B1.out.size (fun k hk => by injection hk with hk; omega)).alloc (Nat.le_trans B1.out.size hz2) _⟩)
  have BENT := Lib.hid hbent
  have hnb : nb ≤ 36 := by have := hbent.1; obtain ⟨_, _, _, e, _, _, h, _⟩ := hb; injection e with _ e _; omega
  clear R1 B1 S1 hb hbent hS2 hg2
  go_wp2_with fail
  obtain ⟨f, hf⟩ : ∃ f, f = w2.heap.size := ⟨_, rfl⟩
  rw [← hf] at D0 ⊢
  obtain ⟨lo, hlo⟩ : ∃ lo, lo = w1.heap.size := ⟨_, rfl⟩
  rw [← hlo] at D0
  have hgf : w.heap.size < f := by omega
  have hgf2 : g < f := by omega
  have hlw : w.heap.size ≤ lo := by omega
  clear hf hlo hz2 hlt
  refine (pick_any _ _ _ 4 _ D0.out.src (by omega) (by omega) (by omega)).mono ?_
  rintro e w3 ⟨v3, rfl, ⟨block, rfl, hk0, hk3⟩, hS3, hg3⟩
  rw [P4.out] at hk3
  have D1 := Lib.hid (D0.out.pass hg3 hS3)
  clear D0 hg3 hS3
  obtain ⟨k, rfl⟩ := Int.eq_ofNat_of_zero_le hk0
  clear hk0
  go_wp2_with fail
  refine (pick_any _ _ _ 3 _ D1.out.src (by omega) (by omega) (by omega)).mono ?_
  rintro e w4 ⟨v4, rfl, ⟨page, rfl, hp0, hp3⟩, hS4, hg4⟩
  have D2 := Lib.hid (D1.out.pass hg4 hS4)
  clear D1 hg4 hS4 hp0 hp3
  obtain ⟨d0, d1, d2, d3, d4, d5, d6, d7⟩ := D2.out.2.1.eight
  go_upto_region 5 with fail
  go_cut [29] (fun s29 wx => ∃ b : Bool, s29 = .bool b ∧ Hid (b = true → k < nb) ∧ Hid (DgSt F A nb cb lo f w.heap.size g f 400000 w wx))
  case first =>
    by_cases hkn : k < nb
    · have hki : (k : Int) < (nb : Int) := by omega
      go_wp2_with fail
      refine (one_any _ _ _ 6 _ D2.out.src (by omega) (by omega) (by omega)).mono ?_
      rintro e w5 ⟨v5, rfl, ⟨bb, rfl⟩, hS5, hg5⟩
      have D3 := Lib.hid (D2.out.pass hg5 hS5)
      clear D2 hg5 hS5
      cases bb <;> (go_wp2; go_meet; exact ⟨_, rfl, Lib.hid (fun _ => hkn), Lib.hid (D3.out.more (by omega))⟩)
    · have hki : ¬ (k : Int) < (nb : Int) := by omega
      go_wp2
      go_meet
      exact ⟨false, rfl, Lib.hid (fun h => by simp at h), Lib.hid (D2.out.more (by omega))⟩
  case rest =>
    obtain ⟨b, rfl, HB, D3⟩ := hcut
    clear D2 d0 d1 d2 d3 d4 d5 d6 d7
    go_upto_if 29 with fail
    go_cut [9] (fun s9 wx => ∃ p : Int, s9 = .int .i64 p ∧ Hid (DgSt F A nb cb lo f w.heap.size g f 400000 w wx))
    case first =>
      cases b
      · clear HB
        go_wp2
        go_meet
        case rel => exact ⟨_, rfl, D3⟩
      · have hkn := HB.out rfl
        obtain ⟨d0, d1, d2, d3, d4, d5, d6, d7⟩ := D3.out.2.1.eight
        obtain ⟨A', len, cap, e3, hl1, hl2, hl3, hbz⟩ := D3.out.2.2.1
        injection e3 with e3 e5 e6
        subst e3 e5 e6
        obtain ⟨gb, off, rfl, _, _, hcell⟩ := hbz (by omega)
        obtain ⟨pv, ⟨_, r1, _, _⟩, _⟩ := hcell k hkn
        clear hcell hbz HB hl3
        go_wp2
        go_meet
        case rel => exact ⟨_, rfl, D3⟩
    case rest =>
      obtain ⟨page, rfl, D4⟩ := hcut
      clear D3 HB
      obtain ⟨wd, hwd⟩ : ∃ x, x = wc := ⟨_, rfl⟩
      rw [← hwd] at D4 ⊢
      clear hwd
      go_wp2_with fail
      refine (one_any _ _ _ 12 _ D4.out.src (by omega) (by omega) (by omega)).mono ?_
      rintro e w5 ⟨v5, rfl, ⟨bb, rfl⟩, hS5, hg5⟩
      have D5 := Lib.hid (D4.out.pass hg5 hS5)
      clear D4 hg5 hS5
      obtain ⟨d0, d1, d2, d3, d4, d5, d6, d7⟩ := D5.out.2.1.eight
      go_upto_if 37 with fail
      go_cut [8] (fun s8 wx => ∃ p : Int, s8 = .int .i64 p ∧ Hid (DgSt F A nb cb lo f w.heap.size g f 500000 w wx))
      case first =>
        cases bb
        · go_wp2
          go_meet
          case rel => exact ⟨_, rfl, Lib.hid (D5.out.more (by omega))⟩
        · have hwn : IntKind.i64.wrap ((nb : Int) - 1) = (nb : Int) - 1 := IntWalk.i64_in _ (by omega)
          go_wp2_with fail
          have hz5 : (w5.alloc (.cells #[.int .i64 (-1), .int .i64 (nb : Int), .int .i64 ((nb : Int) - 1)] 2)).heap.size = w5.heap.size + 1 := by simp
          have N4 := Rw.new w5 2 #[.int .i64 (-1), .int .i64 (nb : Int), .int .i64 ((nb : Int) - 1)]
          have D6 := Lib.hid (D5.out.alloc (.cells #[.int .i64 (-1), .int .i64 (nb : Int), .int .i64 ((nb : Int) - 1)] 2))
          have hs5 := D5.out.2.2.2.1
          clear D5 d0 d1 d2 d3 d4 d5 d6 d7
          refine (among_any (fun x => True) g g _ w5.heap.size 3 3 _ D6.out.src (by omega) (by omega) (by omega) (by omega) ?_).mono ?_
          · intro i hi
            rw [N4.cell]
            rcases i with _ | _ | _ | i <;> first | exact ⟨_, rfl, trivial⟩ | omega
          clear N4 hz5 hs5
          rintro e w6 ⟨v6, rfl, ⟨y, rfl, _⟩, hS6, hg6⟩
          have D7 := Lib.hid (D6.out.pass hg6 hS6)
          clear D6 hg6 hS6
          go_wp2
          go_meet
          case rel => exact ⟨_, rfl, Lib.hid (D7.out.more (by omega))⟩
      case rest =>
        obtain ⟨block, rfl, D6⟩ := hcut
        clear D5 d0 d1 d2 d3 d4 d5 d6 d7
        obtain ⟨we, hwe⟩ : ∃ x, x = wc := ⟨_, rfl⟩
        rw [← hwe] at D6 ⊢
        clear hwe
        go_wp2_with fail
        refine (l05Raw_any _ _ _ _ D6.out.src (by omega)).mono ?_
        rintro e w7 ⟨v7, rfl, ⟨s, pg, rfl, hs, _, _⟩, hS7, hg7⟩
        have D7 := Lib.hid (D6.out.pass hg7 hS7)
        clear D6 hg7 hS7
        obtain ⟨d0, d1, d2, d3, d4, d5, d6, d7⟩ := D7.out.2.1.eight
        obtain ⟨r0, r1, r2, r3, r4, r5, r6, r7⟩ := D7.out.1.eight
        obtain ⟨f0, f1, f2, f3, f4, f5, f6, f7⟩ := D7.out.1.frees
        go_wp2
        refine bodyPost_ret (results_row_tmp3 Tryz.results5 _ _ _ _ _ _ _ rfl (D7.out.1.put8 _ _ _ _ _ _ _ _) Tryz.underlying28 rfl infoFl8) rfl ⟨_, F, _, _, _, rfl, (D7.out.fin (by omega)).1, BENT.out, by omega, (D7.out.fin (by omega)).2⟩
def DrewRd (w : World) (e : Ending) (w' : World) : Prop := ∃ (v : Value) (F : Fl) (block page : Int), e = .returned (.tuple #[v, .int .i64 block, .int .i64 page]) ∧ FlIn w' w.heap.size w'.heap.size v F ∧ Bent F ∧ Below w.heap.size w w'
def DrewEr (w : World) (e : Ending) (w' : World) : Prop := ∃ (v : Value) (F : Fl) (block : Int), e = .returned (.tuple #[v, .int .i64 block]) ∧ FlIn w' w.heap.size w'.heap.size v F ∧ Bent F ∧ Below w.heap.size w w'
end Go.Proofs.YtlmdpdidjldkpaaGreatDoor
/- Two blocks of an array compared, in the model and in the program: the contracts. -/
namespace Go.Proofs.YtlmdpdidjldkpaaGreatDoor
open Go.RowKit
set_option linter.unusedVariables false
theorem list_same {α : Type} {d : α} {L M : List α} (hl : L.length = M.length) (h : ∀ i, i < L.length → L.getD i d = M.getD i d) : L = M := by
  refine List.ext_getElem hl fun i h1 h2 => ?_
  have := h i h1
  rw [List.getD_eq_getElem?_getD, List.getD_eq_getElem?_getD, List.getElem?_eq_getElem h1, List.getElem?_eq_getElem h2] at this
  exact this
theorem not_true {r : Bool} {P : Prop} (hr : r = true ↔ P) (h : ¬ P) : r = false := by
  cases r
  · rfl
  · exact absurd (hr.1 rfl) h
theorem below_drewN {B : Nat} {a w : World} (h : Below B a w) (n : Nat) : Below B a (w.drewN n) := ⟨h.os, h.tape, h.output, h.size, h.block⟩
theorem cast_ne {a b : Nat} (h : a ≠ b) : ((a : Int) != (b : Int)) = true := by simp; omega
/-- Two blocks differ at their heads, or are alike up to their pages. -/
theorem blk_heads (x y : Blk) : x.er ≠ y.er ∨ (x.er = y.er ∧ x.nx ≠ y.nx) ∨ (x.er = y.er ∧ x.nx = y.nx ∧ x.bad ≠ y.bad) ∨ (x.er = y.er ∧ x.nx = y.nx ∧ x.bad = y.bad ∧ x.pg.length ≠ y.pg.length) ∨ (x.er = y.er ∧ x.nx = y.nx ∧ x.bad = y.bad ∧ x.pg.length = y.pg.length) := by
  by_cases h1 : x.er = y.er
  case neg => exact .inl h1
  by_cases h2 : x.nx = y.nx
  case neg => exact .inr (.inl ⟨h1, h2⟩)
  by_cases h3 : x.bad = y.bad
  case neg => exact .inr (.inr (.inl ⟨h1, h2, h3⟩))
  by_cases h4 : x.pg.length = y.pg.length
  · exact .inr (.inr (.inr (.inr ⟨h1, h2, h3, h4⟩)))
  · exact .inr (.inr (.inr (.inl ⟨h1, h2, h3, h4⟩)))
theorem blk_eq {x y : Blk} (h1 : x.er = y.er) (h2 : x.nx = y.nx) (h3 : x.bad = y.bad) : x = y ↔ x.pg = y.pg := by
  obtain ⟨a, b, c, d⟩ := x
  obtain ⟨a', b', c', d'⟩ := y
  simp only at h1 h2 h3
  subst h1 h2 h3
  simp
end Go.Proofs.YtlmdpdidjldkpaaGreatDoor
/- All pages of two arrays compared, but some of one block: the laws' b10Others, where they are equal. -/
namespace Go.Proofs.YtlmdpdidjldkpaaGreatDoor
open Go.RowKit
set_option linter.unusedVariables false
def OthEq (L M : List Blk) (block low high : Int) : Prop := L.length = M.length ∧ ∀ i, i < L.length → (L.getD i Blk.zero).pg.length = (M.getD i Blk.zero).pg.length ∧
  ∀ k, k < (L.getD i Blk.zero).pg.length → ((i : Int) ≠ block ∨ (k : Int) < low ∨ high < (k : Int)) → (L.getD i Blk.zero).pg.getD k ByteArray.empty = (M.getD i Blk.zero).pg.getD k ByteArray.empty
set_option maxHeartbeats 4000000 in
set_option maxRecDepth 100000 in
theorem others_any (u v : Value) (F G : Fl) (block low high : Int) (w : World) (lo hi lo' hi' : Nat) (hu : FlIn w lo hi u F) (hv : FlIn w lo' hi' v G) (h1 : hi ≤ w.heap.size) (h2 : hi' ≤ w.heap.size) (hE : OthEq F.bs G.bs block low high) (hl : FlLen F) :
    Calls Tryz.prog 12 #[u, v, .int .i64 block, .int .i64 low, .int .i64 high] w fun e w' => e = .returned (.bool true) ∧ Below w.heap.size w w' := by
  obtain ⟨uu, rfl, A, n, c, rfl, hn1, hn2, hn3, hc⟩ := hu
  obtain ⟨vv, rfl, A', n', c', rfl, hm1, hm2, hm3, hc'⟩ := hv
  have hnn : n = n' := by have := hE.1; omega
  subst hnn
  obtain ⟨r0, r1, b0⟩ := Rw.two_new w 28 28 #[.int .i64 F.d, .int .i64 F.b, .int .i64 F.p, .slice A n c, .int .i64 F.fu, .int .i64 F.ke, .bool F.off, .int .i64 F.op] #[.int .i64 G.d, .int .i64 G.b, .int .i64 G.p, .slice A' n c', .int .i64 G.fu, .int .i64 G.ke, .bool G.off, .int .i64 G.op]
  have R0 := Lib.hid r0
  have R1 := Lib.hid r1
  have B0 := Lib.hid b0
  have HC := Lib.hid hc
  have HC' := Lib.hid hc'
  have HE := Lib.hid hE
  have HH := Lib.hid (And.intro h1 h2)
  have HL := Lib.hid hl
  have HN := Lib.hid (show F.bs.length = n from hn3)
  have hnm : (n : Int) ≤ 1048576 := by have := hl.1; omega
  have hnn : ((n : Int) != (n : Int)) = false := by simp
  obtain ⟨d0, d1, d2, d3, d4, d5, d6, d7⟩ := r0.eight
  obtain ⟨e0, e1, e2, e3, e4, e5, e6, e7⟩ := r1.eight
  clear r0 r1 b0 hc hc' hE h1 h2 hl hn1 hn2 hn3 hm1 hm2 hm3
  unfold flc
  go_enter Tryz.func12, Tryz.ntmps12
  go_wp2
  clear d0 d1 d2 d3 d4 d5 d6 d7 e0 e1 e2 e3 e4 e5 e6 e7
  go_loopw [11] (fun i wr => ∃ k : Nat, k ≤ n ∧ i = .int .i64 k ∧ Hid (Rw wr w.heap.size 28 #[.int .i64 F.d, .int .i64 F.b, .int .i64 F.p, .slice A n c, .int .i64 F.fu, .int .i64 F.ke, .bool F.off, .int .i64 F.op]) ∧ Hid (Rw wr (w.heap.size + 1) 28 #[.int .i64 G.d, .int .i64 G.b, .int .i64 G.p, .slice A' n c', .int .i64 G.fu, .int .i64 G.ke, .bool G.off, .int .i64 G.op]) ∧ Hid (Below w.heap.size w wr)) (fun i _ => n - (intOf i).toNat)
  case atStart => exact ⟨0, by omega, rfl, R0, R1, B0⟩
  case round =>
    clear R0 R1 B0
    obtain ⟨i, hi, rfl, R0, R1, B0⟩ := hrel
    obtain ⟨d0, d1, d2, d3, d4, d5, d6, d7⟩ := R0.out.eight
    obtain ⟨e0, e1, e2, e3, e4, e5, e6, e7⟩ := R1.out.eight
    by_cases hlt : i < n
    · have hii : (i : Int) < (n : Int) := by omega
      obtain ⟨gb, off, rfl, hg1, hg2, hcell⟩ := HC.out (by omega)
      obtain ⟨gb', off', rfl, hg1', hg2', hcell'⟩ := HC'.out (by omega)
      obtain ⟨pv, hat, hp⟩ := hcell i hlt
      obtain ⟨pv', hat', hp'⟩ := hcell' i hlt
      obtain ⟨hpl, hpe⟩ := HE.out.2 i (by rw [HN.out]; exact hlt)
      have hpm := HL.out.2 i (by rw [HN.out]; exact hlt)
      unfold Fl.blk at hpm
      obtain ⟨Ap, m, cp, rfl, hq1, hq2, hq3, hq4, hqc⟩ := hp
      obtain ⟨Ap', m', cp', rfl, hq1', hq2', hq3', hq4', hqc'⟩ := hp'
      have hmm : m = m' := by omega
      subst hmm
      have c3 := (B0.out.cell (p := ⟨gb, off + i * 4 + 3, none⟩) (by have := HH.out; show gb < _; omega)).trans hat.2.2.2
      have c3' := (B0.out.cell (p := ⟨gb', off' + i * 4 + 3, none⟩) (by have := HH.out; show gb' < _; omega)).trans hat'.2.2.2
      have QC := Lib.hid hqc
      have QC' := Lib.hid hqc'
      have HPE := Lib.hid hpe
      have HPL := Lib.hid (show (F.bs.getD i Blk.zero).pg.length = m from hq3)
      have hmi : (m : Int) ≤ 1048576 := by omega
      have hmmi : ((m : Int) != (m : Int)) = false := by simp
      clear hcell hcell' hat hat' hpl hpe hpm hq1 hq2 hq3 hq4 hqc hq1' hq2' hq3' hq4' hqc' hg1 hg2 hg1' hg2' HC HC' d0 d1 d2 d4 d5 d6 d7 e0 e1 e2 e4 e5 e6 e7
      go_wp2_with fail
      go_quiet (fail)
      go_wp2_with fail
      obtain ⟨wo, hwo⟩ : ∃ x, x = wr := ⟨_, rfl⟩
      rw [← hwo] at R0 R1 B0 c3 c3' ⊢
      clear hwo
      have T0 := Lib.hid (show Rw (wo.drewN nq) w.heap.size 28 _ from R0.out)
      have T1 := Lib.hid (show Rw (wo.drewN nq) (w.heap.size + 1) 28 _ from R1.out)
      have C3 := Lib.hid (And.intro (show (wo.drewN nq).cell? _ = _ from c3) (show (wo.drewN nq).cell? _ = _ from c3'))
      have TB := Lib.hid (below_drewN B0.out nq)
      clear R0 R1 B0 c3 c3' d3 e3
      go_loopw [12] (fun x wr => ∃ k : Nat, k ≤ m ∧ x = .int .i64 k ∧ Hid (Rw wr w.heap.size 28 #[.int .i64 F.d, .int .i64 F.b, .int .i64 F.p, .slice (some ⟨gb, off, none⟩) n c, .int .i64 F.fu, .int .i64 F.ke, .bool F.off, .int .i64 F.op]) ∧ Hid (Rw wr (w.heap.size + 1) 28 #[.int .i64 G.d, .int .i64 G.b, .int .i64 G.p, .slice (some ⟨gb', off', none⟩) n c', .int .i64 G.fu, .int .i64 G.ke, .bool G.off, .int .i64 G.op]) ∧ Hid (Below w.heap.size w wr) ∧
        Hid (wr.cell? ⟨gb, off + i * 4 + 3, none⟩ = some (.slice Ap m cp) ∧ wr.cell? ⟨gb', off' + i * 4 + 3, none⟩ = some (.slice Ap' m cp'))) (fun x _ => m - (intOf x).toNat)
      case atStart => exact ⟨0, by omega, rfl, T0, T1, TB, C3⟩
      case round =>
        clear T0 T1 TB C3
        obtain ⟨k, hk, rfl, T0, T1, TB, C3⟩ := hrel
        obtain ⟨d0, d1, d2, d3, d4, d5, d6, d7⟩ := T0.out.eight
        obtain ⟨e0, e1, e2, e3, e4, e5, e6, e7⟩ := T1.out.eight
        obtain ⟨c3, c3'⟩ := C3.out
        clear d0 d1 d2 d4 d5 d6 d7 e0 e1 e2 e4 e5 e6 e7
        by_cases hkm : k < m
        · have hki : (k : Int) < (m : Int) := by omega
          obtain ⟨pb, po, rfl, hp1, hp2, hpx⟩ := QC.out (by omega)
          obtain ⟨pb', po', rfl, hp1', hp2', hpx'⟩ := QC'.out (by omega)
          have x1 := (TB.out.cell (p := ⟨pb, po + k, none⟩) (by have := HH.out; show pb < _; omega)).trans (hpx k hkm)
          have x2 := (TB.out.cell (p := ⟨pb', po' + k, none⟩) (by have := HH.out; show pb' < _; omega)).trans (hpx' k hkm)
          have hpe := HPE.out k (by rw [HPL.out]; exact hkm)
          clear hpx hpx' hp1 hp2 hp1' hp2' QC QC'
          by_cases hex : (i : Int) ≠ block ∨ (k : Int) < low ∨ high < (k : Int)
          · have hpe := hpe hex
            rw [hpe] at x1
            clear hpe
            have hs := str_same (rfl : ((G.bs.getD i Blk.zero).pg.getD k ByteArray.empty) = (G.bs.getD i Blk.zero).pg.getD k ByteArray.empty)
            generalize (G.bs.getD i Blk.zero).pg.getD k ByteArray.empty = z at *
            by_cases h1 : (i : Int) = block
            · have b1 : ((i : Int) != block) = false := by simp; omega
              by_cases h2 : (k : Int) < low
              · have b2 : decide ((k : Int) < low) = true := by simp; omega
                clear hex h1
                go_wp2_with fail
                go_quiet (fail)
                go_wp2
                go_roundw
                case rel => exact ⟨k + 1, by omega, by go_num, Lib.hid (show Rw (wr.drewN nq) _ _ _ from T0.out), Lib.hid (show Rw (wr.drewN nq) _ _ _ from T1.out), Lib.hid (below_drewN TB.out nq), C3⟩
                case measure => simp [intOf]; omega
              · have b2 : decide ((k : Int) < low) = false := by simp; omega
                have b3 : decide ((k : Int) > high) = true := by simp; omega
                clear hex h1
                go_wp2_with fail
                go_quiet (fail)
                go_wp2
                go_roundw
                case rel => exact ⟨k + 1, by omega, by go_num, Lib.hid (show Rw (wr.drewN nq) _ _ _ from T0.out), Lib.hid (show Rw (wr.drewN nq) _ _ _ from T1.out), Lib.hid (below_drewN TB.out nq), C3⟩
                case measure => simp [intOf]; omega
            · have b1 : ((i : Int) != block) = true := by simp; omega
              clear hex
              go_wp2_with fail
              go_quiet (fail)
              go_wp2
              go_roundw
              case rel => exact ⟨k + 1, by omega, by go_num, Lib.hid (show Rw (wr.drewN nq) _ _ _ from T0.out), Lib.hid (show Rw (wr.drewN nq) _ _ _ from T1.out), Lib.hid (below_drewN TB.out nq), C3⟩
              case measure => simp [intOf]; omega
          · have b1 : ((i : Int) != block) = false := by simp; omega
            have b2 : decide ((k : Int) < low) = false := by simp; omega
            have b3 : decide ((k : Int) > high) = false := by simp; omega
            clear hpe hex
            go_wp2_with fail
            go_quiet (fail)
            go_wp2
            go_roundw
            case rel => exact ⟨k + 1, by omega, by go_num, Lib.hid (show Rw (wr.drewN nq) _ _ _ from T0.out), Lib.hid (show Rw (wr.drewN nq) _ _ _ from T1.out), Lib.hid (below_drewN TB.out nq), C3⟩
            case measure => simp [intOf]; omega
        · obtain rfl : k = m := by omega
          clear QC QC' HPE
          go_wp2
          go_roundw
          case rel => exact ⟨i + 1, by omega, by go_num, T0, T1, TB⟩
          case measure => simp [intOf]; omega
    · obtain rfl : i = n := by omega
      clear HC HC' HE HL HH HN
      go_wp2
      go_ret
      exact ⟨rfl, B0.out⟩
end Go.Proofs.YtlmdpdidjldkpaaGreatDoor
/- Plain facts: what a program operation and an erase leave, page by page. -/
namespace Go.Proofs.YtlmdpdidjldkpaaGreatDoor
open Go.RowKit
set_option linter.unusedVariables false
/-- One block replaced by one with as many pages, equal but for some of them. -/
theorem othSet {L : List Blk} {k : Nat} (x : Blk) (hk : k < L.length) {low high : Int} (hl : x.pg.length = (L.getD k Blk.zero).pg.length)
    (h : ∀ t, t < x.pg.length → ((t : Int) < low ∨ high < (t : Int)) → x.pg.getD t ByteArray.empty = (L.getD k Blk.zero).pg.getD t ByteArray.empty) : OthEq (L.set k x) L k low high := by
  refine ⟨List.length_set, fun i hi => ?_⟩
  rw [List.length_set] at hi
  by_cases e : k = i
  · subst e
    rw [getD_set_eq _ _ _ _ hi]
    exact ⟨hl, fun t ht hc => h t ht (by omega)⟩
  · rw [getD_set_ne _ _ _ _ _ e]
    exact ⟨rfl, fun t ht hc => rfl⟩
theorem OthEq.wider {L M : List Blk} {b lo hi lo' hi' : Int} (h : OthEq L M b lo hi) (h1 : lo' ≤ lo) (h2 : hi ≤ hi') : OthEq L M b lo' hi' :=
  ⟨h.1, fun i hi => ⟨(h.2 i hi).1, fun k hk hc => (h.2 i hi).2 k hk (by omega)⟩⟩
theorem not_empty {s : ByteArray} (h : s.size = 91) : s ≠ ByteArray.empty := fun e => by
  rw [e] at h
  simp [ByteArray.size_empty] at h
section
variable {F : Fl} {k n : Nat} {raw : ByteArray}
theorem prog_off (hf : F.fu ≠ 0) : (F.prog k raw).off = F.off ∧ (F.prog k raw).op = wrap64 (F.op + 1) ∧ (F.prog k raw).p = F.p ∧ (F.prog k raw).bs = F.bs.set k ((F.blk k).prog raw) := by
  unfold Fl.prog
  rw [if_neg hf]
  refine ⟨?_, rfl, rfl, rfl⟩
  show (if F.fu = 0 then true else F.off) = F.off
  rw [if_neg hf]
theorem order_prog (h : FlOk F) (ho : 0 ≤ F.op ∧ F.op ≤ 1000) (hoff : F.off = false) (hf : F.fu ≠ 0) (hk : k < F.bs.length) (hnp : (n : Int) < F.p) (hn : (F.blk k).nx = n) (hb : (F.blk k).bad = false) (hr : raw.size = 91) :
    FlOk (F.prog k raw) ∧ ReadEnds (F.prog k raw) k n raw 0 ∧ OthEq (F.prog k raw).bs F.bs k n n ∧ (F.prog k raw).op = F.op + 1 ∧ (F.prog k raw).p = F.p ∧ (F.prog k raw).bs.length = F.bs.length ∧
    ((F.prog k raw).blk k).nx = n + 1 ∧ ((F.prog k raw).blk k).er = (F.blk k).er ∧ ((F.prog k raw).blk k).bad = false ∧ (F.prog k raw).off = false ∧ ProgEnds (F.prog k raw) k n raw Fl.zero 5 := by
  have hok := h.prog (k := k) (by omega) hk (by omega) hr
  obtain ⟨e1, e2, e3, e4⟩ := prog_off (k := k) (raw := raw) hf
  have hpl := h.plen hk
  have hbl : (F.prog k raw).blk k = (F.blk k).prog raw := by unfold Fl.blk; rw [e4, getD_set_eq _ _ _ _ hk]; rfl
  have hlen : (F.prog k raw).bs.length = F.bs.length := by rw [e4, List.length_set]
  have hat : ((F.blk k).prog raw).at n = raw := by
    show ((F.blk k).pg.set (F.blk k).nx.toNat raw).getD n ByteArray.empty = raw
    rw [hn, show ((n : Int)).toNat = n by omega, getD_set_eq _ _ _ _ (by omega)]
  have hnx : ((F.prog k raw).blk k).nx = n + 1 := by rw [hbl]; show (F.blk k).nx + 1 = _; rw [hn]
  have hbd : ((F.prog k raw).blk k).bad = false := by rw [hbl]; exact hb
  refine ⟨hok, ?_, ?_, by rw [e2, IntWalk.wrap64_in _ (by omega)], e3, hlen, hnx, by rw [hbl]; rfl, hbd, by rw [e1, hoff], .state hok hr (by rw [e1, hoff]) k n rfl rfl (by omega) (by omega) hbd (by rw [hnx]; omega)⟩
  · have := ReadEnds.full (block := k) (page := n) hok (by rw [e1, hoff]) k n rfl rfl (by omega) (by omega) (by rw [hbl, hat]; exact not_empty hr)
    rw [hbl, hat] at this
    exact this
  · rw [e4]
    refine othSet _ hk (by show ((F.blk k).pg.set _ _).length = _; rw [List.length_set]; rfl) fun t ht hc => ?_
    show ((F.blk k).pg.set (F.blk k).nx.toNat raw).getD t ByteArray.empty = _
    rw [hn, getD_set_ne _ _ _ _ _ (by omega)]
    rfl
theorem order_erase (h : FlOk F) (ho : 0 ≤ F.op ∧ F.op ≤ 1001) (hoff : F.off = false) (hf : F.fu ≠ 0) (hk : k < F.bs.length) (hnp : (n : Int) < F.p) (hb : (F.blk k).bad = false) (he : (F.blk k).er ≠ 1000) :
    EraEnds F k (F.erase k) 0 ∧ FlOk (F.erase k) ∧ ReadEnds (F.erase k) k n erasedB 0 ∧ OthEq (F.erase k).bs F.bs k 0 (F.p - 1) ∧ (F.erase k).bs.length = F.bs.length ∧ ((F.erase k).blk k).er = (F.blk k).er + 1 := by
  have hok := h.erase (k := k) (by omega) hk he
  have hpl := h.plen hk
  have e1 : (F.erase k).off = false := by show (if F.fu = 0 then true else F.off) = false; rw [if_neg hf, hoff]
  have e4 : (F.erase k).bs = F.bs.set k ((F.blk k).erase 91) := by unfold Fl.erase; rw [if_neg hf]; rfl
  have hlen : (F.erase k).bs.length = F.bs.length := by rw [e4, List.length_set]
  have hbl : (F.erase k).blk k = (F.blk k).erase 91 := by unfold Fl.blk; rw [e4, getD_set_eq _ _ _ _ hk]; rfl
  have hat : ((F.blk k).erase 91).at n = ByteArray.empty := by
    show (emptied (F.blk k).pg 91).getD n ByteArray.empty = _
    rw [emptied_at _ _ _ (by omega), if_pos (by omega)]
  have hc : F.code = 0 := by unfold Fl.code; rw [if_neg hf]
  refine ⟨hc ▸ EraEnds.done h hoff k rfl hk hb he, hok, .empty hok e1 k n rfl rfl (by omega) (by show (n : Int) < F.p; exact hnp) (by rw [hbl, hat]), ?_, hlen, by rw [hbl]; rfl⟩
  rw [e4]
  refine othSet _ hk (by show (emptied (F.blk k).pg 91).length = _; rw [emptied_length]; rfl) fun t ht hcc => ?_
  have ht2 : t < (F.blk k).pg.length := by
    have : t < (emptied (F.blk k).pg 91).length := ht
    rw [emptied_length] at this
    exact this
  omega
end
end Go.Proofs.YtlmdpdidjldkpaaGreatDoor
/- ReadRaw, in the model and in the program: the contracts. -/
namespace Go.Proofs.YtlmdpdidjldkpaaGreatDoor
open Go.RowKit
set_option linter.unusedVariables false
/-- A page of an array that is read. -/
theorem page_at {W : World} {lo hi n cap : Nat} {A : Option Addr} {L : List Blk} (h : BksIn W lo hi (.slice A n cap) L) {k m : Nat} (hk : k < n) (hm : m < (L.getD k Blk.zero).pg.length) :
    ∃ gb o b po pc, A = some ⟨gb, o, none⟩ ∧ gb < hi ∧ b < hi ∧ W.cell? ⟨gb, o + k * 4 + 3, none⟩ = some (.slice (some ⟨b, po, none⟩) (L.getD k Blk.zero).pg.length pc) ∧ W.cell? ⟨b, po + m, none⟩ = some (.string ((L.getD k Blk.zero).at m)) ∧ ((L.getD k Blk.zero).at m).size ≤ 9223372036854775807 := by
  obtain ⟨A', n', c', e, _, _, _, hx⟩ := h
  injection e with e1 e2 e3
  subst e1 e2 e3
  obtain ⟨gb, o, e, h1, h2, hy⟩ := hx (by omega)
  obtain ⟨pv, hp, hpg⟩ := hy k hk
  obtain ⟨A2, n2, c2, rfl, _, _, h5, h6, h7⟩ := hpg
  obtain ⟨b, po, rfl, h8, h9, hc⟩ := h7 (by omega)
  exact ⟨gb, o, b, po, c2, e, h2, h9, by rw [h5]; exact hp.2.2.2, hc m (by omega), h6 m (by omega)⟩
theorem empty_list : (ByteArray.empty : ByteArray).toList = [] := by rw [ByteArray.toList_eq]; rfl
set_option maxHeartbeats 1000000 in
theorem implRead_any (v : Value) (block page : Int) (F : Fl) (s : ByteArray) (c : Int) (w : World) (lo hi : Nat) (h : FlIn w lo hi v F) (hh : hi ≤ w.heap.size) (hE : ReadEnds F block page s c) (hl : FlLen F) :
    Calls Tryz.prog 14 #[v, .int .i64 block, .int .i64 page] w (PairPost s c w) := by
  obtain ⟨r, hr⟩ := prop_dec (FlOk F)
  obtain ⟨u, rfl, hb⟩ := h
  have hv : ∀ W : World, BksIn W lo hi u F.bs → FlIn W lo hi (.agg (flc F u)) F := fun W a => ⟨u, rfl, a⟩
  have HV := Lib.hid (fun (W : World) (a : BksIn W lo hi u F.bs) (c : hi ≤ W.heap.size) => implValid_any (.agg (flc F u)) F r W lo hi (hv W a) c hr hl)
  have H := Lib.hid hb
  have hbl : ∃ A n c, u = .slice A n c ∧ F.bs.length = n := by obtain ⟨A, n, c, e, _, _, h, _⟩ := hb; exact ⟨A, n, c, e, h⟩
  obtain ⟨Au, nu, cu, rfl, hlen⟩ := hbl
  clear hb hv hl
  have hFl : flc F (.slice Au nu cu) = #[.int .i64 F.d, .int .i64 F.b, .int .i64 F.p, .slice Au nu cu, .int .i64 F.fu, .int .i64 F.ke, .bool F.off, .int .i64 F.op] := rfl
  rw [hFl] at HV ⊢
  have R0 := Lib.hid (Rw.new w 28 #[.int .i64 F.d, .int .i64 F.b, .int .i64 F.p, .slice Au nu cu, .int .i64 F.fu, .int .i64 F.ke, .bool F.off, .int .i64 F.op])
  have B0 := Lib.hid ((Below.refl w.heap.size w).alloc (Nat.le_refl _) (.cells #[.int .i64 F.d, .int .i64 F.b, .int .i64 F.p, .slice Au nu cu, .int .i64 F.fu, .int .i64 F.ke, .bool F.off, .int .i64 F.op] 28))
  clear hFl
  have HE := Lib.hid hE
  have HLN := Lib.hid hlen
  have HP16 := Lib.hid (fun (h : FlOk F) => h.1.p16)
  have HPL := Lib.hid (fun (h : FlOk F) (i : Nat) (hi : i < F.bs.length) => h.plen hi)
  have HLE := Lib.hid (fun (h : FlOk F) => h.len)
  have HHP := Lib.hid (fun (W : World) (r : Bool) (c2 : W.cell? ⟨w.heap.size, 2, none⟩ = some (.int .i64 F.p)) (c3 : W.cell? ⟨w.heap.size, 3, none⟩ = some (.slice Au nu cu)) (hn : nu ≤ 1000) (hr : r = true ↔ ((0 ≤ block ∧ block < (nu : Int)) ∧ (0 ≤ page ∧ page < F.p))) => hasPage_any w.heap.size Au nu cu F.p block page r W c2 c3 hn hr)
  clear hE hlen
  generalize hoff : F.off = off at *
  have HOF := Lib.hid hoff
  clear hoff
  go_enter Tryz.func14, Tryz.ntmps14
  go_wp2_with fail
  refine (HV.out _ (H.out.same (sm B0.out lo hh)) (by simp; omega)).mono ?_
  rintro e w1 ⟨rfl, b1⟩
  have S0 := Lib.hid (R0.out.below b1 (by simp))
  have B1 := Lib.hid (B0.out.trans (b1.mono (by simp)))
  have hsz1 := b1.size
  simp only [World.size_alloc] at hsz1
  obtain ⟨a0, a1, a2, a3, a4, a5, a6, a7⟩ := S0.out.eight
  clear b1
  rcases HE.out with hno | ⟨hok, h1⟩ | ⟨hok, h1, h2⟩ | ⟨hok, h1, k, m, rfl, rfl, hkl, hnp, h2⟩ | ⟨hok, h1, k, m, rfl, rfl, hkl, hnp, h2⟩
  · obtain rfl : r = false := (bool_of r hr).2 hno
    clear hr hno
    go_wp2
    go_ret2
    exact ⟨rfl, B1.out⟩
  all_goals
    obtain rfl : r = true := hr.2 hok
    rw [HOF.out] at h1
    subst h1
    have hl9 := HLE.out hok
    have hp9 := HP16.out hok
    rw [HLN.out] at hl9
    clear hr
  · clear hok hp9
    go_wp2
    go_ret2
    exact ⟨rfl, B1.out⟩
  · have HF := Lib.hid (HHP.out w1 false a2 a3 (by omega) (by
      rw [HLN.out] at h2
      simp only [Bool.false_eq_true, false_iff]
      rintro ⟨a, b⟩
      rcases h2 with h2 | h2 <;> contradiction))
    clear hok h2 hp9
    go_wp2_with fail
    refine HF.out.mono ?_
    rintro e w' ⟨rfl, rfl⟩
    go_wp2
    go_ret2
    exact ⟨rfl, B1.out⟩
  · have HF := Lib.hid (HHP.out w1 true a2 a3 (by omega) (by rw [HLN.out] at hkl; simp; omega))
    have hpl := HPL.out hok k hkl
    rw [HLN.out] at hkl
    obtain ⟨gb, o, b, po, pc, rfl, hg1, hb1, q3, cp, hcs⟩ := page_at (H.out.same (sm B1.out lo hh)) (m := m) hkl (by show m < (F.blk k).pg.length; omega)
    change w1.cell? ⟨gb, o + k * 4 + 3, none⟩ = some (.slice (some ⟨b, po, none⟩) (F.blk k).pg.length pc) at q3
    change w1.cell? ⟨b, po + m, none⟩ = some (.string ((F.blk k).at m)) at cp
    change ((F.blk k).at m).size ≤ _ at hcs
    have hki : (k : Int) < (nu : Int) := by omega
    have hmi : (m : Int) < ((F.blk k).pg.length : Int) := by omega
    have hP16 : ((F.blk k).pg.length : Int) ≤ 16 := by omega
    have hnu : (nu : Int) ≤ 36 := by omega
    generalize (F.blk k).pg.length = P at *
    generalize (F.blk k).at m = y at *
    subst h2
    have hyl := empty_list
    have HEr := Lib.hid (fun (W : World) => implErased_any W)
    have h9 := fillB_size 255 91
    clear hok hpl hp9 hl9
    go_wp2_with fail
    refine HF.out.mono ?_
    rintro e w' ⟨rfl, rfl⟩
    go_wp2_with fail
    refine (HEr.out _).mono ?_
    rintro e w2 ⟨rfl, b2⟩
    have B2 := Lib.hid (B1.out.trans (b2.mono (by omega)))
    clear b2
    go_wp2
    go_ret2
    exact ⟨rfl, B2.out⟩
  · have HF := Lib.hid (HHP.out w1 true a2 a3 (by omega) (by rw [HLN.out] at hkl; simp; omega))
    have hpl := HPL.out hok k hkl
    rw [HLN.out] at hkl
    obtain ⟨gb, o, b, po, pc, rfl, hg1, hb1, q3, cp, hcs⟩ := page_at (H.out.same (sm B1.out lo hh)) (m := m) hkl (by show m < (F.blk k).pg.length; omega)
    change w1.cell? ⟨gb, o + k * 4 + 3, none⟩ = some (.slice (some ⟨b, po, none⟩) (F.blk k).pg.length pc) at q3
    change w1.cell? ⟨b, po + m, none⟩ = some (.string ((F.blk k).at m)) at cp
    change ((F.blk k).at m).size ≤ _ at hcs
    have hki : (k : Int) < (nu : Int) := by omega
    have hmi : (m : Int) < ((F.blk k).pg.length : Int) := by omega
    have hP16 : ((F.blk k).pg.length : Int) ≤ 16 := by omega
    have hnu : (nu : Int) ≤ 36 := by omega
    generalize (F.blk k).pg.length = P at *
    generalize (F.blk k).at m = y at *
    have hne : y.size ≠ 0 := fun e => h2 (by apply ByteArray.ext; apply Array.eq_empty_of_size_eq_zero; exact e)
    obtain ⟨hn1, hn2⟩ := bytes_ne hne
    clear hok hpl hp9 hl9 h2
    go_wp2_with fail
    refine HF.out.mono ?_
    rintro e w' ⟨rfl, rfl⟩
    go_wp2
    go_ret2
    exact ⟨rfl, B1.out⟩
end Go.Proofs.YtlmdpdidjldkpaaGreatDoor
/- Pages are programmed in order: the walk. -/
namespace Go.Proofs.YtlmdpdidjldkpaaGreatDoor
open Go.RowKit
set_option linter.unusedVariables false
theorem prog_codes {F : Fl} {block page : Int} {raw : ByteArray} {G : Fl} {c : Int} (h : ProgEnds F block page raw G c) :
    (c = 0 ∧ FlOk F ∧ raw.size = 91 ∧ F.off = false ∧ F.fu ≠ 0 ∧ ∃ k n : Nat, block = k ∧ page = n ∧ k < F.bs.length ∧ (n : Int) < F.p ∧ (F.blk k).bad = false ∧ (F.blk k).nx = n ∧ G = F.prog k raw) ∨ c = 8 ∨ ((c ≠ 0 ∧ c ≠ 8) ∧ G.bs = []) := by
  rcases h with _ | _ | _ | _ | _ | ⟨h, hr, h1, k, n, hk, hn, hkl, hnp, h2, h3⟩
  · exact .inr (.inr ⟨by omega, rfl⟩)
  · exact .inr (.inl rfl)
  · exact .inr (.inr ⟨by omega, rfl⟩)
  · exact .inr (.inr ⟨by omega, rfl⟩)
  · exact .inr (.inr ⟨by omega, rfl⟩)
  · by_cases hf : F.fu = 0
    · exact .inr (.inl (by unfold Fl.code; rw [if_pos hf]))
    · exact .inl ⟨by unfold Fl.code; rw [if_neg hf], h, hr, h1, hf, k, n, hk, hn, hkl, by omega, h2, by omega, rfl⟩
/-- Two arrays, each in a variable's block. -/
def FoSt (F G : Fl) (A : Option Addr) (nb cb : Nat) (Ay : Option Addr) (ny cy f x : Nat) (w wx : World) : Prop := Rw wx f 28 #[.int .i64 F.d, .int .i64 F.b, .int .i64 F.p, .slice A nb cb, .int .i64 F.fu, .int .i64 F.ke, .bool F.off, .int .i64 F.op] ∧ Rw wx x 28 #[.int .i64 G.d, .int .i64 G.b, .int .i64 G.p, .slice Ay ny cy, .int .i64 G.fu, .int .i64 G.ke, .bool G.off, .int .i64 G.op] ∧ FlIn wx 0 wx.heap.size (.agg #[.int .i64 F.d, .int .i64 F.b, .int .i64 F.p, .slice A nb cb, .int .i64 F.fu, .int .i64 F.ke, .bool F.off, .int .i64 F.op]) F ∧ FlIn wx 0 wx.heap.size (.agg #[.int .i64 G.d, .int .i64 G.b, .int .i64 G.p, .slice Ay ny cy, .int .i64 G.fu, .int .i64 G.ke, .bool G.off, .int .i64 G.op]) G ∧ Below w.heap.size w wx
section
variable {F G : Fl} {A : Option Addr} {nb cb : Nat} {Ay : Option Addr} {ny cy f x : Nat} {w wx wy : World}
theorem FoSt.below (h : FoSt F G A nb cb Ay ny cy f x w wx) (b : Below wx.heap.size wx wy) : FoSt F G A nb cb Ay ny cy f x w wy := by
  obtain ⟨h1, h2, h3, h4, h5⟩ := h
  exact ⟨h1.below b h1.lt, h2.below b h2.lt, (h3.same (sm b _ (Nat.le_refl _))).wide (Nat.le_refl _) b.size, (h4.same (sm b _ (Nat.le_refl _))).wide (Nat.le_refl _) b.size, h5.trans (b.mono h5.size)⟩
theorem FoSt.alloc (h : FoSt F G A nb cb Ay ny cy f x w wx) (o : Obj) : FoSt F G A nb cb Ay ny cy f x w (wx.alloc o) := h.below ((Below.refl _ _).alloc (Nat.le_refl _) _)
end
/-- A block's number of the next page and of erases, as they lie in memory. -/
theorem FlIn.heads {w : World} {lo hi : Nat} {F : Fl} {d b p fu ke op : Int} {off : Bool} {A : Option Addr} {n c : Nat} (h : FlIn w lo hi (.agg #[.int .i64 d, .int .i64 b, .int .i64 p, .slice A n c, .int .i64 fu, .int .i64 ke, .bool off, .int .i64 op]) F) :
    F.bs.length = n ∧ ∀ k, k < n → ∃ g o, A = some ⟨g, o, none⟩ ∧ g < hi ∧ w.cell? ⟨g, o + k * 4, none⟩ = some (.int .i64 (F.blk k).er) ∧ w.cell? ⟨g, o + k * 4 + 1, none⟩ = some (.int .i64 (F.blk k).nx) := by
  obtain ⟨u, e, A', n', c', rfl, h1, h2, h3, h4⟩ := h
  unfold flc at e
  injection e with e
  simp only [Array.mk.injEq, List.cons.injEq, Value.slice.injEq] at e
  obtain ⟨-, -, -, ⟨rfl, rfl, rfl⟩, -⟩ := e
  refine ⟨h3, fun k hk => ?_⟩
  obtain ⟨g, o, rfl, _, h5, h6⟩ := h4 (by omega)
  obtain ⟨pv, h7, _⟩ := h6 k hk
  exact ⟨g, o, rfl, h5, h7.1, h7.2.1⟩
end Go.Proofs.YtlmdpdidjldkpaaGreatDoor
/- Plain facts: what an interrupted erase leaves, page by page. -/
namespace Go.Proofs.YtlmdpdidjldkpaaGreatDoor
open Go.RowKit
set_option linter.unusedVariables false
theorem arm_codes {F : Fl} {ke : Int} {G : Fl} {c : Int} (h : ArmEnds F 0 ke G c) (hk : 0 ≤ ke ∧ ke ≤ 91) : (c = 0 ∧ FlOk F ∧ F.off = false ∧ G = F.arm 0 ke) ∨ c ≠ 0 := by
  rcases h with _ | _ | ⟨_, _, h⟩ | ⟨h, h1, _, _⟩
  · exact .inr (by omega)
  · exact .inr (by omega)
  · exact .inr (by omega)
  · exact .inl ⟨rfl, h, h1, rfl⟩
theorem FlOk.arm0 {F : Fl} (h : FlOk F) {ke : Int} (hk : 0 ≤ ke ∧ ke ≤ 91) : FlOk (F.arm 0 ke) := ⟨h.1, h.2.1, h.2.2.1, by show (-1 : Int) ≤ 0 ∧ (0 : Int) ≤ 1000000; omega, hk, h.2.2.2.2.2⟩
theorem FlOk.on {F : Fl} (h : FlOk F) : FlOk F.on := ⟨h.1, h.2.1, h.2.2.1, by show (-1 : Int) ≤ -1 ∧ (-1 : Int) ≤ 1000000; omega, h.2.2.2.2.1, h.2.2.2.2.2⟩
/-- An erase of an array whose fuse is armed: refused, or begun and cut. -/
theorem cut_codes {F : Fl} {block : Int} {G : Fl} {c : Int} (h : EraEnds F block G c) (hok : FlOk F) (hoff : F.off = false) (hf : F.fu = 0) :
    (c = 8 ∧ ∃ k : Nat, block = k ∧ k < F.bs.length ∧ (F.blk k).bad = false ∧ (F.blk k).er ≠ 1000 ∧ G = F.erase k) ∨ (c ≠ 8 ∧ c ≠ 0) := by
  rcases h with h | ⟨_, h1⟩ | _ | _ | ⟨_, h1, k, hk, hkl, h2, h3⟩
  · exact absurd hok h
  · rw [h1] at hoff; cases hoff
  · exact .inr ⟨by omega, by omega⟩
  · exact .inr ⟨by omega, by omega⟩
  · exact .inl ⟨by unfold Fl.code; rw [if_pos hf], k, hk, hkl, h2, h3, rfl⟩
section
variable {F : Fl} {k : Nat} {ke : Int}
/-- What lies there when the power is back. -/
theorem cut_facts (h : FlOk F) (ho : 0 ≤ F.op ∧ F.op ≤ 1000) (hke : 0 ≤ ke ∧ ke ≤ 19) (hk : k < F.bs.length) (hb : (F.blk k).bad = false) (he : (F.blk k).er ≠ 1000) :
    let Y := ((F.arm 0 ke).erase k).on
    FlOk ((F.arm 0 ke).erase k) ∧ FlOk Y ∧ OthEq Y.bs F.bs k 0 (ke - 1) ∧ Y.bs.length = F.bs.length ∧ Y.p = F.p ∧ Y.off = false ∧ Y.fu = -1 ∧ Y.op = F.op + 1 ∧ (Y.blk k).bad = false ∧ (Y.blk k).er = (F.blk k).er + 1 ∧
    (Y.blk k).nx = (if ke < F.p then F.p else 0) ∧ (∀ t : Nat, (t : Int) < ke → t < (Y.blk k).pg.length → (Y.blk k).pg.getD t ByteArray.empty = ByteArray.empty) := by
  intro Y
  have ha := h.arm0 (ke := ke) ⟨hke.1, by omega⟩
  have hx := ha.erase (k := k) (show F.op < 9223372036854775807 by omega) hk he
  have hpl := h.plen hk
  have e4 : Y.bs = F.bs.set k ((F.blk k).erase ke.toNat) := rfl
  have hbl : Y.blk k = (F.blk k).erase ke.toNat := by unfold Fl.blk; rw [e4, getD_set_eq _ _ _ _ hk]; rfl
  refine ⟨hx, hx.on, ?_, by rw [e4, List.length_set], rfl, rfl, rfl, ?_, by rw [hbl]; exact hb, by rw [hbl]; rfl, ?_, fun t ht htl => ?_⟩
  · rw [e4]
    refine othSet _ hk (by show (emptied (F.blk k).pg ke.toNat).length = _; rw [emptied_length]; rfl) fun t ht hc => ?_
    have ht2 : t < (F.blk k).pg.length := by
      have : t < (emptied (F.blk k).pg ke.toNat).length := ht
      rwa [emptied_length] at this
    show (emptied (F.blk k).pg ke.toNat).getD t ByteArray.empty = _
    rw [emptied_at _ _ _ ht2, if_neg (by omega)]
    rfl
  · show wrap64 (F.op + 1) = _
    rw [IntWalk.wrap64_in _ (by omega)]
  · rw [hbl]
    show (if ke.toNat < (F.blk k).pg.length then ((F.blk k).pg.length : Int) else 0) = _
    by_cases h1 : ke < F.p
    · rw [if_pos (by omega), if_pos h1]; exact hpl.2.2
    · rw [if_neg (by omega), if_neg h1]
  · rw [hbl] at htl ⊢
    have ht2 : t < (F.blk k).pg.length := by
      have : t < (emptied (F.blk k).pg ke.toNat).length := htl
      rwa [emptied_length] at this
    show (emptied (F.blk k).pg ke.toNat).getD t ByteArray.empty = _
    rw [emptied_at _ _ _ ht2, if_pos (by omega)]
/-- What is answered when a page is programmed then. -/
theorem after_prog (h : FlOk F) (hoff : F.off = false) (hfu : F.fu = -1) (hk : k < F.bs.length) (hb : (F.blk k).bad = false) {raw : ByteArray} (hr : raw.size = 91) :
    ∃ G c, ProgEnds F k 0 raw G c ∧ (c = 0 ∨ c = 5) ∧ (c = 0 ↔ (F.blk k).nx = 0) := by
  have hp := h.1.p16
  by_cases hn : (F.blk k).nx = 0
  · exact ⟨_, _, .done h hr hoff k 0 rfl rfl hk (by omega) hb hn, .inl (by unfold Fl.code; rw [if_neg (by omega)]), by unfold Fl.code; rw [if_neg (by omega)]; simp [hn]⟩
  · exact ⟨_, _, .state h hr hoff k 0 rfl rfl hk (by omega) hb hn, .inr rfl, by simp [hn]⟩
/-- What is answered when the block is erased again. -/
theorem after_erase (h : FlOk F) (hoff : F.off = false) (hfu : F.fu = -1) (hk : k < F.bs.length) (hb : (F.blk k).bad = false) :
    ∃ G c, EraEnds F k G c ∧ ((c = 7 ∧ (F.blk k).er = 1000) ∨ (c = 0 ∧ G.bs.length = F.bs.length ∧ (G.blk k).nx = 0)) := by
  have hpl := h.plen hk
  by_cases he : (F.blk k).er = 1000
  · exact ⟨_, _, .bad h hoff k rfl hk (.inr he), .inl ⟨rfl, he⟩⟩
  · refine ⟨_, _, .done h hoff k rfl hk hb he, .inr ⟨by unfold Fl.code; rw [if_neg (by omega)], ?_, ?_⟩⟩
    · show (F.bs.set k _).length = _
      rw [List.length_set]
    · have hbl : (F.erase k).blk k = (F.blk k).erase 91 := by
        unfold Fl.erase
        rw [if_neg (by omega)]
        show (F.bs.set k _).getD k Blk.zero = _
        rw [getD_set_eq _ _ _ _ hk]
      rw [hbl]
      show (if 91 < (F.blk k).pg.length then ((F.blk k).pg.length : Int) else 0) = 0
      rw [if_neg (by omega)]
end
end Go.Proofs.YtlmdpdidjldkpaaGreatDoor
/- Decoding several words, in the model and in the program: the contracts. -/
namespace Go.Proofs.YtlmdpdidjldkpaaGreatDoor
open Go.RowKit

theorem decX_ok {X : Nat} (h : okX X) : Dec X (wStr (valX X)) (cntX X : Nat) 0 := by
  unfold valX cntX
  by_cases hg : good X = true
  · rw [if_pos hg, if_pos hg]; exact .inl ⟨hg, rfl, rfl, rfl⟩
  · rw [if_neg hg, if_neg hg]
    rcases h with h | h
    · exact absurd h hg
    · exact .inr (.inl ⟨by simpa using hg, h, rfl, rfl, rfl⟩)
theorem decX_bad {X : Nat} (h : ¬ okX X) : Dec X ⟨#[]⟩ 0 6 := by
  have hg : good X = false := by rw [Bool.eq_false_iff]; exact fun e => h (.inl e)
  exact .inr (.inr ⟨hg, fun e => h (.inr e), rfl, rfl, rfl⟩)
theorem valX_lt (X : Nat) : valX X < 2 ^ 64 := by unfold valX; split <;> exact lo_lt _
theorem byteIdx (t : ByteArray) (k : Nat) (h : k < t.size) (w : World) :
    (Instr.index 9 (.string t) (.int .i64 (k : Int))).run Tryz.prog w = .ok (.int .u8 (byteAt t k : Int)) w := by
  rw [← byteAt_eq h]
  have h0 : (0 : Int) ≤ (k : Int) := by omega
  have h1 : (k : Int) < (t.size : Int) := by omega
  go_simp
def EccPost (r : ByteArray) (n c : Int) (w : World) (e : Ending) (w' : World) : Prop := e = .returned (.tuple #[.string r, .int .i64 n, .int .i64 c]) ∧ Below w.heap.size w w'
/-- How the decoding ends: all words, or at the first that can't be decoded. -/
def EccEnds (s t : ByteArray) (n m : Nat) (R : ByteArray) (tot c : Int) : Prop :=
  (m = n ∧ R = strOfNums (outL s t n) ∧ tot = (totL s t n : Nat) ∧ c = 0) ∨ (m < n ∧ ¬ okX (cwX s t m) ∧ R = ⟨#[]⟩ ∧ tot = 0 ∧ c = 6)
theorem BytesOwn.whole {w : World} {B g n : Nat} {l : List Int} (h : BytesOwn w B (.slice (some ⟨g, 0, none⟩) n n) l) (hl : l.length = n) : w.heap[g]? = some (.cells (l.map (Value.int .u8)).toArray 5 (0, 0)) := by
  rcases h.2 with ⟨h1, _⟩ | ⟨g', cap, cur, h1, _, h3, _, _, h6, h7⟩
  · simp at h1
  · simp at h1
    obtain ⟨rfl, _, rfl⟩ := h1
    rw [h3]
    have : cur.toList = l.map (Value.int .u8) := by rw [← h7, List.take_of_length_le (by simp; omega)]
    rw [← this]
theorem BytesOwn.of_whole {w : World} {B g n : Nat} {l : List Int} (hB : B ≤ g) (hl : l.length = n) (hn : n ≤ 140737488355328) (h : w.heap[g]? = some (.cells (l.map (Value.int .u8)).toArray 5 (0, 0))) : BytesOwn w B (.slice (some ⟨g, 0, none⟩) n n) l := by
  refine ⟨by simp, .inr ⟨g, n, _, by rw [hl], hB, h, by omega, by unfold maxLen; omega, by simp [hl], ?_⟩⟩
  rw [List.take_of_length_le (by simp)]
theorem byteCells_wStr (x : Nat) : Lib.byteCells (wStr x).data.toList = (wL x).map (Value.int .u8) := by
  rw [← nums_wStr x, List.map_map]; rfl
theorem wpList_copy_word {Q : Exit → Act → World → Prop} {ops : Array Oper} {rest : List Oper} {o : Oper} {a : Act} {w0 w : World} {B : Nat} (hgd : o.guard = none) (d x : Operand)
    (ho : o.op = .call { callee := .builtin .copy, args := #[d, x], argTypes := #[22, 9] })
    (g off dLen dCap n : Nat) (hd : a.eval d = .slice (some ⟨g, off, none⟩) dLen dCap) (y : Nat) (hx : a.eval x = .string (wStr y)) (l : List Int)
    (hown : BytesOwn w B (.slice (some ⟨g, 0, none⟩) n n) l) (hl : l.length = n) (hn : n ≤ 140737488355328) (hle : 8 ≤ dLen) (hfit : off + 8 ≤ n) (hb : Below B w0 w) (hBg : B ≤ g)
    (h : ∀ w', BytesOwn w' B (.slice (some ⟨g, 0, none⟩) n n) (l.take off ++ wL y ++ l.drop (off + 8)) → Below B w0 w' → w'.heap.size = w.heap.size → wpList Tryz.prog ops Q rest (a.put o.dst (.int .i64 8)) w') :
    wpList Tryz.prog ops Q (o :: rest) a w := by
  refine wpList_plain hgd fun K hK => ?_
  have hw := hown.whole hl
  have hrun := Lib.run_copy_row_string (P := Tryz.prog) w 22 9 o.type 5 g off dLen dCap (wStr y) _ _ Tryz.underlying22 (by kernel_rfl) hw (by rw [wStr_size]; exact hle) (by rw [wStr_size]; simp; omega)
  unfold Oper.wp execOp
  simp only [ho, resolve, invoke, builtin, Sem.run_bind, Sem.run_pure, Result.andThen_ok, List.map_toArray, List.map_cons, List.map_nil, hd, hx, hrun]
  refine hK _ _ ?_
  rw [byteCells_wStr, wStr_size]
  have e : (((l.map (Value.int .u8)).toArray.toList.take off ++ (wL y).map (Value.int .u8) ++ (l.map (Value.int .u8)).toArray.toList.drop (off + 8)).toArray) = ((l.take off ++ wL y ++ l.drop (off + 8)).map (Value.int .u8)).toArray := by
    simp [List.map_take, List.map_drop]
  rw [e]
  exact h _ (BytesOwn.of_whole hBg (by simp [wL_length]; omega) hn (setRow_heap w g _ _ _ _ hw)) (below_setRow hb hBg _) (size_setRow ..)
theorem slice_from (g k n : Nat) (hk : k < n) (w : World) :
    (Instr.slice 22 (.slice (some ⟨g, 0, none⟩) (8 * n) (8 * n)) (some (.int .i64 ((k : Int) * 8))) none none).run Tryz.prog w = .ok (.slice (some ⟨g, 8 * k, none⟩) (8 * n - 8 * k) (8 * n - 8 * k)) w := by
  rw [run_slice_l w 22 (some ⟨g, 0, none⟩) (8 * n) (8 * n) (by kernel_rfl) .i64 _ (by omega) (by omega)]
  have e : (sizeOf (Tryz.prog.elem 22)).run Tryz.prog w = .ok 1 w := by kernel_rfl
  rw [e, show ((k : Int) * 8).toNat = 8 * k by omega]
  simp only [Result.andThen_ok, sliced]
  rw [if_neg (by omega)]
  simp [Addr.add]
  omega
theorem outL_take (s t : ByteArray) (n k : Nat) (h : k < n) (y : List Int) :
    (outL s t k ++ List.replicate (8 * n - 8 * k) 0).take (8 * k) ++ y ++ (outL s t k ++ List.replicate (8 * n - 8 * k) (0 : Int)).drop (8 * k + 8) = (outL s t k ++ y) ++ List.replicate (8 * n - 8 * (k + 1)) 0 := by
  have hl := outL_length s t k
  rw [List.take_append_of_le_length (by omega), List.take_of_length_le (by omega), List.drop_append, List.drop_eq_nil_of_le (by omega), hl, List.nil_append, List.drop_replicate, show 8 * n - 8 * k - (8 * k + 8 - 8 * k) = 8 * n - 8 * (k + 1) by omega]
set_option maxRecDepth 100000 in
theorem implDecE_yes (s t : ByteArray) (n m : Nat) (R : ByteArray) (tot c : Int) (w : World) (hn : s.size = 8 * n) (hn2 : n ≤ 32) (ht : t.size = n) (hm : m ≤ n) (hok : ∀ k, k < m → okX (cwX s t k)) (hend : EccEnds s t n m R tot c) (hT : MaskTab w) :
    Calls Tryz.prog 37 #[.string s, .string t] w (EccPost R tot c w) := by
  have HT := Lib.hid hT
  have HV := Lib.hid (fun (W : World) => wholeWords_yes s W ⟨by omega, by omega⟩)
  have HW := Lib.hid (fun (k : Nat) (W : World) (h : 8 * k + 8 ≤ s.size) => wordOf_any s k W h (by omega))
  have HX := Lib.hid (fun (k : Nat) (h : k < t.size) (W : World) => byteIdx t k h W)
  have HD := Lib.hid (fun (k : Nat) (R : ByteArray) (n c : Int) (W : World) (h : Dec (cwX s t k) R n c) (hT : MaskTab W) => implDec_any (cwX s t k) R n c W (cwX_lt s t k) hT h)
  have hsz : (s.size : Int) ≤ 256 := by omega
  have htz : (t.size : Int) ≤ 32 := by omega
  have hdv : ((t.size : Int) != (s.size : Int) / 8) = false := by simp; omega
  have hse : (s.size : Int) = ((8 * n : Nat) : Int) := by omega
  have HSE := Lib.hid hse
  have HN := Lib.hid (And.intro hn ht)
  have HO := Lib.hid hok
  have HE := Lib.hid hend
  clear hn ht hok hend hT hse
  go_enter Tryz.func37, Tryz.ntmps37
  go_wp2_with (first
    | (go_at_call 53; refine (HV.out _).mono ?_; rintro e w' ⟨rfl, rfl⟩)
    | (refine wpList_make_bytes rfl _ _ rfl _ _ _ _ (8 * n) rfl rfl HSE.out HSE.out (by omega) (Below.refl _ _) (Nat.le_refl _) ?_; intro w1 hown hb))
  clear hdv
  go_loopw [8, 29] (fun u j wr => ∃ k : Nat, k ≤ m ∧ j = .int .i64 k ∧ u = .int .i64 (totL s t k : Nat) ∧ BytesOwn wr w.heap.size (.slice (some ⟨w.heap.size, 0, none⟩) (8 * n) (8 * n)) (outL s t k ++ List.replicate (8 * n - 8 * k) 0) ∧ Below w.heap.size w wr ∧ w.heap.size < wr.heap.size) (fun _ j _ => n - (intOf j).toNat)
  case atStart => exact ⟨0, by omega, rfl, rfl, by simpa [outL] using hown, hb, (World.ownsRow.lt hown _ rfl).2⟩
  case round =>
    clear hown hb
    obtain ⟨k, hk, rfl, rfl, hown, hb, hzb⟩ := hrel
    have hz := hb.size
    obtain ⟨hn, ht⟩ := HN.out
    have hol := outL_length s t k
    have hlen : (outL s t k ++ List.replicate (8 * n - 8 * k) (0 : Int)).length = 8 * n := by simp [hol]; omega
    have htl := totL_le s t k
    by_cases hkn : k < n
    · have hwd := wd_wStr (s := s) (k := k) (by omega)
      have hwo := fun (W : World) => HW.out k W (by omega)
      have hix := fun (W : World) => HX.out k (by omega) W
      have hkt : (k : Int) < (t.size : Int) := by omega
      have hlo := cwX_lo s t k
      have hhi := cwX_hi s t k
      rw [hwd] at hwo
      rw [← hlo] at hwo
      rw [← hhi] at hix
      have hhl := hi_lt (cwX_lt s t k)
      obtain ⟨r, cn, cd, hdec⟩ : ∃ (r : ByteArray) (cn cd : Int), Dec (cwX s t k) r cn cd ∧ ((okX (cwX s t k) ∧ r = wStr (valX (cwX s t k)) ∧ cn = (cntX (cwX s t k) : Nat) ∧ cd = 0) ∨ (¬ okX (cwX s t k) ∧ r = ⟨#[]⟩ ∧ cn = 0 ∧ cd = 6)) := by
        by_cases h : okX (cwX s t k)
        · exact ⟨_, _, _, decX_ok h, .inl ⟨h, rfl, rfl, rfl⟩⟩
        · exact ⟨_, _, _, decX_bad h, .inr ⟨h, rfl, rfl, rfl⟩⟩
      obtain ⟨hd, hcase⟩ := hdec
      have H1 := Lib.hid (fun (W : World) (hT : MaskTab W) => HD.out k r cn cd W hd hT)
      have HC := Lib.hid hcase
      have HWO := Lib.hid hwo
      have HIX := Lib.hid hix
      have HTr := Lib.hid (show MaskTab wr.drew from HT.out.below hb.drew (Nat.le_refl _))
      have HLEN := Lib.hid hlen
      clear hn ht hwd hwo hix hlo hhi hd hcase hlen hol
      have q4 : IntKind.i64.wrap ((hi (cwX s t k) : Nat) : Int) = (hi (cwX s t k) : Nat) := IntWalk.i64_in _ (by omega)
      go_wp2_with fail
      refine wp_region_held_drew (S := fun _ => True) (by kernel_rfl) trivial (fun hHeld => ?_)
      refine wpAnyH_take (i := 0) (oi := _) (v := .string s) rfl (by kernel_rfl) (by kernel_rfl) (by kernel_rfl) (fun _ _ _ h => h) (Or.inl ⟨by rfl, fun w hSw => by go_simp⟩) hHeld ?_
      refine wpAnyH_take (i := 1) (oi := _) (v := .int .i64 (k : Int)) rfl (by kernel_rfl) (by kernel_rfl) (by kernel_rfl) (fun _ _ _ h => h) (Or.inl ⟨by rfl, fun w hSw => by go_simp⟩) hHeld ?_
      refine wpAnyH_take (i := 3) (oi := _) (v := .string t) rfl (by kernel_rfl) (by kernel_rfl) (by kernel_rfl) (fun _ _ _ h => h) (Or.inl ⟨by rfl, fun w hSw => by go_simp⟩) hHeld ?_
      refine wpAnyH_take (i := 4) (oi := _) (v := .int .i64 (k : Int)) rfl (by kernel_rfl) (by kernel_rfl) (by kernel_rfl) (fun _ _ _ h => h) (Or.inl ⟨by rfl, fun w hSw => by go_simp⟩) hHeld ?_
      refine wpAnyH_take (i := 5) (oi := _) (v := .int .u8 (hi (cwX s t k) : Nat)) rfl (by kernel_rfl) (by kernel_rfl) (by kernel_rfl) (fun _ _ _ h => h) (Or.inl ⟨by rfl, fun w hSw => by have hs1 := HIX.out w; go_simp⟩) hHeld ?_
      refine wpAnyH_take (i := 6) (oi := _) (v := .int .i64 (hi (cwX s t k) : Nat)) rfl (by kernel_rfl) (by kernel_rfl) (by kernel_rfl) (fun _ _ _ h => h) (Or.inl ⟨by rfl, fun w hSw => by go_simp⟩) hHeld ?_
      refine wpAnyH_ready (rs := [2]) (by kernel_rfl) (by simp) ?_
      refine AllReadyH.cons (o := _) rfl (fun K hK => ?_) AllReadyH.nil
      go_simp
      go_at_call 55
      refine (HWO.out _).mono ?_
      rintro e w' ⟨rfl, rfl⟩
      refine hK.out _ _ trivial (fun hHeld => ?_)
      clear hK K
      refine wpAnyH_ready (rs := [7]) (by kernel_rfl) (by simp) ?_
      refine AllReadyH.cons (o := _) rfl (fun K hK => ?_) AllReadyH.nil
      go_simp
      go_at_call 60
      refine (H1.out _ HTr.out).mono ?_
      rintro e w1 ⟨rfl, hb1⟩
      have hown1 : BytesOwn w1 w.heap.size (.slice (some ⟨w.heap.size, 0, none⟩) (8 * n) (8 * n)) (outL s t k ++ List.replicate (8 * n - 8 * k) 0) := BytesOwn.later hown.drew hb1 (fun g hg => (World.ownsRow.lt hown g hg).2)
      have hbb : Below w.heap.size w w1 := hb.drew.trans (hb1.mono hz)
      have hzz : w.heap.size < w1.heap.size := Nat.lt_of_lt_of_le hzb hb1.size
      refine hK.out _ _ trivial (fun hHeld => ?_)
      clear hK K q4 hown hb hb1
      refine wpAnyH_take (i := 8) (oi := _) (v := .tuple #[.string r, .int .i64 cn, .int .i64 cd]) rfl (by kernel_rfl) (by kernel_rfl) (by kernel_rfl) (fun _ _ _ h => h) (Or.inl ⟨by rfl, fun w hSw => by go_simp⟩) hHeld ?_
      refine wpAnyH_take (i := 9) (oi := _) (v := .string r) rfl (by kernel_rfl) (by kernel_rfl) (by kernel_rfl) (fun _ _ _ h => h) (Or.inl ⟨by rfl, fun w hSw => by go_simp⟩) hHeld ?_
      refine wpAnyH_take (i := 10) (oi := _) (v := .int .i64 cn) rfl (by kernel_rfl) (by kernel_rfl) (by kernel_rfl) (fun _ _ _ h => h) (Or.inl ⟨by rfl, fun w hSw => by go_simp⟩) hHeld ?_
      refine wpAnyH_take (i := 11) (oi := _) (v := .int .i64 cd) rfl (by kernel_rfl) (by kernel_rfl) (by kernel_rfl) (fun _ _ _ h => h) (Or.inl ⟨by rfl, fun w hSw => by go_simp⟩) hHeld ?_
      refine wpAnyH_take (i := 12) (oi := _) (v := .string r) rfl (by kernel_rfl) (by kernel_rfl) (by kernel_rfl) (fun _ _ _ h => h) (Or.inl ⟨by rfl, fun w hSw => by go_simp⟩) hHeld ?_
      refine wpAnyH_take (i := 13) (oi := _) (v := .int .i64 cn) rfl (by kernel_rfl) (by kernel_rfl) (by kernel_rfl) (fun _ _ _ h => h) (Or.inl ⟨by rfl, fun w hSw => by go_simp⟩) hHeld ?_
      refine wpAnyH_take (i := 14) (oi := _) (v := .int .i64 cd) rfl (by kernel_rfl) (by kernel_rfl) (by kernel_rfl) (fun _ _ _ h => h) (Or.inl ⟨by rfl, fun w hSw => by go_simp⟩) hHeld ?_
      refine wpAnyH_done (by kernel_rfl) ?_ _
      clear hHeld
      have hz1 := hbb.size
      rcases HC.out with ⟨ho, rfl, rfl, rfl⟩ | ⟨ho, rfl, rfl, rfl⟩
      · have hkm : k < m := by
          rcases HE.out with ⟨h1, _⟩ | ⟨_, h2, _⟩
          · omega
          · by_cases e : k = m
            · subst e; exact absurd ho h2
            · omega
        have HOL : Hid (outL s t (k + 1) = outL s t k ++ wL (valX (cwX s t k))) := by show _ = _; rfl
        have HTL : Hid (((totL s t (k + 1) : Nat) : Int) = (totL s t k : Nat) + (cntX (cwX s t k) : Nat)) := by show _ = _; rw [totL]; omega
        have hcn : cntX (cwX s t k) ≤ 1 := by unfold cntX; split <;> omega
        have HSP := Lib.hid (outL_take s t n k hkn (wL (valX (cwX s t k))))
        have hsf := fun (W : World) => slice_from w.heap.size k n hkn W
        clear HC ho
        generalize valX (cwX s t k) = y at *
        generalize cntX (cwX s t k) = cx at *
        go_wp2_with (refine wpList_copy_word rfl _ _ rfl w.heap.size (8 * k) (8 * n - 8 * k) (8 * n - 8 * k) (8 * n) rfl y rfl _ hown1 HLEN.out (by omega) (by omega) (by omega) hbb (Nat.le_refl _) ?_; intro w2 hown' hb' hz2; clear hown1 hbb)
        have hown2 := hown'
        rw [HSP.out, ← HOL.out] at hown2
        go_roundw
        case rel => exact ⟨k + 1, by omega, by go_num, by rw [HTL.out], hown2, hb', by omega⟩
        case measure => simp [intOf]; omega
      · rcases HE.out with ⟨h1, _⟩ | ⟨_, h2, rfl, rfl, rfl⟩
        · exact absurd (HO.out k (by omega)) ho
        · clear HC ho h2 HE
          go_wp2
          go_ret3
          exact ⟨rfl, hbb⟩
    · rcases HE.out with ⟨h1, rfl, rfl, rfl⟩ | ⟨h1, _⟩
      · obtain rfl : k = n := by omega
        have hkt : (k : Int) = (t.size : Int) := by omega
        have hkt2 : ¬ (k : Int) < (t.size : Int) := by omega
        have hcv := bytes_str hown
        rw [Nat.sub_self, List.replicate_zero, List.append_nil] at hcv
        clear hn ht hkt h1 HE hlen hol
        go_wp2
        go_ret3
        exact ⟨rfl, hb⟩
      · omega
end Go.Proofs.YtlmdpdidjldkpaaGreatDoor
/- Counting the bits that are 1, in the model and in the program: the contracts. -/
namespace Go.Proofs.YtlmdpdidjldkpaaGreatDoor
open Go.RowKit

/-- The bits of x that are 1, of its lowest f ones. -/
def onesF : Nat → Nat → Nat
  | 0, _ => 0
  | f + 1, x => x % 2 + onesF f (x / 2)
theorem onesF_le : ∀ f x, onesF f x ≤ f
  | 0, _ => Nat.le_refl _
  | f + 1, x => by have := onesF_le f (x / 2); rw [onesF]; omega
/-- The bits of the first k bytes that are 1. -/
def onesS (s : ByteArray) : Nat → Nat
  | 0 => 0
  | k + 1 => onesS s k + onesF 8 (byteAt s k)
theorem onesS_le (s : ByteArray) : ∀ k, onesS s k ≤ 8 * k
  | 0 => Nat.le_refl _
  | k + 1 => by have := onesS_le s k; have := onesF_le 8 (byteAt s k); rw [onesS]; omega

theorem onesF_more : ∀ f x, x < 2 ^ f → onesF (f + 1) x = onesF f x
  | 0, x, h => by have : x = 0 := by simpa using h
                  subst this; rfl
  | f + 1, x, h => by
    rw [onesF, onesF_more f (x / 2) (by rw [Nat.pow_succ] at h; omega)]; rfl
theorem onesF_step {x : Nat} (h : x < 256) : onesF 8 x = x % 2 + onesF 8 (x / 2) := by
  rw [onesF_more 7 (x / 2) (by omega)]; rfl
theorem pop_ones : ∀ f x, Lib.popAux f x = onesF f x
  | 0, _ => rfl
  | f + 1, x => by rw [Lib.popAux, onesF, pop_ones f]
theorem ones_big : ∀ k f x, x < 2 ^ f → onesF (f + k) x = onesF f x
  | 0, _, _, _ => rfl
  | k + 1, f, x, h => by
    rw [← Nat.add_assoc, onesF_more (f + k) x (Nat.lt_of_lt_of_le h (Nat.pow_le_pow_right (by decide) (by omega))), ones_big k f x h]
theorem count_ones {x : Nat} (h : x < 256) : Lib.onesCount x = onesF 8 x := by
  unfold Lib.onesCount; rw [pop_ones]; exact ones_big 56 8 x h

set_option maxRecDepth 1000000 in
theorem onesCount8_int (x : Int) (w : World) (h0 : 0 ≤ x) (h1 : x ≤ 255) :
    Calls Tryz.prog 36 #[.int .u8 x] w fun e w' => e = .returned (.int .i64 (Lib.onesCount x.toNat)) ∧ w' = w := by
  have e : wrap64 (Lib.pop8 x) = (Lib.onesCount x.toNat : Int) := by
    have h2 := Lib.pop8_eq ⟨x.toNat, by omega⟩
    have l := Lib.onesCount_le8 ⟨x.toNat, by omega⟩
    simp only [Int.toNat_of_nonneg h0] at h2
    simp only at l
    rw [h2, IntWalk.wrap64_in _ (by omega)]
  have E := Lib.hid e
  clear e
  go_enter Tryz.func36, Tryz.ntmps36
  go_wp2
  go_ret
  exact ⟨ret_int E.out, rfl⟩
theorem onesCount8_any (x : Nat) (w : World) (h : x ≤ 255) :
    Calls Tryz.prog 36 #[.int .u8 x] w fun e w' => e = .returned (.int .i64 (onesF 8 x : Nat)) ∧ w = w' :=
  (onesCount8_int (x : Int) w (by omega) (by omega)).mono fun _ _ ⟨he, hw⟩ => ⟨by rw [he, Int.toNat_natCast, count_ones (by omega)], hw.symm⟩

end Go.Proofs.YtlmdpdidjldkpaaGreatDoor
/- Opening a page, in the model and in the program: the contracts. -/
namespace Go.Proofs.YtlmdpdidjldkpaaGreatDoor
open Go.RowKit
set_option linter.unusedVariables false
theorem results_tmp4 {fn : Func} {t u v x : Tmp} (h : fn.results = #[.tmp t, .tmp u, .tmp v, .tmp x]) (tmps : Array Value) (P : Program) (w : World) :
    (results fn tmps).run P w = .ok (.tuple #[tmps.getD t undef, tmps.getD u undef, tmps.getD v undef, tmps.getD x undef]) w := by
  simp [results, h]
/-- How many bits of the mark are wrong. -/
def mkErr (raw : ByteArray) : Nat := onesF 8 (byteAt raw 90 ^^^ 90)
def bodyOf (raw : ByteArray) : ByteArray := raw.extract 0 80
def chksOf (raw : ByteArray) : ByteArray := raw.extract 80 90
theorem bodyOf_size {raw : ByteArray} (h : raw.size = 91) : (bodyOf raw).size = 80 := by unfold bodyOf; rw [ByteArray.size_extract]; omega
theorem chksOf_size {raw : ByteArray} (h : raw.size = 91) : (chksOf raw).size = 10 := by unfold chksOf; rw [ByteArray.size_extract]; omega
/-- What OpenPage answers. -/
inductive OpenEnds (raw : ByteArray) (p : Int) : ByteArray → ByteArray → Int → Int → Prop
  | invalid (h : raw.size ≠ 91) : OpenEnds raw p ⟨#[]⟩ ⟨#[]⟩ 0 1
  | range (h : raw.size = 91) (h1 : ¬ (0 ≤ p ∧ p ≤ 65534)) : OpenEnds raw p ⟨#[]⟩ ⟨#[]⟩ 0 2
  | mark (h : raw.size = 91) (h1 : 0 ≤ p ∧ p ≤ 65534) (h2 : 1 < mkErr raw) : OpenEnds raw p ⟨#[]⟩ ⟨#[]⟩ 0 6
  | bad (h : raw.size = 91) (h1 : 0 ≤ p ∧ p ≤ 65534) (h2 : mkErr raw ≤ 1) (m : Nat) (hm : m ≤ 10) (hok : ∀ k, k < m → okX (cwX (bodyOf raw) (chksOf raw) k)) (R : ByteArray) (t : Int) (he : EccEnds (bodyOf raw) (chksOf raw) 10 m R t 6) : OpenEnds raw p ⟨#[]⟩ ⟨#[]⟩ 0 6
  | done (h : raw.size = 91) (n : Nat) (hn : p = n) (h1 : n ≤ 65534) (h2 : mkErr raw ≤ 1) (m : Nat) (hm : m ≤ 10) (hok : ∀ k, k < m → okX (cwX (bodyOf raw) (chksOf raw) k)) (R : ByteArray) (t : Nat) (ht : t ≤ 100) (hR : R.size = 80) (he : EccEnds (bodyOf raw) (chksOf raw) 10 m R (t : Int) 0) :
      OpenEnds raw p ((scrB R n).extract 0 64) ((scrB R n).extract 64 80) ((t : Int) + (mkErr raw : Nat)) 0
def OpenPost (d s : ByteArray) (n c : Int) (w : World) (e : Ending) (w' : World) : Prop := e = .returned (.tuple #[.string d, .string s, .int .i64 n, .int .i64 c]) ∧ Below w.heap.size w w'
theorem mkErr_le (raw : ByteArray) : mkErr raw ≤ 8 := onesF_le _ _
set_option maxRecDepth 100000 in
theorem implOpen_any (raw : ByteArray) (p : Int) (d s : ByteArray) (n c : Int) (w : World) (h : OpenEnds raw p d s n c) (hraw : raw.size ≤ 9223372036854775807) (hT : MaskTab w) :
    Calls Tryz.prog 15 #[.string raw, .int .i64 p] w (OpenPost d s n c w) := by
  by_cases h9 : raw.size = 91
  case neg =>
    have hd : ((raw.size : Int) != 91) = true := by simp; omega
    rcases h with _ | ⟨h, _⟩ | ⟨h, _⟩ | ⟨h, _⟩ | ⟨h, _⟩
    · go_enter Tryz.func15, Tryz.ntmps15
      go_wp2
      exact bodyPost_ret (results_tmp4 rfl _ _ _) rfl ⟨rfl, Below.refl _ _⟩
    all_goals exact absurd h h9
  have hd : ((raw.size : Int) != 91) = false := by rw [h9]; rfl
  by_cases hp : 0 ≤ p ∧ p ≤ 65534
  case neg =>
    have HV := Lib.hid (validAddr_any p false w (by simp; omega))
    rcases h with h | ⟨h, _⟩ | ⟨_, h, _⟩ | ⟨_, h, _⟩ | ⟨_, k, rfl, h, _⟩
    · exact absurd h9 h
    · clear h9 hp
      go_enter Tryz.func15, Tryz.ntmps15
      go_wp2_with fail
      refine HV.out.mono ?_
      rintro e w' ⟨rfl, rfl⟩
      go_wp2
      exact bodyPost_ret (results_tmp4 rfl _ _ _) rfl ⟨rfl, Below.refl _ _⟩
    · exact absurd h hp
    · exact absurd h hp
    · exact absurd ⟨by omega, by omega⟩ hp
  have HV := Lib.hid (validAddr_any p true w (by simp; omega))
  have hb9 : byteAt raw 90 < 256 := by have := byteAt_le raw 90; omega
  have hxl : byteAt raw 90 ^^^ 90 < 2 ^ 8 := Nat.xor_lt_two_pow (by omega) (by omega)
  have hx : bits .xor .u8 (byteAt raw 90 : Int) 90 = ((byteAt raw 90 ^^^ 90 : Nat) : Int) := u8_xor_nat _ 90 (by omega) (by omega)
  have HO := Lib.hid (fun (W : World) => (show Calls Tryz.prog 36 #[.int .u8 (bits .xor .u8 (byteAt raw 90 : Int) 90)] W fun e w' => e = .returned (.int .i64 (mkErr raw : Nat)) ∧ W = w' from by rw [hx]; exact onesCount8_any (byteAt raw 90 ^^^ 90) W (by omega)))
  have HX := Lib.hid (show ∀ W : World, (Instr.index 9 (.string raw) (.int .i64 90)).run Tryz.prog W = .ok (.int .u8 (byteAt raw 90 : Int)) W from fun W => byteIdx raw 90 (by omega) W)
  have hx90 := HX.out w
  have hme := mkErr_le raw
  clear hxl hx hb9
  have HT := Lib.hid hT
  have HME := Lib.hid h
  clear hT h
  generalize hmm : mkErr raw = me at *
  have HMM := Lib.hid hmm
  clear hmm
  have hmi : (me : Int) ≤ 8 := by omega
  go_enter Tryz.func15, Tryz.ntmps15
  go_wp2_with fail
  refine HV.out.mono ?_
  rintro e w' ⟨rfl, rfl⟩
  by_cases hm1 : 1 < me
  · have hmi2 : (1 : Int) < (me : Int) := by omega
    have hres : d = ⟨#[]⟩ ∧ s = ⟨#[]⟩ ∧ n = 0 ∧ c = 6 := by
      have hq := HMM.out
      rcases HME.out with h | ⟨h, h1⟩ | ⟨h, h1, h2⟩ | ⟨h, h1, h2, _⟩ | ⟨_, _, _, _, h2, _⟩
      · exact absurd h9 h
      · exact absurd hp h1
      · exact ⟨rfl, rfl, rfl, rfl⟩
      · omega
      · omega
    obtain ⟨rfl, rfl, rfl, rfl⟩ := hres
    clear HME
    go_wp2_with fail
    refine (HO.out _).mono ?_
    rintro e w' ⟨rfl, rfl⟩
    go_wp2
    exact bodyPost_ret (results_tmp4 rfl _ _ _) rfl ⟨rfl, Below.refl _ _⟩
  have hmi2 : ¬ (1 : Int) < (me : Int) := by omega
  obtain ⟨m, hm, hok, R, t, cd, he, hcase⟩ : ∃ m, m ≤ 10 ∧ (∀ k, k < m → okX (cwX (bodyOf raw) (chksOf raw) k)) ∧ ∃ (R : ByteArray) (t cd : Int), EccEnds (bodyOf raw) (chksOf raw) 10 m R t cd ∧
      ((cd = 6 ∧ d = ⟨#[]⟩ ∧ s = ⟨#[]⟩ ∧ n = 0 ∧ c = 6) ∨ (cd = 0 ∧ ∃ q pn : Nat, p = pn ∧ pn ≤ 65534 ∧ t = q ∧ q ≤ 100 ∧ R.size = 80 ∧ d = (scrB R pn).extract 0 64 ∧ s = (scrB R pn).extract 64 80 ∧ n = (q : Int) + (me : Nat) ∧ c = 0)) := by
    have hq := HMM.out
    rcases HME.out with h | ⟨h, h1⟩ | ⟨h, h1, h2⟩ | ⟨h, h1, h2, m, hm, hok, R, t, he⟩ | ⟨h, pn, hpn, h1, h2, m, hm, hok, R, q, hq2, hR, he⟩
    · exact absurd h9 h
    · exact absurd hp h1
    · omega
    · exact ⟨m, hm, hok, R, t, 6, he, .inl ⟨rfl, rfl, rfl, rfl, rfl⟩⟩
    · exact ⟨m, hm, hok, R, q, 0, he, .inr ⟨rfl, q, pn, hpn, h1, rfl, hq2, hR, rfl, rfl, by rw [hq], rfl⟩⟩
  have hb8 := bodyOf_size h9
  have hc8 := chksOf_size h9
  have HDE := Lib.hid (fun (W : World) (hT : MaskTab W) => (show Calls Tryz.prog 37 #[.string (raw.extract 0 80), .string (raw.extract 80 90)] W (EccPost R t cd W) from implDecE_yes (bodyOf raw) (chksOf raw) 10 m R t cd W (by omega) (by omega) (by omega) hm hok he hT))
  have HC := Lib.hid hcase
  have s1 : (80 : Int) ≤ (raw.size : Int) := by omega
  have s2 : (90 : Int) ≤ (raw.size : Int) := by omega
  clear hb8 hc8 hok he hcase HME HMM
  go_wp2_with fail
  refine (HO.out _).mono ?_
  rintro e w' ⟨rfl, rfl⟩
  go_wp2_with fail
  clear hd hp hx90 HX HO HV
  go_region_held3 (fun w' => Below w.heap.size w w')
    (first
      | exact (Below.refl _ _).drew
      | exact (Below.refl w.heap.size w).drew.trans hb1)
    (first
      | (go_at_call 37
         refine (HDE.out w.drew (show MaskTab w.drew from HT.out)).mono ?_
         rintro e w1 ⟨rfl, hb1⟩))
  rename_i hS1
  rcases HC.out with ⟨rfl, rfl, rfl, rfl, rfl⟩ | ⟨rfl, q, pn, rfl, hpn, rfl, hq, hR, rfl, rfl, rfl, rfl⟩
  · clear HC
    go_wp2
    exact bodyPost_ret (results_tmp4 rfl _ _ _) rfl ⟨rfl, hS1⟩
  · clear HC
    have hx := scrB_size R pn
    have HS := Lib.hid (fun (W : World) => (show Calls Tryz.prog 27 #[.int .i64 pn, .string R] W _ from implScr_yes (pn : Int) R W (by omega) (by omega) (by omega)))
    rw [Int.toNat_natCast] at HS
    change Hid (∀ W, Calls Tryz.prog 27 #[.int .i64 pn, .string R] W fun e w' => e = .returned (.tuple #[.string (scrB R pn), .int .i64 0]) ∧ Below W.heap.size W w') at HS
    generalize scrB R pn = x at *
    have x1 : (64 : Int) ≤ (x.size : Int) := by omega
    have hxs : x.size = 80 := by omega
    have HXE := Lib.hid (show x.extract 64 80 = x.extract 64 x.size by rw [hxs])
    clear hx hxs
    go_wp2_with fail
    refine (HS.out _).mono ?_
    rintro e w2 ⟨rfl, b2⟩
    have B2 := hS1.trans (b2.mono hS1.size)
    clear b2 hS1
    go_wp2_with fail
    go_region
    go_wp2
    rw [HXE.out]
    exact bodyPost_ret (results_tmp4 rfl _ _ _) rfl ⟨rfl, B2.drew⟩
theorem openEnds (raw : ByteArray) (p : Int) : ∃ d s n c, OpenEnds raw p d s n c := by
  by_cases h : raw.size = 91
  case neg => exact ⟨_, _, _, _, .invalid h⟩
  by_cases h1 : 0 ≤ p ∧ p ≤ 65534
  case neg => exact ⟨_, _, _, _, .range h h1⟩
  by_cases h2 : mkErr raw ≤ 1
  case neg => exact ⟨_, _, _, _, .mark h h1 (by omega)⟩
  obtain ⟨m, hm, hok, hend⟩ := first_bad (fun k => okX (cwX (bodyOf raw) (chksOf raw) k)) 10
  rcases hend with rfl | hbad
  · have hle := totL_le (bodyOf raw) (chksOf raw) 10
    exact ⟨_, _, _, _, .done h p.toNat (by omega) (by omega) h2 10 (Nat.le_refl _) hok _ _ (show totL (bodyOf raw) (chksOf raw) 10 ≤ 100 by omega) (by rw [strOfNums_size, outL_length]) (.inl ⟨rfl, rfl, rfl, rfl⟩)⟩
  · by_cases e : m = 10
    · subst e
      have hle := totL_le (bodyOf raw) (chksOf raw) 10
      exact ⟨_, _, _, _, .done h p.toNat (by omega) (by omega) h2 10 (Nat.le_refl _) hok _ _ (show totL (bodyOf raw) (chksOf raw) 10 ≤ 100 by omega) (by rw [strOfNums_size, outL_length]) (.inl ⟨rfl, rfl, rfl, rfl⟩)⟩
    · exact ⟨_, _, _, _, .bad h h1 h2 m hm hok _ _ (.inr ⟨by omega, hbad, rfl, rfl, rfl⟩)⟩
theorem OpenEnds.size {raw : ByteArray} {p : Int} {d s : ByteArray} {n c : Int} (h : OpenEnds raw p d s n c) : d.size ≤ 64 ∧ s.size ≤ 16 := by
  rcases h with h | h | h | h | h
  all_goals first
    | (rw [ByteArray.size_extract, ByteArray.size_extract]; omega)
    | exact ⟨Nat.zero_le _, Nat.zero_le _⟩
end Go.Proofs.YtlmdpdidjldkpaaGreatDoor
/- Slices of int64: those that come in and are read, those that the call itself makes; the laws' helpers toInt64S, eqInt64S, markInt64S, heldInt64S. -/
namespace Go.Proofs.YtlmdpdidjldkpaaGreatDoor
open Go.RowKit

/-- The value v is a slice that reads as the integers l. -/
def IntsIn (w : World) (v : Value) (l : List Int) : Prop := ∃ A len cap, v = .slice A len cap ∧ l.length = len ∧ (0 < len → ∃ b off, A = some ⟨b, off, none⟩ ∧ b < w.heap.size ∧ ∀ i, i < len → w.cell? ⟨b, off + i, none⟩ = some (.int .i64 (l.getD i 0)))
theorem IntsIn.below {w w' : World} {B : Nat} {v : Value} {l : List Int} (h : IntsIn w v l) (hb : Below B w w') (hB : w.heap.size ≤ B) : IntsIn w' v l := by
  obtain ⟨A, len, cap, rfl, hl, hc⟩ := h
  refine ⟨A, len, cap, rfl, hl, fun h0 => ?_⟩
  obtain ⟨b, off, rfl, hbl, hx⟩ := hc h0
  exact ⟨b, off, rfl, by have := hb.size; omega, fun i hi => (hb.cell (p := ⟨b, off + i, none⟩) (Nat.lt_of_lt_of_le hbl hB)).trans (hx i hi)⟩
/-- The value v is a slice of the call's own (in a block from B on) that holds the integers l. -/
def IntsOwn (w : World) (B : Nat) (v : Value) (l : List Int) : Prop := w.ownsRow B 2 1 v l.length (l.map (Value.int .i64))
theorem info64 : (Tryz.prog.info? 2).map (fun i => (i.zero, i.size, i.bytes)) = some (some (.int .i64 0), 1, 8) := by kernel_rfl
section
variable {w w' : World} {B : Nat} {v : Value} {l : List Int}
theorem IntsOwn.made (w : World) {B : Nat} (h : B ≤ w.heap.size) : IntsOwn (w.alloc (.cells #[] 2)) B (.slice (some ⟨w.heap.size, 0, none⟩) 0 0) [] :=
  World.ownsRow_made w #[] 0 h (by unfold maxLen; omega) rfl
theorem IntsOwn.later {B' : Nat} (h : IntsOwn w B v l) (hb : Below B' w w') (hB : w.heap.size ≤ B') : IntsOwn w' B v l := by
  refine ⟨h.1, ?_⟩
  rcases h.2 with h2 | ⟨g, cap, cur, h1, h2, h3, h4⟩
  · exact .inl h2
  · have hg : g < w.heap.size := by
      rcases Nat.lt_or_ge g w.heap.size with hlt | hge
      · exact hlt
      · rw [Array.getElem?_eq_none hge] at h3; cases h3
    exact .inr ⟨g, cap, cur, h1, h2, (hb.block g (by omega)).trans h3, h4⟩
theorem IntsOwn.drew (h : IntsOwn w B v l) : IntsOwn w.drew B v l := h
theorem IntsOwn.shape (h : IntsOwn w B v l) : (v = .slice none 0 0 ∧ l = []) ∨ ∃ g cap, v = .slice (some ⟨g, 0, none⟩) l.length cap ∧ B ≤ g ∧ g < w.heap.size := by
  rcases h.2 with ⟨h1, h2⟩ | ⟨g, cap, cur, h1, h2, h3, _⟩
  · exact .inl ⟨h1, List.eq_nil_of_length_eq_zero h2⟩
  · refine .inr ⟨g, cap, h1, h2, ?_⟩
    rcases Nat.lt_or_ge g w.heap.size with hlt | hge
    · exact hlt
    · rw [Array.getElem?_eq_none hge] at h3; cases h3
theorem IntsOwn.cell {g n cap : Nat} (h : IntsOwn w B (.slice (some ⟨g, 0, none⟩) n cap) l) {j : Nat} (hn : l.length = n) (hj : j < n) : w.cell? ⟨g, j, none⟩ = some (.int .i64 (l.getD j 0)) := by
  unfold IntsOwn at h
  rw [hn] at h
  rw [World.ownsRow.cellAt h j (by omega)]
  simp [show j < l.length by omega]
theorem IntsOwn.free {g n cap : Nat} (h : IntsOwn w B (.slice (some ⟨g, 0, none⟩) n cap) l) (hn : l.length = n) (j : Nat) : w.frozen? ⟨g, j, none⟩ = false := by
  unfold IntsOwn at h
  rw [hn] at h
  exact World.ownsRow.frozenAt h j
theorem IntsOwn.stored {g n cap : Nat} (h : IntsOwn w B (.slice (some ⟨g, 0, none⟩) n cap) l) (hn : l.length = n) (j : Nat) (b : Int) :
    IntsOwn (w.setCell ⟨g, j, none⟩ (.int .i64 b)) B (.slice (some ⟨g, 0, none⟩) n cap) (l.set j b) := by
  unfold IntsOwn at h ⊢
  rw [hn] at h
  have := (World.ownsRow.stored h j (.int .i64 b)).1
  rw [List.length_set, hn, List.map_set]
  exact this
theorem IntsOwn.reads (h : IntsOwn w B v l) : IntsIn w v l := by
  rcases h.shape with ⟨rfl, rfl⟩ | ⟨g, cap, rfl, h1, h2⟩
  · exact ⟨none, 0, 0, rfl, rfl, fun h => by omega⟩
  · exact ⟨_, _, _, rfl, rfl, fun _ => ⟨g, 0, rfl, h2, fun i hi => by rw [Nat.zero_add]; exact h.cell rfl hi⟩⟩
/-- A write to another own row leaves it. -/
theorem IntsOwn.kept {row : Option Nat} (h : IntsOwn w B v l) (hg : w.grownBy w' row) (hne : v.ownBlock = none ∨ v.ownBlock ≠ row) : IntsOwn w' B v l := World.ownsRow.kept h hg hne
end
theorem wpList_append_int {Q : Exit → Act → World → Prop} {ops : Array Oper} {rest : List Oper} {o : Oper} {a : Act} {w0 wr : World} {B : Nat} (hgd : o.guard = none) (s x : Operand)
    (ho : o.op = .call { callee := .builtin .append, args := #[s, x], argTypes := #[53, 53] })
    (v : Value) (l : List Int) (hs : a.eval s = v) (hown : IntsOwn wr B v l) (hb : Below B w0 wr) (hB : B ≤ wr.heap.size)
    (b : Int) (c : Nat) (hx : a.eval x = .slice (some ⟨wr.heap.size, 0, none⟩) 1 c) (hl : l.length + 1 ≤ 1000000)
    (h : ∀ v' w', IntsOwn w' B v' (l ++ [b]) → Below B w0 w' → wpList Tryz.prog ops Q rest (a.put o.dst v') w') :
    wpList Tryz.prog ops Q (o :: rest) a (wr.alloc (.cells #[.int .i64 b] 2)) := by
  obtain ⟨i0, hi, hz0, hz1, hz2⟩ := info_parts info64
  refine wpList_append_own _ hgd s x _ ho B 2 i0 (.int .i64 0) 1 8 Tryz.underlying53 hi hz0 hz1 hz2 rfl (by decide) v l.length (l.map (Value.int .i64)) hs (World.ownsRow.alloc hown _) ⟨wr.heap.size, 0, none⟩ 1 c [.int .i64 b] hx rfl ?_ ?_ (by unfold maxLen; omega) (by omega) (by simp; omega) ?_
  · intro j u hj
    match j, hj with
    | 0, hj => simp at hj; subst hj; simp [Addr.add]
  · intro u hu; simp at hu; subst hu; rfl
  · intro v' w' h1 h2 _
    refine h v' w' ?_ ?_
    · unfold IntsOwn; simpa using h1
    · exact (hb.alloc hB _).grown h2 (by simp; omega) fun k hk => (World.ownsRow.lt hown k hk).1
/-- The marks k, k + 1, .. -/
def mkL (k : Int) (n : Nat) : List Int := (List.range n).map fun (i : Nat) => k + (i : Int)
theorem mkL_length (k : Int) (n : Nat) : (mkL k n).length = n := by simp [mkL]
theorem mkL_at (k : Int) {n i : Nat} (h : i < n) : (mkL k n).getD i 0 = k + (i : Int) := by simp [mkL, List.getD_eq_getElem?_getD, h]
theorem mkL_succ (k : Int) (n : Nat) : mkL k (n + 1) = mkL k n ++ [k + (n : Int)] := by simp [mkL, List.range_succ]
theorem mkL_set (k : Int) (l : List Int) (i : Nat) (h : i < l.length) : (mkL k i ++ l.drop i).set i (k + (i : Int)) = mkL k (i + 1) ++ l.drop (i + 1) := by
  have e : l.drop i = l[i] :: l.drop (i + 1) := List.drop_eq_getElem_cons h
  rw [List.set_append_right _ _ (by rw [mkL_length]; omega), mkL_length, Nat.sub_self, e, List.set_cons_zero, mkL_succ, List.append_assoc]; rfl
end Go.Proofs.YtlmdpdidjldkpaaGreatDoor
/- The bits in which two texts differ, in the model and in the program: the contracts. -/
namespace Go.Proofs.YtlmdpdidjldkpaaGreatDoor
open Go.RowKit

/-- Do the texts differ in bit i? -/
def difB (a b : ByteArray) (i : Nat) : Bool := (byteAt a (i / 8) ^^^ byteAt b (i / 8)) / 2 ^ (i % 8) % 2 == 1
def difL (a b : ByteArray) : Nat → List Int
  | 0 => []
  | k + 1 => if difB a b k then difL a b k ++ [(k : Int)] else difL a b k
theorem difL_le (a b : ByteArray) : ∀ k, (difL a b k).length ≤ k
  | 0 => Nat.le_refl _
  | k + 1 => by
    have := difL_le a b k
    rw [difL]; split
    · simp; omega
    · omega
theorem and1_u8 (x : Nat) (h : x < 256) : bits .and .u8 (x : Int) 1 = ((x % 2 : Nat) : Int) := by
  have := u8_and_nat x 1 h (by omega); rw [Nat.and_one_is_mod] at this; exact this
theorem dif_val (a b : ByteArray) (i : Nat) (ha : i / 8 < a.size) (hb : i / 8 < b.size) :
    (bits .and .u8 (bits .xor .u8 (a[i / 8].toNat : Int) (b[i / 8].toNat : Int) / 2 ^ (i % 8)) 1 == 1) = difB a b i := by
  have h1 := byteAt_le a (i / 8)
  have h2 := byteAt_le b (i / 8)
  have hx : byteAt a (i / 8) ^^^ byteAt b (i / 8) < 2 ^ 8 := Nat.xor_lt_two_pow (by omega) (by omega)
  have hd : (byteAt a (i / 8) ^^^ byteAt b (i / 8)) / 2 ^ (i % 8) ≤ byteAt a (i / 8) ^^^ byteAt b (i / 8) := Nat.div_le_self _ _
  rw [byteAt_eq ha, byteAt_eq hb, u8_xor_nat _ _ (by omega) (by omega)]
  unfold difB
  have e : (((byteAt a (i / 8) ^^^ byteAt b (i / 8) : Nat) : Int) / 2 ^ (i % 8)) = (((byteAt a (i / 8) ^^^ byteAt b (i / 8)) / 2 ^ (i % 8) : Nat) : Int) := by rw [Int.natCast_ediv, Int.natCast_pow]; rfl
  rw [e]
  generalize (byteAt a (i / 8) ^^^ byteAt b (i / 8)) / 2 ^ (i % 8) = q at *
  rw [and1_u8 q (by omega)]
  rw [Bool.eq_iff_iff]
  simp
  omega
def DiffPost (l : List Int) (w : World) (e : Ending) (w' : World) : Prop := ∃ v, e = .returned v ∧ IntsOwn w' w.heap.size v l ∧ Below w.heap.size w w'
def Alike (a b : ByteArray) : Prop := a.size = b.size ∧ a.size ≤ 256
end Go.Proofs.YtlmdpdidjldkpaaGreatDoor
