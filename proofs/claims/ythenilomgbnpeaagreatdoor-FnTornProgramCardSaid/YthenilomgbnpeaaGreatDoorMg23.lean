/- The proof's own lemmas, part 24: DrW. -/
import Derived.Test.YthenilomgbnpeaaGreatDoorProg
import Derived.Test.YthenilomgbnpeaaGreatDoorMg11
import Derived.Test.YthenilomgbnpeaaGreatDoorMg20
import Derived.Test.YthenilomgbnpeaaGreatDoorMg21
import Derived.Test.YthenilomgbnpeaaGreatDoorMg22
import Derived.Deep.RegionHeld3
import Derived.Deep.CutRange
/- Chapter 6's generator of operations on an array: the contract. Only that it returns an array of the same shape is said. -/
namespace Go.Proofs.YthenilomgbnpeaaGreatDoor
open Go.RowKit
set_option linter.unusedVariables false
theorem l06Keep_any (B g n : Nat) (w : World) (h : Src w B g n) (hn : n ≤ 800000000000) :
    Calls Tryz.prog 63 #[.pointer (some ⟨g, 0, none⟩)] w (Chose (IntIn 0 91) B g (n + 4) w) := by
  have hlt := h.lt
  have HP : Hid (pickMax 92 = 91) := by show _ = _; decide
  go_enter Tryz.func63, Tryz.ntmps63
  go_wp2_with fail
  refine (pick_any B g n 92 _ h (by omega) (by omega) (by omega)).mono ?_
  rintro e w1 ⟨v1, rfl, ⟨x, rfl, hx0, hx1⟩, hS1, hg1⟩
  rw [HP.out] at hx1
  clear h
  have hz1 := hg1.size
  have hne : w1.heap.size ≠ g := by omega
  go_wp2_with fail
  refine (among_any (fun x => 0 ≤ x ∧ x ≤ 91) B g (n + 2) w1.heap.size 9 9 _ ?_ (by omega) (by omega) (by omega) hne ?_).mono ?_
  · exact hS1.keep ((Below.refl _ _).alloc (Nat.le_refl _) _)
  · refine newCells _ _ _ 9 rfl ?_
    intro v hv
    simp only [List.mem_cons, List.not_mem_nil, or_false] at hv
    rcases hv with rfl | rfl | rfl | rfl | rfl | rfl | rfl | rfl | rfl <;> exact ⟨_, rfl, by constructor <;> omega⟩
  rintro e w2 ⟨v2, rfl, ⟨y, rfl, hy0, hy1⟩, hS2, hg2⟩
  go_wp2
  go_ret
  exact ⟨_, rfl, ⟨y, rfl, hy0, hy1⟩, hS2, grown_trans hg1 (grown_trans (World.grownBy_alloc w1 _ _) hg2)⟩
/-- What a generator of arrays does. -/
def DrewFl (K lo B g n : Nat) (w : World) (e : Ending) (w' : World) : Prop := ∃ (v : Value) (F : Fl), e = .returned v ∧ FlOwn w' lo w'.heap.size v F ∧ Shape F K ∧ Src w' B g n ∧ w.grownBy w' (some g)
/-- What l06Work does: the array that it returns lies where the given one did, or in new blocks. -/
def WorkFl (K lo hi B g n : Nat) (w : World) (e : Ending) (w' : World) : Prop := ∃ (v : Value) (F : Fl) (lo' hi' : Nat), e = .returned v ∧ FlOwn w' lo' hi' v F ∧ (lo ≤ lo' ∧ hi' ≤ w'.heap.size ∧ (hi' ≤ hi ∨ w.heap.size + 2 ≤ lo')) ∧ Shape F K ∧ Src w' B g n ∧ w.grownBy w' (some g)
set_option maxHeartbeats 4000000 in
set_option maxRecDepth 100000 in
theorem l06Work_any (B g n lo hi M : Nat) (v : Value) (F : Fl) (w : World) (h : Src w B g n) (hn : n ≤ 500000000000) (hF : FlOwn w lo hi v F) (hlo : g < lo) (hlw : lo ≤ w.heap.size) (hhi : hi ≤ w.heap.size) (hS : Shape F M) (hM : M ≤ 1000) :
    Calls Tryz.prog 64 #[.pointer (some ⟨g, 0, none⟩), v, .int .i64 8] w (WorkFl (M + 8) lo hi B g (n + 100000) w) := by
  obtain ⟨u, rfl, hb⟩ := hF
  obtain ⟨A, nb, cb, rfl⟩ := hb.slice
  have hlt := h.lt
  obtain ⟨r0, r1, b0⟩ := Rw.two_new w 28 28 (flc F (.slice A nb cb)) #[.int .i64 0, .int .i64 0, .int .i64 0, .slice none 0 0, .int .i64 0, .int .i64 0, .bool false, .int .i64 0]
  have R0 := Lib.hid r0
  have R1 := Lib.hid r1
  have OWN := Lib.hid (hb.same (sm b0 lo hhi))
  have hg0 : w.grownBy ((w.alloc (.cells (flc F (.slice A nb cb)) 28)).alloc (.cells #[.int .i64 0, .int .i64 0, .int .i64 0, .slice none 0 0, .int .i64 0, .int .i64 0, .bool false, .int .i64 0] 28)) (some g) := grown_below (grown_refl w (some g)) b0
  have G0 := Lib.hid hg0
  have S0 := Lib.hid (h.keep b0)
  have P8 : Hid (pickMax 9 = 8) := by show _ = _; decide
  have P4 : Hid (pickMax 4 = 3) := by show _ = _; decide
  unfold flc at R0 OWN G0 S0 ⊢
  clear r0 r1 b0 h hb hg0
  go_enter Tryz.func64, Tryz.ntmps64
  go_wp2_with fail
  refine (pick_any B g n 9 _ S0.out (by omega) (by omega) (by omega)).mono ?_
  rintro e w1 ⟨v1, rfl, ⟨x, rfl, hx0, hx1⟩, hS1, hg1⟩
  rw [P8.out] at hx1
  obtain ⟨C, rfl⟩ := Int.eq_ofNat_of_zero_le hx0
  have HC := Lib.hid (show C ≤ 8 by omega)
  have Q0 := Lib.hid (R0.out.grown hg1 (by omega))
  have Q1 := Lib.hid (R1.out.grown hg1 (by omega))
  have QO := Lib.hid (OWN.out.same (same_above hg1 hlo (by simp; omega)))
  have QG := Lib.hid (grown_trans G0.out hg1)
  have QS := Lib.hid hS1
  have QH := Lib.hid hS
  clear R0 R1 OWN G0 S0 hg1 hS1 hx0 hx1 hS
  go_wp2
  go_loopw [7] (fun i wr => ∃ (k : Nat) (F : Fl) (A : Option Addr) (nb cb lo' hi' : Nat), k ≤ C ∧ i = .int .i64 k ∧ Hid (Rw wr w.heap.size 28 #[.int .i64 F.d, .int .i64 F.b, .int .i64 F.p, .slice A nb cb, .int .i64 F.fu, .int .i64 F.ke, .bool F.off, .int .i64 F.op]) ∧
      Hid (Rw wr (w.heap.size + 1) 28 #[.int .i64 0, .int .i64 0, .int .i64 0, .slice none 0 0, .int .i64 0, .int .i64 0, .bool false, .int .i64 0]) ∧ Hid (BksOwn wr lo' hi' (.slice A nb cb) F.bs) ∧ Hid (lo ≤ lo' ∧ hi' ≤ wr.heap.size ∧ (hi' ≤ hi ∨ w.heap.size + 2 ≤ lo')) ∧ Hid (Shape F (M + (C - k))) ∧
      Hid (Src wr B g (n + 2 + 10000 * (C - k))) ∧ Hid (w.grownBy wr (some g))) (fun i _ => (intOf i).toNat)
  case atStart => exact ⟨C, F, A, nb, cb, lo, hi, by omega, rfl, Q0, Q1, QO, Lib.hid ⟨Nat.le_refl _, Nat.le_trans hhi QG.out.size, .inl (Nat.le_refl _)⟩, Lib.hid (QH.out.more (by omega)), Lib.hid (QS.out.more (by omega)), QG⟩
  case round =>
    clear Q0 Q1 QO QG QS QH
    obtain ⟨k, F, A, nb, cb, lo', hi', hk, rfl, Q0, Q1, QO, QR, QH, QS, QG⟩ := hrel
    have hC8 := HC.out
    have hzg := QG.out.size
    obtain ⟨c0, c1, c2, c3, c4, c5, c6, c7⟩ := Q0.out.eight
    by_cases hk0 : 0 < k
    · have hki : (0 : Int) < (k : Int) := by omega
      have hlen := QH.out.len
      have hnb : F.bs.length = nb := by obtain ⟨_, _, _, e, _, _, h, _⟩ := QO.out; injection e with _ e _; omega
      rw [hnb] at hlen
      have hm4 : min 4 (nb : Int) = 4 := by omega
      have HMIN := Lib.hid (fun (W : World) => (show Calls Tryz.prog 41 #[.int .i64 4, .int .i64 (nb : Int)] W fun e w' => e = .returned (.int .i64 4) ∧ W = w' from by have := minr_any 4 (nb : Int) W; rw [hm4] at this; exact this))
      have hd : F.d = 2 ∨ F.d = 3 := by have := QH.out.1.1; omega
      obtain ⟨q, hq, hq1, hq2⟩ : ∃ q : Int, max 1 (F.d - 1) = q ∧ 1 ≤ q ∧ q ≤ 2 := ⟨max 1 (F.d - 1), rfl, by omega, by omega⟩
      have HMAX := Lib.hid (fun (W : World) => (show Calls Tryz.prog 40 #[.int .i64 1, .int .i64 (F.d - 1)] W fun e w' => e = .returned (.int .i64 q) ∧ W = w' from by have := maxr_any 1 (F.d - 1) W; rw [hq] at this; exact this))
      obtain ⟨hd2, hd3⟩ : 2 ≤ F.d ∧ F.d ≤ 3 := QH.out.1.1
      have hb3 : (nb : Int) ≤ 36 := by omega
      have hgw : w.heap.size ≠ g := by omega
      clear hq hm4 hd
      go_wp2_with fail
      have hwd : IntKind.i64.wrap (F.d - 1) = F.d - 1 := IntWalk.i64_in _ (by omega)
      refine wp_region_held_drew (S := fun W => Rw W w.heap.size 28 #[.int .i64 F.d, .int .i64 F.b, .int .i64 F.p, .slice A nb cb, .int .i64 F.fu, .int .i64 F.ke, .bool F.off, .int .i64 F.op]) (by kernel_rfl) (show Rw wr.drew _ _ _ from Q0.out) (fun hHeld => ?_)
      refine wpAnyH_take (i := 0) (oi := _) (v := .pointer (some ⟨g, 0, none⟩)) rfl (by kernel_rfl) (by kernel_rfl) (by kernel_rfl) (fun _ _ _ h => h) (Or.inl ⟨by rfl, fun W hSw => by go_simp⟩) hHeld ?_
      refine wpAnyH_take (i := 1) (oi := _) (v := .pointer (some ⟨w.heap.size, 3, none⟩)) rfl (by kernel_rfl) (by kernel_rfl) (by kernel_rfl) (fun _ _ _ h => h) (Or.inl ⟨by rfl, fun W hSw => by go_simp⟩) hHeld ?_
      refine wpAnyH_take (i := 2) (oi := _) (v := .slice A nb cb) rfl (by kernel_rfl) (by kernel_rfl) (by kernel_rfl) (fun _ _ _ h => h) (Or.inl ⟨by rfl, fun W hSw => by obtain ⟨q0, q1, q2, q3, q4, q5, q6, q7⟩ := hSw.eight; go_simp⟩) hHeld ?_
      refine wpAnyH_take (i := 3) (oi := _) (v := .int .i64 (nb : Int)) rfl (by kernel_rfl) (by kernel_rfl) (by kernel_rfl) (fun _ _ _ h => h) (Or.inl ⟨by rfl, fun W hSw => by go_simp⟩) hHeld ?_
      refine wpAnyH_take (i := 6) (oi := _) (v := .pointer (some ⟨w.heap.size, 0, none⟩)) rfl (by kernel_rfl) (by kernel_rfl) (by kernel_rfl) (fun _ _ _ h => h) (Or.inl ⟨by rfl, fun W hSw => by go_simp⟩) hHeld ?_
      refine wpAnyH_take (i := 7) (oi := _) (v := .pointer (some ⟨w.heap.size, 0, none⟩)) rfl (by kernel_rfl) (by kernel_rfl) (by kernel_rfl) (fun _ _ _ h => h) (Or.inl ⟨by rfl, fun W hSw => by go_simp⟩) hHeld ?_
      refine wpAnyH_take (i := 8) (oi := _) (v := .int .i64 F.d) rfl (by kernel_rfl) (by kernel_rfl) (by kernel_rfl) (fun _ _ _ h => h) (Or.inl ⟨by rfl, fun W hSw => by obtain ⟨q0, q1, q2, q3, q4, q5, q6, q7⟩ := hSw.eight; go_simp⟩) hHeld ?_
      refine wpAnyH_take (i := 9) (oi := _) (v := .int .i64 (F.d - 1)) rfl (by kernel_rfl) (by kernel_rfl) (by kernel_rfl) (fun _ _ _ h => h) (Or.inl ⟨by rfl, fun W hSw => by go_simp⟩) hHeld ?_
      refine wpAnyH_ready (rs := [4]) (by kernel_rfl) (by simp) ?_
      refine AllReadyH.cons (o := _) rfl (fun K hK => ?_) AllReadyH.nil
      go_simp
      refine (HMIN.out _).mono ?_
      rintro e w' ⟨rfl, rfl⟩
      refine hK.out _ _ (show Rw wr.drew _ _ _ from Q0.out) (fun hHeld => ?_)
      clear hK K
      refine wpAnyH_ready (rs := [5]) (by kernel_rfl) (by simp) ?_
      refine AllReadyH.cons (o := _) rfl (fun K hK => ?_) AllReadyH.nil
      go_simp
      refine (pick_any B g _ 4 wr.drew QS.out (by omega) (by omega) (by omega)).mono ?_
      rintro e w6 ⟨v6, rfl, ⟨z, rfl, hz0, hz1⟩, hS6, hg6⟩
      rw [P4.out] at hz1
      have hg6 := grown_drewL hg6
      have Q06 := Lib.hid (Q0.out.grown hg6 hgw)
      refine hK.out _ _ Q06.out (fun hHeld => ?_)
      clear hK K
      refine wpAnyH_ready (rs := [10]) (by kernel_rfl) (by simp) ?_
      refine AllReadyH.cons (o := _) rfl (fun K hK => ?_) AllReadyH.nil
      go_simp
      refine (HMAX.out _).mono ?_
      rintro e w' ⟨rfl, rfl⟩
      refine hK.out _ _ Q06.out (fun hHeld => ?_)
      clear hK K
      obtain ⟨bk, hbk, hbl⟩ : ∃ bk : Nat, z * q = (bk : Int) ∧ bk < nb := by
        have hcase : q = 1 ∨ q = 2 := by omega
        rcases hcase with h | h <;> subst h
        · exact ⟨z.toNat, by omega, by omega⟩
        · exact ⟨(z * 2).toNat, by omega, by omega⟩
      have hwb : IntKind.i64.wrap (bk : Int) = bk := IntWalk.i64_in _ (by omega)
      refine wpAnyH_ready (rs := [11]) (by kernel_rfl) (by simp) ?_
      refine AllReadyH.cons (o := _) rfl (fun K hK => ?_) AllReadyH.nil
      go_simp
      refine hK.out _ _ Q06.out (fun hHeld => ?_)
      clear hK K
      refine wpAnyH_ready (rs := [12]) (by kernel_rfl) (by simp) ?_
      refine AllReadyH.cons (o := _) rfl (fun K hK => ?_) AllReadyH.nil
      go_simp
      refine hK.out _ _ Q06.out (fun hHeld => ?_)
      clear hK K
      refine wpAnyH_done (by kernel_rfl) ?_ _
      clear hHeld hbk hz0 hz1 hwd hwb c0 c1 c2 c3 c4 c5 c6 c7 HMIN HMAX hq1 hq2
      have hR := QR.out
      have Q16 := Lib.hid (Q1.out.grown hg6 (by omega))
      have QO6 := Lib.hid (QO.out.same (same_above hg6 (by omega) hR.2.1))
      have QG6 := Lib.hid (grown_trans QG.out hg6)
      have QS6 := Lib.hid hS6
      have hsz6 := hg6.size
      clear Q0 Q1 QO QG QS hg6 hS6
      obtain ⟨d0, d1, d2, d3, d4, d5, d6, d7⟩ := Q06.out.eight
      obtain ⟨A1, n1, c1, ea, hn1, hn2, hn3, hbo⟩ := QO6.out
      injection ea with ea1 ea2 ea3
      subst ea1 ea2 ea3
      obtain ⟨g1, pv, rfl, hBO⟩ := hbo (by omega)
      obtain ⟨x0, x1, x2, x3⟩ := hBO.row bk (by omega)
      generalize hnx : (F.bs.getD bk Blk.zero).nx = nx at x1
      have hbki : (bk : Int) < (nb : Int) := by omega
      have hbkn : (bk : Int) ≤ 36 := by omega
      clear hbo hBO x0 x2 x3
      go_wp2_with fail
-- GEN
      have Q0 := Lib.hid (Q06.out.alloc (.cells #[.int .i64 0, .int .i64 0, .int .i64 0, .slice none 0 0, .int .i64 0, .int .i64 0, .bool false, .int .i64 0] 28))
      have Q1 := Lib.hid (Q16.out.alloc (.cells #[.int .i64 0, .int .i64 0, .int .i64 0, .slice none 0 0, .int .i64 0, .int .i64 0, .bool false, .int .i64 0] 28))
      have RX := Lib.hid (Rw.new w6 28 #[.int .i64 0, .int .i64 0, .int .i64 0, .slice none 0 0, .int .i64 0, .int .i64 0, .bool false, .int .i64 0])
      have ba := (Below.refl w6.heap.size w6).alloc (Nat.le_refl _) (.cells #[.int .i64 0, .int .i64 0, .int .i64 0, .slice none 0 0, .int .i64 0, .int .i64 0, .bool false, .int .i64 0] 28)
      have QO := Lib.hid (QO6.out.same (sm ba _ (by have := QR.out; omega)))
      have QG := Lib.hid (grown_below QG6.out (ba.mono QG6.out.size))
      have QS := Lib.hid (QS6.out.keep ba)
      have sza := ba.size
      simp only [World.size_alloc] at sza
      have hszw : w.heap.size + 2 ≤ w6.heap.size := by have := Q16.out.lt; omega
      clear ba Q06 Q16 QO6 QG6 QS6 d0 d1 d2 d3 d4 d5 d6 d7 x1 hnx
      refine (one_any B g _ 7 _ QS.out (by omega) (by omega) (by omega)).mono ?_
      rintro e w7 ⟨v7, rfl, ⟨bb, rfl⟩, hS7, hg7⟩
      have sz_a : w6.heap.size + 1 ≤ w7.heap.size := by have := hg7.size; simpa using this
      have Q0 := Lib.hid (Q0.out.grown hg7 (by omega))
      have Q1 := Lib.hid (Q1.out.grown hg7 (by omega))
      have RX := Lib.hid (RX.out.grown hg7 (by omega))
      have QO := Lib.hid (QO.out.same (same_above hg7 (by have := QR.out; omega) (by have := QR.out; simp; omega)))
      have QG := Lib.hid (grown_trans QG.out hg7)
      have QS := Lib.hid hS7
      clear hg7 hS7
      obtain ⟨d0, d1, d2, d3, d4, d5, d6, d7⟩ := Q0.out.eight
      cases bb
      case' true =>
        clear d0 d1 d2 d3 d4 d5 d6 d7
        obtain ⟨G, c, hG⟩ := eraEnds F (bk : Int)
        obtain ⟨d0, d1, d2, d3, d4, d5, d6, d7⟩ := Q0.out.eight
        go_wp2_with fail
        refine (specEra_any _ _ F G c w7 lo' hi' ⟨_, rfl, QO.out.reads⟩ (by have := QR.out; omega) hG QH.out.lens).mono ?_
        rintro e w9 ⟨u, rfl, ho, b9⟩
        clear d0 d1 d2 d3 d4 d5 d6 d7
        have sz_b9 := b9.size
        have Q0 := Lib.hid (Q0.out.below b9 Q0.out.lt)
        have Q1 := Lib.hid (Q1.out.below b9 Q1.out.lt)
        have RX := Lib.hid (RX.out.below b9 RX.out.lt)
        have QO := Lib.hid (QO.out.same (sm b9 _ (by have := QR.out; omega)))
        have QG := Lib.hid (grown_below QG.out (b9.mono QG.out.size))
        have QS := Lib.hid (QS.out.keep b9)
        clear b9
        obtain ⟨uo, rfl, hown⟩ := ho
        obtain ⟨ga, gn, gc, rfl⟩ := hown.slice
        unfold flc
        have HOWN := Lib.hid hown
        clear hown
        obtain ⟨a0, a1, a2, a3, a4, a5, a6, a7⟩ := RX.out.eight
        obtain ⟨f0, f1, f2, f3, f4, f5, f6, f7⟩ := RX.out.frees
        go_upto_region 12 with fail
        clear a0 a1 a2 a3 a4 a5 a6 a7 f0 f1 f2 f3 f4 f5 f6 f7
        have RX2 := Lib.hid (show Rw ((((((((w9.setCell ⟨w6.heap.size, 0, none⟩ (.int .i64 G.d)).setCell ⟨w6.heap.size, 1, none⟩ (.int .i64 G.b)).setCell ⟨w6.heap.size, 2, none⟩ (.int .i64 G.p)).setCell ⟨w6.heap.size, 3, none⟩ (.slice ga gn gc)).setCell ⟨w6.heap.size, 4, none⟩ (.int .i64 G.fu)).setCell ⟨w6.heap.size, 5, none⟩ (.int .i64 G.ke)).setCell ⟨w6.heap.size, 6, none⟩ (.bool G.off)).setCell ⟨w6.heap.size, 7, none⟩ (.int .i64 G.op)) w6.heap.size _ _ from RX.out.put8 (.int .i64 G.d) (.int .i64 G.b) (.int .i64 G.p) (.slice ga gn gc) (.int .i64 G.fu) (.int .i64 G.ke) (.bool G.off) (.int .i64 G.op))
        have Q02 := Lib.hid (show Rw ((((((((w9.setCell ⟨w6.heap.size, 0, none⟩ (.int .i64 G.d)).setCell ⟨w6.heap.size, 1, none⟩ (.int .i64 G.b)).setCell ⟨w6.heap.size, 2, none⟩ (.int .i64 G.p)).setCell ⟨w6.heap.size, 3, none⟩ (.slice ga gn gc)).setCell ⟨w6.heap.size, 4, none⟩ (.int .i64 G.fu)).setCell ⟨w6.heap.size, 5, none⟩ (.int .i64 G.ke)).setCell ⟨w6.heap.size, 6, none⟩ (.bool G.off)).setCell ⟨w6.heap.size, 7, none⟩ (.int .i64 G.op)) w.heap.size _ _ from ((((((((Q0.out).farA (by omega) _).farA (by omega) _).farA (by omega) _).farA (by omega) _).farA (by omega) _).farA (by omega) _).farA (by omega) _).farA (by omega) _)
        have Q12 := Lib.hid (show Rw ((((((((w9.setCell ⟨w6.heap.size, 0, none⟩ (.int .i64 G.d)).setCell ⟨w6.heap.size, 1, none⟩ (.int .i64 G.b)).setCell ⟨w6.heap.size, 2, none⟩ (.int .i64 G.p)).setCell ⟨w6.heap.size, 3, none⟩ (.slice ga gn gc)).setCell ⟨w6.heap.size, 4, none⟩ (.int .i64 G.fu)).setCell ⟨w6.heap.size, 5, none⟩ (.int .i64 G.ke)).setCell ⟨w6.heap.size, 6, none⟩ (.bool G.off)).setCell ⟨w6.heap.size, 7, none⟩ (.int .i64 G.op)) (w.heap.size + 1) _ _ from ((((((((Q1.out).farA (by omega) _).farA (by omega) _).farA (by omega) _).farA (by omega) _).farA (by omega) _).farA (by omega) _).farA (by omega) _).farA (by omega) _)
        have QO2 := Lib.hid (QO.out.same (w' := ((((((((w9.setCell ⟨w6.heap.size, 0, none⟩ (.int .i64 G.d)).setCell ⟨w6.heap.size, 1, none⟩ (.int .i64 G.b)).setCell ⟨w6.heap.size, 2, none⟩ (.int .i64 G.p)).setCell ⟨w6.heap.size, 3, none⟩ (.slice ga gn gc)).setCell ⟨w6.heap.size, 4, none⟩ (.int .i64 G.fu)).setCell ⟨w6.heap.size, 5, none⟩ (.int .i64 G.ke)).setCell ⟨w6.heap.size, 6, none⟩ (.bool G.off)).setCell ⟨w6.heap.size, 7, none⟩ (.int .i64 G.op))) (by (repeat refine sset ?_ (.inr (by have := QR.out; omega)) _); exact Same.refl _ _ _))
        have HOWN2 := Lib.hid (HOWN.out.same (w' := ((((((((w9.setCell ⟨w6.heap.size, 0, none⟩ (.int .i64 G.d)).setCell ⟨w6.heap.size, 1, none⟩ (.int .i64 G.b)).setCell ⟨w6.heap.size, 2, none⟩ (.int .i64 G.p)).setCell ⟨w6.heap.size, 3, none⟩ (.slice ga gn gc)).setCell ⟨w6.heap.size, 4, none⟩ (.int .i64 G.fu)).setCell ⟨w6.heap.size, 5, none⟩ (.int .i64 G.ke)).setCell ⟨w6.heap.size, 6, none⟩ (.bool G.off)).setCell ⟨w6.heap.size, 7, none⟩ (.int .i64 G.op))) (by (repeat refine sset ?_ (.inl (by omega)) _); exact Same.refl _ _ _))
        have QS2 := Lib.hid (QS.out.keepS (w' := ((((((((w9.setCell ⟨w6.heap.size, 0, none⟩ (.int .i64 G.d)).setCell ⟨w6.heap.size, 1, none⟩ (.int .i64 G.b)).setCell ⟨w6.heap.size, 2, none⟩ (.int .i64 G.p)).setCell ⟨w6.heap.size, 3, none⟩ (.slice ga gn gc)).setCell ⟨w6.heap.size, 4, none⟩ (.int .i64 G.fu)).setCell ⟨w6.heap.size, 5, none⟩ (.int .i64 G.ke)).setCell ⟨w6.heap.size, 6, none⟩ (.bool G.off)).setCell ⟨w6.heap.size, 7, none⟩ (.int .i64 G.op))) (by (repeat refine sset ?_ (.inr (by omega)) _); exact Same.refl _ _ _) (by simp))
        have QG2 : Hid (w.grownBy ((((((((w9.setCell ⟨w6.heap.size, 0, none⟩ (.int .i64 G.d)).setCell ⟨w6.heap.size, 1, none⟩ (.int .i64 G.b)).setCell ⟨w6.heap.size, 2, none⟩ (.int .i64 G.p)).setCell ⟨w6.heap.size, 3, none⟩ (.slice ga gn gc)).setCell ⟨w6.heap.size, 4, none⟩ (.int .i64 G.fu)).setCell ⟨w6.heap.size, 5, none⟩ (.int .i64 G.ke)).setCell ⟨w6.heap.size, 6, none⟩ (.bool G.off)).setCell ⟨w6.heap.size, 7, none⟩ (.int .i64 G.op)) (some g)) := Lib.hid (by
          repeat refine grown_out ?_ (by omega) _
          exact QG.out)
        have szW : ((((((((w9.setCell ⟨w6.heap.size, 0, none⟩ (.int .i64 G.d)).setCell ⟨w6.heap.size, 1, none⟩ (.int .i64 G.b)).setCell ⟨w6.heap.size, 2, none⟩ (.int .i64 G.p)).setCell ⟨w6.heap.size, 3, none⟩ (.slice ga gn gc)).setCell ⟨w6.heap.size, 4, none⟩ (.int .i64 G.fu)).setCell ⟨w6.heap.size, 5, none⟩ (.int .i64 G.ke)).setCell ⟨w6.heap.size, 6, none⟩ (.bool G.off)).setCell ⟨w6.heap.size, 7, none⟩ (.int .i64 G.op)).heap.size = w9.heap.size := by simp
        obtain ⟨w10, hw10⟩ : ∃ x, x = ((((((((w9.setCell ⟨w6.heap.size, 0, none⟩ (.int .i64 G.d)).setCell ⟨w6.heap.size, 1, none⟩ (.int .i64 G.b)).setCell ⟨w6.heap.size, 2, none⟩ (.int .i64 G.p)).setCell ⟨w6.heap.size, 3, none⟩ (.slice ga gn gc)).setCell ⟨w6.heap.size, 4, none⟩ (.int .i64 G.fu)).setCell ⟨w6.heap.size, 5, none⟩ (.int .i64 G.ke)).setCell ⟨w6.heap.size, 6, none⟩ (.bool G.off)).setCell ⟨w6.heap.size, 7, none⟩ (.int .i64 G.op)) := ⟨_, rfl⟩
        rw [← hw10] at RX2 Q02 Q12 QO2 HOWN2 QS2 QG2 szW ⊢
        clear hw10 RX Q0 Q1 QO HOWN QS QG
        by_cases hc : c = 0 ∨ c = 8
        · have HSH := Lib.hid (QH.out.erase (by omega) hG hc)
          obtain ⟨n0, n1, n2, n3, n4, n5, n6, n7⟩ := RX2.out.eight
          obtain ⟨m0, m1, m2, m3, m4, m5, m6, m7⟩ := Q02.out.eight
          obtain ⟨fm0, fm1, fm2, fm3, fm4, fm5, fm6, fm7⟩ := Q02.out.frees
          clear hG
          rcases hc with rfl | rfl
          · go_wp2
            go_roundw
            case rel =>
              have own2 := HOWN2.out.same (w' := ((((((((w10.setCell ⟨w.heap.size, 0, none⟩ (.int .i64 G.d)).setCell ⟨w.heap.size, 1, none⟩ (.int .i64 G.b)).setCell ⟨w.heap.size, 2, none⟩ (.int .i64 G.p)).setCell ⟨w.heap.size, 3, none⟩ (.slice ga gn gc)).setCell ⟨w.heap.size, 4, none⟩ (.int .i64 G.fu)).setCell ⟨w.heap.size, 5, none⟩ (.int .i64 G.ke)).setCell ⟨w.heap.size, 6, none⟩ (.bool G.off)).setCell ⟨w.heap.size, 7, none⟩ (.int .i64 G.op))) (by (repeat refine sset ?_ (.inl (by omega)) _); exact Same.refl _ _ _)
              have one2 : Rw ((((((((w10.setCell ⟨w.heap.size, 0, none⟩ (.int .i64 G.d)).setCell ⟨w.heap.size, 1, none⟩ (.int .i64 G.b)).setCell ⟨w.heap.size, 2, none⟩ (.int .i64 G.p)).setCell ⟨w.heap.size, 3, none⟩ (.slice ga gn gc)).setCell ⟨w.heap.size, 4, none⟩ (.int .i64 G.fu)).setCell ⟨w.heap.size, 5, none⟩ (.int .i64 G.ke)).setCell ⟨w.heap.size, 6, none⟩ (.bool G.off)).setCell ⟨w.heap.size, 7, none⟩ (.int .i64 G.op)) (w.heap.size + 1) _ _ := ((((((((Q12.out).farA (g' := w.heap.size) (by omega) _).farA (g' := w.heap.size) (by omega) _).farA (g' := w.heap.size) (by omega) _).farA (g' := w.heap.size) (by omega) _).farA (g' := w.heap.size) (by omega) _).farA (g' := w.heap.size) (by omega) _).farA (g' := w.heap.size) (by omega) _).farA (g' := w.heap.size) (by omega) _
              have src2 := QS2.out.keepS (w' := ((((((((w10.setCell ⟨w.heap.size, 0, none⟩ (.int .i64 G.d)).setCell ⟨w.heap.size, 1, none⟩ (.int .i64 G.b)).setCell ⟨w.heap.size, 2, none⟩ (.int .i64 G.p)).setCell ⟨w.heap.size, 3, none⟩ (.slice ga gn gc)).setCell ⟨w.heap.size, 4, none⟩ (.int .i64 G.fu)).setCell ⟨w.heap.size, 5, none⟩ (.int .i64 G.ke)).setCell ⟨w.heap.size, 6, none⟩ (.bool G.off)).setCell ⟨w.heap.size, 7, none⟩ (.int .i64 G.op))) (by (repeat refine sset ?_ (.inr (by omega)) _); exact Same.refl _ _ _) (by simp)
              have gr2 : w.grownBy ((((((((w10.setCell ⟨w.heap.size, 0, none⟩ (.int .i64 G.d)).setCell ⟨w.heap.size, 1, none⟩ (.int .i64 G.b)).setCell ⟨w.heap.size, 2, none⟩ (.int .i64 G.p)).setCell ⟨w.heap.size, 3, none⟩ (.slice ga gn gc)).setCell ⟨w.heap.size, 4, none⟩ (.int .i64 G.fu)).setCell ⟨w.heap.size, 5, none⟩ (.int .i64 G.ke)).setCell ⟨w.heap.size, 6, none⟩ (.bool G.off)).setCell ⟨w.heap.size, 7, none⟩ (.int .i64 G.op)) (some g) := by
                repeat refine grown_out ?_ (by omega) _
                exact QG2.out
              exact ⟨k - 1, G, _, _, _, _, _, by omega, by go_num, Lib.hid (Q02.out.put8 _ _ _ _ _ _ _ _), Lib.hid one2, Lib.hid own2, Lib.hid (by have := QR.out; simp; omega), Lib.hid (HSH.out.more (by omega)), Lib.hid (src2.more (by omega)), Lib.hid gr2⟩
            case measure => simp [intOf]; omega
          · go_wp2
            go_roundw
            case rel =>
              have own2 := HOWN2.out.same (w' := ((((((((w10.setCell ⟨w.heap.size, 0, none⟩ (.int .i64 G.d)).setCell ⟨w.heap.size, 1, none⟩ (.int .i64 G.b)).setCell ⟨w.heap.size, 2, none⟩ (.int .i64 G.p)).setCell ⟨w.heap.size, 3, none⟩ (.slice ga gn gc)).setCell ⟨w.heap.size, 4, none⟩ (.int .i64 G.fu)).setCell ⟨w.heap.size, 5, none⟩ (.int .i64 G.ke)).setCell ⟨w.heap.size, 6, none⟩ (.bool G.off)).setCell ⟨w.heap.size, 7, none⟩ (.int .i64 G.op))) (by (repeat refine sset ?_ (.inl (by omega)) _); exact Same.refl _ _ _)
              have one2 : Rw ((((((((w10.setCell ⟨w.heap.size, 0, none⟩ (.int .i64 G.d)).setCell ⟨w.heap.size, 1, none⟩ (.int .i64 G.b)).setCell ⟨w.heap.size, 2, none⟩ (.int .i64 G.p)).setCell ⟨w.heap.size, 3, none⟩ (.slice ga gn gc)).setCell ⟨w.heap.size, 4, none⟩ (.int .i64 G.fu)).setCell ⟨w.heap.size, 5, none⟩ (.int .i64 G.ke)).setCell ⟨w.heap.size, 6, none⟩ (.bool G.off)).setCell ⟨w.heap.size, 7, none⟩ (.int .i64 G.op)) (w.heap.size + 1) _ _ := ((((((((Q12.out).farA (g' := w.heap.size) (by omega) _).farA (g' := w.heap.size) (by omega) _).farA (g' := w.heap.size) (by omega) _).farA (g' := w.heap.size) (by omega) _).farA (g' := w.heap.size) (by omega) _).farA (g' := w.heap.size) (by omega) _).farA (g' := w.heap.size) (by omega) _).farA (g' := w.heap.size) (by omega) _
              have src2 := QS2.out.keepS (w' := ((((((((w10.setCell ⟨w.heap.size, 0, none⟩ (.int .i64 G.d)).setCell ⟨w.heap.size, 1, none⟩ (.int .i64 G.b)).setCell ⟨w.heap.size, 2, none⟩ (.int .i64 G.p)).setCell ⟨w.heap.size, 3, none⟩ (.slice ga gn gc)).setCell ⟨w.heap.size, 4, none⟩ (.int .i64 G.fu)).setCell ⟨w.heap.size, 5, none⟩ (.int .i64 G.ke)).setCell ⟨w.heap.size, 6, none⟩ (.bool G.off)).setCell ⟨w.heap.size, 7, none⟩ (.int .i64 G.op))) (by (repeat refine sset ?_ (.inr (by omega)) _); exact Same.refl _ _ _) (by simp)
              have gr2 : w.grownBy ((((((((w10.setCell ⟨w.heap.size, 0, none⟩ (.int .i64 G.d)).setCell ⟨w.heap.size, 1, none⟩ (.int .i64 G.b)).setCell ⟨w.heap.size, 2, none⟩ (.int .i64 G.p)).setCell ⟨w.heap.size, 3, none⟩ (.slice ga gn gc)).setCell ⟨w.heap.size, 4, none⟩ (.int .i64 G.fu)).setCell ⟨w.heap.size, 5, none⟩ (.int .i64 G.ke)).setCell ⟨w.heap.size, 6, none⟩ (.bool G.off)).setCell ⟨w.heap.size, 7, none⟩ (.int .i64 G.op)) (some g) := by
                repeat refine grown_out ?_ (by omega) _
                exact QG2.out
              exact ⟨k - 1, G, _, _, _, _, _, by omega, by go_num, Lib.hid (Q02.out.put8 _ _ _ _ _ _ _ _), Lib.hid one2, Lib.hid own2, Lib.hid (by have := QR.out; simp; omega), Lib.hid (HSH.out.more (by omega)), Lib.hid (src2.more (by omega)), Lib.hid gr2⟩
            case measure => simp [intOf]; omega
        · have hc0 : (c == 0) = false := by simp; omega
          have hc8 : (c == 8) = false := by simp; omega
          clear hG
          go_wp2
          go_roundw
          case rel => exact ⟨k - 1, F, _, _, _, _, _, by omega, by go_num, Q02, Q12, QO2, Lib.hid (by have := QR.out; omega), Lib.hid (QH.out.more (by omega)), Lib.hid (QS2.out.more (by omega)), QG2⟩
          case measure => simp [intOf]; omega
      case' false =>
        by_cases hge : F.p ≤ nx
        · have hgeb : decide (nx ≥ F.p) = true := by simp; omega
          clear d0 d1 d3 d4 d5 d6 d7
          obtain ⟨G, c, hG⟩ := eraEnds F (bk : Int)
          obtain ⟨d0, d1, d2, d3, d4, d5, d6, d7⟩ := Q0.out.eight
          go_wp2_with fail
          refine (specEra_any _ _ F G c w7 lo' hi' ⟨_, rfl, QO.out.reads⟩ (by have := QR.out; omega) hG QH.out.lens).mono ?_
          rintro e w9 ⟨u, rfl, ho, b9⟩
          clear d0 d1 d2 d3 d4 d5 d6 d7
          have sz_b9 := b9.size
          have Q0 := Lib.hid (Q0.out.below b9 Q0.out.lt)
          have Q1 := Lib.hid (Q1.out.below b9 Q1.out.lt)
          have RX := Lib.hid (RX.out.below b9 RX.out.lt)
          have QO := Lib.hid (QO.out.same (sm b9 _ (by have := QR.out; omega)))
          have QG := Lib.hid (grown_below QG.out (b9.mono QG.out.size))
          have QS := Lib.hid (QS.out.keep b9)
          clear b9
          obtain ⟨uo, rfl, hown⟩ := ho
          obtain ⟨ga, gn, gc, rfl⟩ := hown.slice
          unfold flc
          have HOWN := Lib.hid hown
          clear hown
          obtain ⟨a0, a1, a2, a3, a4, a5, a6, a7⟩ := RX.out.eight
          obtain ⟨f0, f1, f2, f3, f4, f5, f6, f7⟩ := RX.out.frees
          go_upto_region 12 with fail
          clear a0 a1 a2 a3 a4 a5 a6 a7 f0 f1 f2 f3 f4 f5 f6 f7
          have RX2 := Lib.hid (show Rw ((((((((w9.setCell ⟨w6.heap.size, 0, none⟩ (.int .i64 G.d)).setCell ⟨w6.heap.size, 1, none⟩ (.int .i64 G.b)).setCell ⟨w6.heap.size, 2, none⟩ (.int .i64 G.p)).setCell ⟨w6.heap.size, 3, none⟩ (.slice ga gn gc)).setCell ⟨w6.heap.size, 4, none⟩ (.int .i64 G.fu)).setCell ⟨w6.heap.size, 5, none⟩ (.int .i64 G.ke)).setCell ⟨w6.heap.size, 6, none⟩ (.bool G.off)).setCell ⟨w6.heap.size, 7, none⟩ (.int .i64 G.op)) w6.heap.size _ _ from RX.out.put8 (.int .i64 G.d) (.int .i64 G.b) (.int .i64 G.p) (.slice ga gn gc) (.int .i64 G.fu) (.int .i64 G.ke) (.bool G.off) (.int .i64 G.op))
          have Q02 := Lib.hid (show Rw ((((((((w9.setCell ⟨w6.heap.size, 0, none⟩ (.int .i64 G.d)).setCell ⟨w6.heap.size, 1, none⟩ (.int .i64 G.b)).setCell ⟨w6.heap.size, 2, none⟩ (.int .i64 G.p)).setCell ⟨w6.heap.size, 3, none⟩ (.slice ga gn gc)).setCell ⟨w6.heap.size, 4, none⟩ (.int .i64 G.fu)).setCell ⟨w6.heap.size, 5, none⟩ (.int .i64 G.ke)).setCell ⟨w6.heap.size, 6, none⟩ (.bool G.off)).setCell ⟨w6.heap.size, 7, none⟩ (.int .i64 G.op)) w.heap.size _ _ from ((((((((Q0.out).farA (by omega) _).farA (by omega) _).farA (by omega) _).farA (by omega) _).farA (by omega) _).farA (by omega) _).farA (by omega) _).farA (by omega) _)
          have Q12 := Lib.hid (show Rw ((((((((w9.setCell ⟨w6.heap.size, 0, none⟩ (.int .i64 G.d)).setCell ⟨w6.heap.size, 1, none⟩ (.int .i64 G.b)).setCell ⟨w6.heap.size, 2, none⟩ (.int .i64 G.p)).setCell ⟨w6.heap.size, 3, none⟩ (.slice ga gn gc)).setCell ⟨w6.heap.size, 4, none⟩ (.int .i64 G.fu)).setCell ⟨w6.heap.size, 5, none⟩ (.int .i64 G.ke)).setCell ⟨w6.heap.size, 6, none⟩ (.bool G.off)).setCell ⟨w6.heap.size, 7, none⟩ (.int .i64 G.op)) (w.heap.size + 1) _ _ from ((((((((Q1.out).farA (by omega) _).farA (by omega) _).farA (by omega) _).farA (by omega) _).farA (by omega) _).farA (by omega) _).farA (by omega) _).farA (by omega) _)
          have QO2 := Lib.hid (QO.out.same (w' := ((((((((w9.setCell ⟨w6.heap.size, 0, none⟩ (.int .i64 G.d)).setCell ⟨w6.heap.size, 1, none⟩ (.int .i64 G.b)).setCell ⟨w6.heap.size, 2, none⟩ (.int .i64 G.p)).setCell ⟨w6.heap.size, 3, none⟩ (.slice ga gn gc)).setCell ⟨w6.heap.size, 4, none⟩ (.int .i64 G.fu)).setCell ⟨w6.heap.size, 5, none⟩ (.int .i64 G.ke)).setCell ⟨w6.heap.size, 6, none⟩ (.bool G.off)).setCell ⟨w6.heap.size, 7, none⟩ (.int .i64 G.op))) (by (repeat refine sset ?_ (.inr (by have := QR.out; omega)) _); exact Same.refl _ _ _))
          have HOWN2 := Lib.hid (HOWN.out.same (w' := ((((((((w9.setCell ⟨w6.heap.size, 0, none⟩ (.int .i64 G.d)).setCell ⟨w6.heap.size, 1, none⟩ (.int .i64 G.b)).setCell ⟨w6.heap.size, 2, none⟩ (.int .i64 G.p)).setCell ⟨w6.heap.size, 3, none⟩ (.slice ga gn gc)).setCell ⟨w6.heap.size, 4, none⟩ (.int .i64 G.fu)).setCell ⟨w6.heap.size, 5, none⟩ (.int .i64 G.ke)).setCell ⟨w6.heap.size, 6, none⟩ (.bool G.off)).setCell ⟨w6.heap.size, 7, none⟩ (.int .i64 G.op))) (by (repeat refine sset ?_ (.inl (by omega)) _); exact Same.refl _ _ _))
          have QS2 := Lib.hid (QS.out.keepS (w' := ((((((((w9.setCell ⟨w6.heap.size, 0, none⟩ (.int .i64 G.d)).setCell ⟨w6.heap.size, 1, none⟩ (.int .i64 G.b)).setCell ⟨w6.heap.size, 2, none⟩ (.int .i64 G.p)).setCell ⟨w6.heap.size, 3, none⟩ (.slice ga gn gc)).setCell ⟨w6.heap.size, 4, none⟩ (.int .i64 G.fu)).setCell ⟨w6.heap.size, 5, none⟩ (.int .i64 G.ke)).setCell ⟨w6.heap.size, 6, none⟩ (.bool G.off)).setCell ⟨w6.heap.size, 7, none⟩ (.int .i64 G.op))) (by (repeat refine sset ?_ (.inr (by omega)) _); exact Same.refl _ _ _) (by simp))
          have QG2 : Hid (w.grownBy ((((((((w9.setCell ⟨w6.heap.size, 0, none⟩ (.int .i64 G.d)).setCell ⟨w6.heap.size, 1, none⟩ (.int .i64 G.b)).setCell ⟨w6.heap.size, 2, none⟩ (.int .i64 G.p)).setCell ⟨w6.heap.size, 3, none⟩ (.slice ga gn gc)).setCell ⟨w6.heap.size, 4, none⟩ (.int .i64 G.fu)).setCell ⟨w6.heap.size, 5, none⟩ (.int .i64 G.ke)).setCell ⟨w6.heap.size, 6, none⟩ (.bool G.off)).setCell ⟨w6.heap.size, 7, none⟩ (.int .i64 G.op)) (some g)) := Lib.hid (by
            repeat refine grown_out ?_ (by omega) _
            exact QG.out)
          have szW : ((((((((w9.setCell ⟨w6.heap.size, 0, none⟩ (.int .i64 G.d)).setCell ⟨w6.heap.size, 1, none⟩ (.int .i64 G.b)).setCell ⟨w6.heap.size, 2, none⟩ (.int .i64 G.p)).setCell ⟨w6.heap.size, 3, none⟩ (.slice ga gn gc)).setCell ⟨w6.heap.size, 4, none⟩ (.int .i64 G.fu)).setCell ⟨w6.heap.size, 5, none⟩ (.int .i64 G.ke)).setCell ⟨w6.heap.size, 6, none⟩ (.bool G.off)).setCell ⟨w6.heap.size, 7, none⟩ (.int .i64 G.op)).heap.size = w9.heap.size := by simp
          obtain ⟨w10, hw10⟩ : ∃ x, x = ((((((((w9.setCell ⟨w6.heap.size, 0, none⟩ (.int .i64 G.d)).setCell ⟨w6.heap.size, 1, none⟩ (.int .i64 G.b)).setCell ⟨w6.heap.size, 2, none⟩ (.int .i64 G.p)).setCell ⟨w6.heap.size, 3, none⟩ (.slice ga gn gc)).setCell ⟨w6.heap.size, 4, none⟩ (.int .i64 G.fu)).setCell ⟨w6.heap.size, 5, none⟩ (.int .i64 G.ke)).setCell ⟨w6.heap.size, 6, none⟩ (.bool G.off)).setCell ⟨w6.heap.size, 7, none⟩ (.int .i64 G.op)) := ⟨_, rfl⟩
          rw [← hw10] at RX2 Q02 Q12 QO2 HOWN2 QS2 QG2 szW ⊢
          clear hw10 RX Q0 Q1 QO HOWN QS QG
          by_cases hc : c = 0 ∨ c = 8
          · have HSH := Lib.hid (QH.out.erase (by omega) hG hc)
            obtain ⟨n0, n1, n2, n3, n4, n5, n6, n7⟩ := RX2.out.eight
            obtain ⟨m0, m1, m2, m3, m4, m5, m6, m7⟩ := Q02.out.eight
            obtain ⟨fm0, fm1, fm2, fm3, fm4, fm5, fm6, fm7⟩ := Q02.out.frees
            clear hG
            rcases hc with rfl | rfl
            · go_wp2
              go_roundw
              case rel =>
                have own2 := HOWN2.out.same (w' := ((((((((w10.setCell ⟨w.heap.size, 0, none⟩ (.int .i64 G.d)).setCell ⟨w.heap.size, 1, none⟩ (.int .i64 G.b)).setCell ⟨w.heap.size, 2, none⟩ (.int .i64 G.p)).setCell ⟨w.heap.size, 3, none⟩ (.slice ga gn gc)).setCell ⟨w.heap.size, 4, none⟩ (.int .i64 G.fu)).setCell ⟨w.heap.size, 5, none⟩ (.int .i64 G.ke)).setCell ⟨w.heap.size, 6, none⟩ (.bool G.off)).setCell ⟨w.heap.size, 7, none⟩ (.int .i64 G.op))) (by (repeat refine sset ?_ (.inl (by omega)) _); exact Same.refl _ _ _)
                have one2 : Rw ((((((((w10.setCell ⟨w.heap.size, 0, none⟩ (.int .i64 G.d)).setCell ⟨w.heap.size, 1, none⟩ (.int .i64 G.b)).setCell ⟨w.heap.size, 2, none⟩ (.int .i64 G.p)).setCell ⟨w.heap.size, 3, none⟩ (.slice ga gn gc)).setCell ⟨w.heap.size, 4, none⟩ (.int .i64 G.fu)).setCell ⟨w.heap.size, 5, none⟩ (.int .i64 G.ke)).setCell ⟨w.heap.size, 6, none⟩ (.bool G.off)).setCell ⟨w.heap.size, 7, none⟩ (.int .i64 G.op)) (w.heap.size + 1) _ _ := ((((((((Q12.out).farA (g' := w.heap.size) (by omega) _).farA (g' := w.heap.size) (by omega) _).farA (g' := w.heap.size) (by omega) _).farA (g' := w.heap.size) (by omega) _).farA (g' := w.heap.size) (by omega) _).farA (g' := w.heap.size) (by omega) _).farA (g' := w.heap.size) (by omega) _).farA (g' := w.heap.size) (by omega) _
                have src2 := QS2.out.keepS (w' := ((((((((w10.setCell ⟨w.heap.size, 0, none⟩ (.int .i64 G.d)).setCell ⟨w.heap.size, 1, none⟩ (.int .i64 G.b)).setCell ⟨w.heap.size, 2, none⟩ (.int .i64 G.p)).setCell ⟨w.heap.size, 3, none⟩ (.slice ga gn gc)).setCell ⟨w.heap.size, 4, none⟩ (.int .i64 G.fu)).setCell ⟨w.heap.size, 5, none⟩ (.int .i64 G.ke)).setCell ⟨w.heap.size, 6, none⟩ (.bool G.off)).setCell ⟨w.heap.size, 7, none⟩ (.int .i64 G.op))) (by (repeat refine sset ?_ (.inr (by omega)) _); exact Same.refl _ _ _) (by simp)
                have gr2 : w.grownBy ((((((((w10.setCell ⟨w.heap.size, 0, none⟩ (.int .i64 G.d)).setCell ⟨w.heap.size, 1, none⟩ (.int .i64 G.b)).setCell ⟨w.heap.size, 2, none⟩ (.int .i64 G.p)).setCell ⟨w.heap.size, 3, none⟩ (.slice ga gn gc)).setCell ⟨w.heap.size, 4, none⟩ (.int .i64 G.fu)).setCell ⟨w.heap.size, 5, none⟩ (.int .i64 G.ke)).setCell ⟨w.heap.size, 6, none⟩ (.bool G.off)).setCell ⟨w.heap.size, 7, none⟩ (.int .i64 G.op)) (some g) := by
                  repeat refine grown_out ?_ (by omega) _
                  exact QG2.out
                exact ⟨k - 1, G, _, _, _, _, _, by omega, by go_num, Lib.hid (Q02.out.put8 _ _ _ _ _ _ _ _), Lib.hid one2, Lib.hid own2, Lib.hid (by have := QR.out; simp; omega), Lib.hid (HSH.out.more (by omega)), Lib.hid (src2.more (by omega)), Lib.hid gr2⟩
              case measure => simp [intOf]; omega
            · go_wp2
              go_roundw
              case rel =>
                have own2 := HOWN2.out.same (w' := ((((((((w10.setCell ⟨w.heap.size, 0, none⟩ (.int .i64 G.d)).setCell ⟨w.heap.size, 1, none⟩ (.int .i64 G.b)).setCell ⟨w.heap.size, 2, none⟩ (.int .i64 G.p)).setCell ⟨w.heap.size, 3, none⟩ (.slice ga gn gc)).setCell ⟨w.heap.size, 4, none⟩ (.int .i64 G.fu)).setCell ⟨w.heap.size, 5, none⟩ (.int .i64 G.ke)).setCell ⟨w.heap.size, 6, none⟩ (.bool G.off)).setCell ⟨w.heap.size, 7, none⟩ (.int .i64 G.op))) (by (repeat refine sset ?_ (.inl (by omega)) _); exact Same.refl _ _ _)
                have one2 : Rw ((((((((w10.setCell ⟨w.heap.size, 0, none⟩ (.int .i64 G.d)).setCell ⟨w.heap.size, 1, none⟩ (.int .i64 G.b)).setCell ⟨w.heap.size, 2, none⟩ (.int .i64 G.p)).setCell ⟨w.heap.size, 3, none⟩ (.slice ga gn gc)).setCell ⟨w.heap.size, 4, none⟩ (.int .i64 G.fu)).setCell ⟨w.heap.size, 5, none⟩ (.int .i64 G.ke)).setCell ⟨w.heap.size, 6, none⟩ (.bool G.off)).setCell ⟨w.heap.size, 7, none⟩ (.int .i64 G.op)) (w.heap.size + 1) _ _ := ((((((((Q12.out).farA (g' := w.heap.size) (by omega) _).farA (g' := w.heap.size) (by omega) _).farA (g' := w.heap.size) (by omega) _).farA (g' := w.heap.size) (by omega) _).farA (g' := w.heap.size) (by omega) _).farA (g' := w.heap.size) (by omega) _).farA (g' := w.heap.size) (by omega) _).farA (g' := w.heap.size) (by omega) _
                have src2 := QS2.out.keepS (w' := ((((((((w10.setCell ⟨w.heap.size, 0, none⟩ (.int .i64 G.d)).setCell ⟨w.heap.size, 1, none⟩ (.int .i64 G.b)).setCell ⟨w.heap.size, 2, none⟩ (.int .i64 G.p)).setCell ⟨w.heap.size, 3, none⟩ (.slice ga gn gc)).setCell ⟨w.heap.size, 4, none⟩ (.int .i64 G.fu)).setCell ⟨w.heap.size, 5, none⟩ (.int .i64 G.ke)).setCell ⟨w.heap.size, 6, none⟩ (.bool G.off)).setCell ⟨w.heap.size, 7, none⟩ (.int .i64 G.op))) (by (repeat refine sset ?_ (.inr (by omega)) _); exact Same.refl _ _ _) (by simp)
                have gr2 : w.grownBy ((((((((w10.setCell ⟨w.heap.size, 0, none⟩ (.int .i64 G.d)).setCell ⟨w.heap.size, 1, none⟩ (.int .i64 G.b)).setCell ⟨w.heap.size, 2, none⟩ (.int .i64 G.p)).setCell ⟨w.heap.size, 3, none⟩ (.slice ga gn gc)).setCell ⟨w.heap.size, 4, none⟩ (.int .i64 G.fu)).setCell ⟨w.heap.size, 5, none⟩ (.int .i64 G.ke)).setCell ⟨w.heap.size, 6, none⟩ (.bool G.off)).setCell ⟨w.heap.size, 7, none⟩ (.int .i64 G.op)) (some g) := by
                  repeat refine grown_out ?_ (by omega) _
                  exact QG2.out
                exact ⟨k - 1, G, _, _, _, _, _, by omega, by go_num, Lib.hid (Q02.out.put8 _ _ _ _ _ _ _ _), Lib.hid one2, Lib.hid own2, Lib.hid (by have := QR.out; simp; omega), Lib.hid (HSH.out.more (by omega)), Lib.hid (src2.more (by omega)), Lib.hid gr2⟩
              case measure => simp [intOf]; omega
          · have hc0 : (c == 0) = false := by simp; omega
            have hc8 : (c == 8) = false := by simp; omega
            clear hG
            go_wp2
            go_roundw
            case rel => exact ⟨k - 1, F, _, _, _, _, _, by omega, by go_num, Q02, Q12, QO2, Lib.hid (by have := QR.out; omega), Lib.hid (QH.out.more (by omega)), Lib.hid (QS2.out.more (by omega)), QG2⟩
            case measure => simp [intOf]; omega
        · have hgeb : decide (nx ≥ F.p) = false := by simp; omega
          go_wp2_with fail
          refine (l05Raw_any B g _ w7 QS.out (by omega)).mono ?_
          rintro e w8 ⟨v8, rfl, ⟨s, pg, rfl, hs, _, _⟩, hS8, hg8⟩
          clear d0 d1 d2 d3 d4 d5 d6 d7
          have sz_hg8 := hg8.size
          have Q0 := Lib.hid (Q0.out.grown hg8 (by omega))
          have Q1 := Lib.hid (Q1.out.grown hg8 (by omega))
          have RX := Lib.hid (RX.out.grown hg8 (by omega))
          have QO := Lib.hid (QO.out.same (same_above hg8 (by have := QR.out; omega) (by have := QR.out; omega)))
          have QG := Lib.hid (grown_trans QG.out hg8)
          have QS := Lib.hid hS8
          clear hg8 hS8
          by_cases h91 : s.size = 91
          · have h9 : ((s.size : Int) == 91) = true := by rw [h91]; rfl
            obtain ⟨G, c, hG⟩ := progEnds F (bk : Int) nx s
            obtain ⟨d0, d1, d2, d3, d4, d5, d6, d7⟩ := Q0.out.eight
            go_wp2_with fail
            refine (specProg_any _ _ _ _ F G c w8 lo' hi' ⟨_, rfl, QO.out.reads⟩ (by have := QR.out; omega) hG QH.out.lens (by omega)).mono ?_
            rintro e w9 ⟨u, rfl, ho, b9⟩
            clear d0 d1 d2 d3 d4 d5 d6 d7
            have sz_b9 := b9.size
            have Q0 := Lib.hid (Q0.out.below b9 Q0.out.lt)
            have Q1 := Lib.hid (Q1.out.below b9 Q1.out.lt)
            have RX := Lib.hid (RX.out.below b9 RX.out.lt)
            have QO := Lib.hid (QO.out.same (sm b9 _ (by have := QR.out; omega)))
            have QG := Lib.hid (grown_below QG.out (b9.mono QG.out.size))
            have QS := Lib.hid (QS.out.keep b9)
            clear b9
            obtain ⟨uo, rfl, hown⟩ := ho
            obtain ⟨ga, gn, gc, rfl⟩ := hown.slice
            unfold flc
            have HOWN := Lib.hid hown
            clear hown
            obtain ⟨a0, a1, a2, a3, a4, a5, a6, a7⟩ := RX.out.eight
            obtain ⟨f0, f1, f2, f3, f4, f5, f6, f7⟩ := RX.out.frees
            go_upto_region 12 with fail
            clear a0 a1 a2 a3 a4 a5 a6 a7 f0 f1 f2 f3 f4 f5 f6 f7
            have RX2 := Lib.hid (show Rw ((((((((w9.setCell ⟨w6.heap.size, 0, none⟩ (.int .i64 G.d)).setCell ⟨w6.heap.size, 1, none⟩ (.int .i64 G.b)).setCell ⟨w6.heap.size, 2, none⟩ (.int .i64 G.p)).setCell ⟨w6.heap.size, 3, none⟩ (.slice ga gn gc)).setCell ⟨w6.heap.size, 4, none⟩ (.int .i64 G.fu)).setCell ⟨w6.heap.size, 5, none⟩ (.int .i64 G.ke)).setCell ⟨w6.heap.size, 6, none⟩ (.bool G.off)).setCell ⟨w6.heap.size, 7, none⟩ (.int .i64 G.op)) w6.heap.size _ _ from RX.out.put8 (.int .i64 G.d) (.int .i64 G.b) (.int .i64 G.p) (.slice ga gn gc) (.int .i64 G.fu) (.int .i64 G.ke) (.bool G.off) (.int .i64 G.op))
            have Q02 := Lib.hid (show Rw ((((((((w9.setCell ⟨w6.heap.size, 0, none⟩ (.int .i64 G.d)).setCell ⟨w6.heap.size, 1, none⟩ (.int .i64 G.b)).setCell ⟨w6.heap.size, 2, none⟩ (.int .i64 G.p)).setCell ⟨w6.heap.size, 3, none⟩ (.slice ga gn gc)).setCell ⟨w6.heap.size, 4, none⟩ (.int .i64 G.fu)).setCell ⟨w6.heap.size, 5, none⟩ (.int .i64 G.ke)).setCell ⟨w6.heap.size, 6, none⟩ (.bool G.off)).setCell ⟨w6.heap.size, 7, none⟩ (.int .i64 G.op)) w.heap.size _ _ from ((((((((Q0.out).farA (by omega) _).farA (by omega) _).farA (by omega) _).farA (by omega) _).farA (by omega) _).farA (by omega) _).farA (by omega) _).farA (by omega) _)
            have Q12 := Lib.hid (show Rw ((((((((w9.setCell ⟨w6.heap.size, 0, none⟩ (.int .i64 G.d)).setCell ⟨w6.heap.size, 1, none⟩ (.int .i64 G.b)).setCell ⟨w6.heap.size, 2, none⟩ (.int .i64 G.p)).setCell ⟨w6.heap.size, 3, none⟩ (.slice ga gn gc)).setCell ⟨w6.heap.size, 4, none⟩ (.int .i64 G.fu)).setCell ⟨w6.heap.size, 5, none⟩ (.int .i64 G.ke)).setCell ⟨w6.heap.size, 6, none⟩ (.bool G.off)).setCell ⟨w6.heap.size, 7, none⟩ (.int .i64 G.op)) (w.heap.size + 1) _ _ from ((((((((Q1.out).farA (by omega) _).farA (by omega) _).farA (by omega) _).farA (by omega) _).farA (by omega) _).farA (by omega) _).farA (by omega) _).farA (by omega) _)
            have QO2 := Lib.hid (QO.out.same (w' := ((((((((w9.setCell ⟨w6.heap.size, 0, none⟩ (.int .i64 G.d)).setCell ⟨w6.heap.size, 1, none⟩ (.int .i64 G.b)).setCell ⟨w6.heap.size, 2, none⟩ (.int .i64 G.p)).setCell ⟨w6.heap.size, 3, none⟩ (.slice ga gn gc)).setCell ⟨w6.heap.size, 4, none⟩ (.int .i64 G.fu)).setCell ⟨w6.heap.size, 5, none⟩ (.int .i64 G.ke)).setCell ⟨w6.heap.size, 6, none⟩ (.bool G.off)).setCell ⟨w6.heap.size, 7, none⟩ (.int .i64 G.op))) (by (repeat refine sset ?_ (.inr (by have := QR.out; omega)) _); exact Same.refl _ _ _))
            have HOWN2 := Lib.hid (HOWN.out.same (w' := ((((((((w9.setCell ⟨w6.heap.size, 0, none⟩ (.int .i64 G.d)).setCell ⟨w6.heap.size, 1, none⟩ (.int .i64 G.b)).setCell ⟨w6.heap.size, 2, none⟩ (.int .i64 G.p)).setCell ⟨w6.heap.size, 3, none⟩ (.slice ga gn gc)).setCell ⟨w6.heap.size, 4, none⟩ (.int .i64 G.fu)).setCell ⟨w6.heap.size, 5, none⟩ (.int .i64 G.ke)).setCell ⟨w6.heap.size, 6, none⟩ (.bool G.off)).setCell ⟨w6.heap.size, 7, none⟩ (.int .i64 G.op))) (by (repeat refine sset ?_ (.inl (by omega)) _); exact Same.refl _ _ _))
            have QS2 := Lib.hid (QS.out.keepS (w' := ((((((((w9.setCell ⟨w6.heap.size, 0, none⟩ (.int .i64 G.d)).setCell ⟨w6.heap.size, 1, none⟩ (.int .i64 G.b)).setCell ⟨w6.heap.size, 2, none⟩ (.int .i64 G.p)).setCell ⟨w6.heap.size, 3, none⟩ (.slice ga gn gc)).setCell ⟨w6.heap.size, 4, none⟩ (.int .i64 G.fu)).setCell ⟨w6.heap.size, 5, none⟩ (.int .i64 G.ke)).setCell ⟨w6.heap.size, 6, none⟩ (.bool G.off)).setCell ⟨w6.heap.size, 7, none⟩ (.int .i64 G.op))) (by (repeat refine sset ?_ (.inr (by omega)) _); exact Same.refl _ _ _) (by simp))
            have QG2 : Hid (w.grownBy ((((((((w9.setCell ⟨w6.heap.size, 0, none⟩ (.int .i64 G.d)).setCell ⟨w6.heap.size, 1, none⟩ (.int .i64 G.b)).setCell ⟨w6.heap.size, 2, none⟩ (.int .i64 G.p)).setCell ⟨w6.heap.size, 3, none⟩ (.slice ga gn gc)).setCell ⟨w6.heap.size, 4, none⟩ (.int .i64 G.fu)).setCell ⟨w6.heap.size, 5, none⟩ (.int .i64 G.ke)).setCell ⟨w6.heap.size, 6, none⟩ (.bool G.off)).setCell ⟨w6.heap.size, 7, none⟩ (.int .i64 G.op)) (some g)) := Lib.hid (by
              repeat refine grown_out ?_ (by omega) _
              exact QG.out)
            have szW : ((((((((w9.setCell ⟨w6.heap.size, 0, none⟩ (.int .i64 G.d)).setCell ⟨w6.heap.size, 1, none⟩ (.int .i64 G.b)).setCell ⟨w6.heap.size, 2, none⟩ (.int .i64 G.p)).setCell ⟨w6.heap.size, 3, none⟩ (.slice ga gn gc)).setCell ⟨w6.heap.size, 4, none⟩ (.int .i64 G.fu)).setCell ⟨w6.heap.size, 5, none⟩ (.int .i64 G.ke)).setCell ⟨w6.heap.size, 6, none⟩ (.bool G.off)).setCell ⟨w6.heap.size, 7, none⟩ (.int .i64 G.op)).heap.size = w9.heap.size := by simp
            obtain ⟨w10, hw10⟩ : ∃ x, x = ((((((((w9.setCell ⟨w6.heap.size, 0, none⟩ (.int .i64 G.d)).setCell ⟨w6.heap.size, 1, none⟩ (.int .i64 G.b)).setCell ⟨w6.heap.size, 2, none⟩ (.int .i64 G.p)).setCell ⟨w6.heap.size, 3, none⟩ (.slice ga gn gc)).setCell ⟨w6.heap.size, 4, none⟩ (.int .i64 G.fu)).setCell ⟨w6.heap.size, 5, none⟩ (.int .i64 G.ke)).setCell ⟨w6.heap.size, 6, none⟩ (.bool G.off)).setCell ⟨w6.heap.size, 7, none⟩ (.int .i64 G.op)) := ⟨_, rfl⟩
            rw [← hw10] at RX2 Q02 Q12 QO2 HOWN2 QS2 QG2 szW ⊢
            clear hw10 RX Q0 Q1 QO HOWN QS QG
            by_cases hc : c = 0 ∨ c = 8
            · have HSH := Lib.hid (QH.out.prog (by omega) hG hc)
              obtain ⟨n0, n1, n2, n3, n4, n5, n6, n7⟩ := RX2.out.eight
              obtain ⟨m0, m1, m2, m3, m4, m5, m6, m7⟩ := Q02.out.eight
              obtain ⟨fm0, fm1, fm2, fm3, fm4, fm5, fm6, fm7⟩ := Q02.out.frees
              clear hG
              rcases hc with rfl | rfl
              · go_wp2
                go_roundw
                case rel =>
                  have own2 := HOWN2.out.same (w' := ((((((((w10.setCell ⟨w.heap.size, 0, none⟩ (.int .i64 G.d)).setCell ⟨w.heap.size, 1, none⟩ (.int .i64 G.b)).setCell ⟨w.heap.size, 2, none⟩ (.int .i64 G.p)).setCell ⟨w.heap.size, 3, none⟩ (.slice ga gn gc)).setCell ⟨w.heap.size, 4, none⟩ (.int .i64 G.fu)).setCell ⟨w.heap.size, 5, none⟩ (.int .i64 G.ke)).setCell ⟨w.heap.size, 6, none⟩ (.bool G.off)).setCell ⟨w.heap.size, 7, none⟩ (.int .i64 G.op))) (by (repeat refine sset ?_ (.inl (by omega)) _); exact Same.refl _ _ _)
                  have one2 : Rw ((((((((w10.setCell ⟨w.heap.size, 0, none⟩ (.int .i64 G.d)).setCell ⟨w.heap.size, 1, none⟩ (.int .i64 G.b)).setCell ⟨w.heap.size, 2, none⟩ (.int .i64 G.p)).setCell ⟨w.heap.size, 3, none⟩ (.slice ga gn gc)).setCell ⟨w.heap.size, 4, none⟩ (.int .i64 G.fu)).setCell ⟨w.heap.size, 5, none⟩ (.int .i64 G.ke)).setCell ⟨w.heap.size, 6, none⟩ (.bool G.off)).setCell ⟨w.heap.size, 7, none⟩ (.int .i64 G.op)) (w.heap.size + 1) _ _ := ((((((((Q12.out).farA (g' := w.heap.size) (by omega) _).farA (g' := w.heap.size) (by omega) _).farA (g' := w.heap.size) (by omega) _).farA (g' := w.heap.size) (by omega) _).farA (g' := w.heap.size) (by omega) _).farA (g' := w.heap.size) (by omega) _).farA (g' := w.heap.size) (by omega) _).farA (g' := w.heap.size) (by omega) _
                  have src2 := QS2.out.keepS (w' := ((((((((w10.setCell ⟨w.heap.size, 0, none⟩ (.int .i64 G.d)).setCell ⟨w.heap.size, 1, none⟩ (.int .i64 G.b)).setCell ⟨w.heap.size, 2, none⟩ (.int .i64 G.p)).setCell ⟨w.heap.size, 3, none⟩ (.slice ga gn gc)).setCell ⟨w.heap.size, 4, none⟩ (.int .i64 G.fu)).setCell ⟨w.heap.size, 5, none⟩ (.int .i64 G.ke)).setCell ⟨w.heap.size, 6, none⟩ (.bool G.off)).setCell ⟨w.heap.size, 7, none⟩ (.int .i64 G.op))) (by (repeat refine sset ?_ (.inr (by omega)) _); exact Same.refl _ _ _) (by simp)
                  have gr2 : w.grownBy ((((((((w10.setCell ⟨w.heap.size, 0, none⟩ (.int .i64 G.d)).setCell ⟨w.heap.size, 1, none⟩ (.int .i64 G.b)).setCell ⟨w.heap.size, 2, none⟩ (.int .i64 G.p)).setCell ⟨w.heap.size, 3, none⟩ (.slice ga gn gc)).setCell ⟨w.heap.size, 4, none⟩ (.int .i64 G.fu)).setCell ⟨w.heap.size, 5, none⟩ (.int .i64 G.ke)).setCell ⟨w.heap.size, 6, none⟩ (.bool G.off)).setCell ⟨w.heap.size, 7, none⟩ (.int .i64 G.op)) (some g) := by
                    repeat refine grown_out ?_ (by omega) _
                    exact QG2.out
                  exact ⟨k - 1, G, _, _, _, _, _, by omega, by go_num, Lib.hid (Q02.out.put8 _ _ _ _ _ _ _ _), Lib.hid one2, Lib.hid own2, Lib.hid (by have := QR.out; simp; omega), Lib.hid (HSH.out.more (by omega)), Lib.hid (src2.more (by omega)), Lib.hid gr2⟩
                case measure => simp [intOf]; omega
              · go_wp2
                go_roundw
                case rel =>
                  have own2 := HOWN2.out.same (w' := ((((((((w10.setCell ⟨w.heap.size, 0, none⟩ (.int .i64 G.d)).setCell ⟨w.heap.size, 1, none⟩ (.int .i64 G.b)).setCell ⟨w.heap.size, 2, none⟩ (.int .i64 G.p)).setCell ⟨w.heap.size, 3, none⟩ (.slice ga gn gc)).setCell ⟨w.heap.size, 4, none⟩ (.int .i64 G.fu)).setCell ⟨w.heap.size, 5, none⟩ (.int .i64 G.ke)).setCell ⟨w.heap.size, 6, none⟩ (.bool G.off)).setCell ⟨w.heap.size, 7, none⟩ (.int .i64 G.op))) (by (repeat refine sset ?_ (.inl (by omega)) _); exact Same.refl _ _ _)
                  have one2 : Rw ((((((((w10.setCell ⟨w.heap.size, 0, none⟩ (.int .i64 G.d)).setCell ⟨w.heap.size, 1, none⟩ (.int .i64 G.b)).setCell ⟨w.heap.size, 2, none⟩ (.int .i64 G.p)).setCell ⟨w.heap.size, 3, none⟩ (.slice ga gn gc)).setCell ⟨w.heap.size, 4, none⟩ (.int .i64 G.fu)).setCell ⟨w.heap.size, 5, none⟩ (.int .i64 G.ke)).setCell ⟨w.heap.size, 6, none⟩ (.bool G.off)).setCell ⟨w.heap.size, 7, none⟩ (.int .i64 G.op)) (w.heap.size + 1) _ _ := ((((((((Q12.out).farA (g' := w.heap.size) (by omega) _).farA (g' := w.heap.size) (by omega) _).farA (g' := w.heap.size) (by omega) _).farA (g' := w.heap.size) (by omega) _).farA (g' := w.heap.size) (by omega) _).farA (g' := w.heap.size) (by omega) _).farA (g' := w.heap.size) (by omega) _).farA (g' := w.heap.size) (by omega) _
                  have src2 := QS2.out.keepS (w' := ((((((((w10.setCell ⟨w.heap.size, 0, none⟩ (.int .i64 G.d)).setCell ⟨w.heap.size, 1, none⟩ (.int .i64 G.b)).setCell ⟨w.heap.size, 2, none⟩ (.int .i64 G.p)).setCell ⟨w.heap.size, 3, none⟩ (.slice ga gn gc)).setCell ⟨w.heap.size, 4, none⟩ (.int .i64 G.fu)).setCell ⟨w.heap.size, 5, none⟩ (.int .i64 G.ke)).setCell ⟨w.heap.size, 6, none⟩ (.bool G.off)).setCell ⟨w.heap.size, 7, none⟩ (.int .i64 G.op))) (by (repeat refine sset ?_ (.inr (by omega)) _); exact Same.refl _ _ _) (by simp)
                  have gr2 : w.grownBy ((((((((w10.setCell ⟨w.heap.size, 0, none⟩ (.int .i64 G.d)).setCell ⟨w.heap.size, 1, none⟩ (.int .i64 G.b)).setCell ⟨w.heap.size, 2, none⟩ (.int .i64 G.p)).setCell ⟨w.heap.size, 3, none⟩ (.slice ga gn gc)).setCell ⟨w.heap.size, 4, none⟩ (.int .i64 G.fu)).setCell ⟨w.heap.size, 5, none⟩ (.int .i64 G.ke)).setCell ⟨w.heap.size, 6, none⟩ (.bool G.off)).setCell ⟨w.heap.size, 7, none⟩ (.int .i64 G.op)) (some g) := by
                    repeat refine grown_out ?_ (by omega) _
                    exact QG2.out
                  exact ⟨k - 1, G, _, _, _, _, _, by omega, by go_num, Lib.hid (Q02.out.put8 _ _ _ _ _ _ _ _), Lib.hid one2, Lib.hid own2, Lib.hid (by have := QR.out; simp; omega), Lib.hid (HSH.out.more (by omega)), Lib.hid (src2.more (by omega)), Lib.hid gr2⟩
                case measure => simp [intOf]; omega
            · have hc0 : (c == 0) = false := by simp; omega
              have hc8 : (c == 8) = false := by simp; omega
              clear hG
              go_wp2
              go_roundw
              case rel => exact ⟨k - 1, F, _, _, _, _, _, by omega, by go_num, Q02, Q12, QO2, Lib.hid (by have := QR.out; omega), Lib.hid (QH.out.more (by omega)), Lib.hid (QS2.out.more (by omega)), QG2⟩
              case measure => simp [intOf]; omega
          · have h9 : ((s.size : Int) == 91) = false := by simp; omega
            go_wp2
            go_roundw
            case rel => exact ⟨k - 1, F, some ⟨g1, 0, none⟩, nb, cb, lo', hi', by omega, by go_num, Lib.hid Q0.out, Lib.hid Q1.out, Lib.hid QO.out, Lib.hid (by have := QR.out; omega), Lib.hid (QH.out.more (by omega)), Lib.hid (QS.out.more (by omega)), Lib.hid QG.out⟩
            case measure => simp [intOf]; omega
-- NEG
    · have hk1 : k = 0 := by omega
      subst hk1
      obtain ⟨x0, x1, x2, x3, x4, x5, x6, x7⟩ := Q1.out.eight
      obtain ⟨fx0, fx1, fx2, fx3, fx4, fx5, fx6, fx7⟩ := Q1.out.frees
      go_wp2
      have own2 := QO.out.same (w' := ((((((((wr.setCell ⟨w.heap.size + 1, 0, none⟩ (.int .i64 F.d)).setCell ⟨w.heap.size + 1, 1, none⟩ (.int .i64 F.b)).setCell ⟨w.heap.size + 1, 2, none⟩ (.int .i64 F.p)).setCell ⟨w.heap.size + 1, 3, none⟩ (.slice A nb cb)).setCell ⟨w.heap.size + 1, 4, none⟩ (.int .i64 F.fu)).setCell ⟨w.heap.size + 1, 5, none⟩ (.int .i64 F.ke)).setCell ⟨w.heap.size + 1, 6, none⟩ (.bool F.off)).setCell ⟨w.heap.size + 1, 7, none⟩ (.int .i64 F.op))) (by (repeat refine sset ?_ (by have := QR.out; show _ ∨ _; omega) _); exact Same.refl _ _ _)
      have src2 := QS.out.keepS (w' := ((((((((wr.setCell ⟨w.heap.size + 1, 0, none⟩ (.int .i64 F.d)).setCell ⟨w.heap.size + 1, 1, none⟩ (.int .i64 F.b)).setCell ⟨w.heap.size + 1, 2, none⟩ (.int .i64 F.p)).setCell ⟨w.heap.size + 1, 3, none⟩ (.slice A nb cb)).setCell ⟨w.heap.size + 1, 4, none⟩ (.int .i64 F.fu)).setCell ⟨w.heap.size + 1, 5, none⟩ (.int .i64 F.ke)).setCell ⟨w.heap.size + 1, 6, none⟩ (.bool F.off)).setCell ⟨w.heap.size + 1, 7, none⟩ (.int .i64 F.op))) (by (repeat refine sset ?_ (.inr (by omega)) _); exact Same.refl _ _ _) (by simp)
      have gr2 : w.grownBy ((((((((wr.setCell ⟨w.heap.size + 1, 0, none⟩ (.int .i64 F.d)).setCell ⟨w.heap.size + 1, 1, none⟩ (.int .i64 F.b)).setCell ⟨w.heap.size + 1, 2, none⟩ (.int .i64 F.p)).setCell ⟨w.heap.size + 1, 3, none⟩ (.slice A nb cb)).setCell ⟨w.heap.size + 1, 4, none⟩ (.int .i64 F.fu)).setCell ⟨w.heap.size + 1, 5, none⟩ (.int .i64 F.ke)).setCell ⟨w.heap.size + 1, 6, none⟩ (.bool F.off)).setCell ⟨w.heap.size + 1, 7, none⟩ (.int .i64 F.op)) (some g) := by
        repeat refine grown_out ?_ (by omega) _
        exact QG.out
      refine bodyPost_ret (results_cell_row Tryz.results64 _ _ _ _ _ _ _ rfl (Q1.out.put8 _ _ _ _ _ _ _ _) Tryz.underlying28 rfl infoFl8) rfl ⟨_, F, lo', hi', rfl, ⟨_, rfl, own2⟩, (by have := QR.out; simp; omega), QH.out.more (by omega), src2.more (by omega), gr2⟩
end Go.Proofs.YthenilomgbnpeaaGreatDoor
