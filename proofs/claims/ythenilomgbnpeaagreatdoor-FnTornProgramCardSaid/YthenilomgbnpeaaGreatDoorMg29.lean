/- The proof's own lemmas, part 30: FoN FlRd WkFo TeN. -/
import Derived.Test.YthenilomgbnpeaaGreatDoorMg28
import Derived.Test.YthenilomgbnpeaaGreatDoorMg19
import Derived.Test.YthenilomgbnpeaaGreatDoorProg
import Derived.Test.YthenilomgbnpeaaGreatDoorMg20
import Derived.Test.YthenilomgbnpeaaGreatDoorMg18
import Derived.Test.YthenilomgbnpeaaGreatDoorMg16
import Derived.Test.YthenilomgbnpeaaGreatDoorMg0
import Derived.Test.YthenilomgbnpeaaGreatDoorMg27
import Derived.Test.YthenilomgbnpeaaGreatDoorMg22
import Derived.Test.YthenilomgbnpeaaGreatDoorMg13
/- Plain facts: what a program operation and an erase leave, page by page. -/
namespace Go.Proofs.YthenilomgbnpeaaGreatDoor
open Go.RowKit
set_option linter.unusedVariables false
/-- One block replaced by one with as many pages, equal but for some of them. -/
theorem othSet {L : List Blk} {k : Nat} (x : Blk) (hk : k < L.length) {low high : Int} (hl : x.pg.length = (L.getD k Blk.zero).pg.length)
    (h : ∀ t, t < x.pg.length → ((t : Int) < low ∨ high < (t : Int)) → x.pg.getD t ByteArray.empty = (L.getD k Blk.zero).pg.getD t ByteArray.empty) : OthEq (L.set k x) L k low high := by
  refine ⟨List.length_set, fun i hi => ?_⟩
  rw [List.length_set] at hi
  by_cases e : k = i
  · subst e
    rw [getD_set_eq _ _ _ _ hi]
    exact ⟨hl, fun t ht hc => h t ht (by omega)⟩
  · rw [getD_set_ne _ _ _ _ _ e]
    exact ⟨rfl, fun t ht hc => rfl⟩
theorem OthEq.wider {L M : List Blk} {b lo hi lo' hi' : Int} (h : OthEq L M b lo hi) (h1 : lo' ≤ lo) (h2 : hi ≤ hi') : OthEq L M b lo' hi' :=
  ⟨h.1, fun i hi => ⟨(h.2 i hi).1, fun k hk hc => (h.2 i hi).2 k hk (by omega)⟩⟩
theorem not_empty {s : ByteArray} (h : s.size = 91) : s ≠ ByteArray.empty := fun e => by
  rw [e] at h
  simp [ByteArray.size_empty] at h
section
variable {F : Fl} {k n : Nat} {raw : ByteArray}
theorem prog_off (hf : F.fu ≠ 0) : (F.prog k raw).off = F.off ∧ (F.prog k raw).op = wrap64 (F.op + 1) ∧ (F.prog k raw).p = F.p ∧ (F.prog k raw).bs = F.bs.set k ((F.blk k).prog raw) := by
  unfold Fl.prog
  rw [if_neg hf]
  refine ⟨?_, rfl, rfl, rfl⟩
  show (if F.fu = 0 then true else F.off) = F.off
  rw [if_neg hf]
theorem order_prog (h : FlOk F) (ho : 0 ≤ F.op ∧ F.op ≤ 1000) (hoff : F.off = false) (hf : F.fu ≠ 0) (hk : k < F.bs.length) (hnp : (n : Int) < F.p) (hn : (F.blk k).nx = n) (hb : (F.blk k).bad = false) (hr : raw.size = 91) :
    FlOk (F.prog k raw) ∧ ReadEnds (F.prog k raw) k n raw 0 ∧ OthEq (F.prog k raw).bs F.bs k n n ∧ (F.prog k raw).op = F.op + 1 ∧ (F.prog k raw).p = F.p ∧ (F.prog k raw).bs.length = F.bs.length ∧
    ((F.prog k raw).blk k).nx = n + 1 ∧ ((F.prog k raw).blk k).er = (F.blk k).er ∧ ((F.prog k raw).blk k).bad = false ∧ (F.prog k raw).off = false ∧ ProgEnds (F.prog k raw) k n raw Fl.zero 5 := by
  have hok := h.prog (k := k) (by omega) hk (by omega) hr
  obtain ⟨e1, e2, e3, e4⟩ := prog_off (k := k) (raw := raw) hf
  have hpl := h.plen hk
  have hbl : (F.prog k raw).blk k = (F.blk k).prog raw := by unfold Fl.blk; rw [e4, getD_set_eq _ _ _ _ hk]; rfl
  have hlen : (F.prog k raw).bs.length = F.bs.length := by rw [e4, List.length_set]
  have hat : ((F.blk k).prog raw).at n = raw := by
    show ((F.blk k).pg.set (F.blk k).nx.toNat raw).getD n ByteArray.empty = raw
    rw [hn, show ((n : Int)).toNat = n by omega, getD_set_eq _ _ _ _ (by omega)]
  have hnx : ((F.prog k raw).blk k).nx = n + 1 := by rw [hbl]; show (F.blk k).nx + 1 = _; rw [hn]
  have hbd : ((F.prog k raw).blk k).bad = false := by rw [hbl]; exact hb
  refine ⟨hok, ?_, ?_, by rw [e2, IntWalk.wrap64_in _ (by omega)], e3, hlen, hnx, by rw [hbl]; rfl, hbd, by rw [e1, hoff], .state hok hr (by rw [e1, hoff]) k n rfl rfl (by omega) (by omega) hbd (by rw [hnx]; omega)⟩
  · have := ReadEnds.full (block := k) (page := n) hok (by rw [e1, hoff]) k n rfl rfl (by omega) (by omega) (by rw [hbl, hat]; exact not_empty hr)
    rw [hbl, hat] at this
    exact this
  · rw [e4]
    refine othSet _ hk (by show ((F.blk k).pg.set _ _).length = _; rw [List.length_set]; rfl) fun t ht hc => ?_
    show ((F.blk k).pg.set (F.blk k).nx.toNat raw).getD t ByteArray.empty = _
    rw [hn, getD_set_ne _ _ _ _ _ (by omega)]
    rfl
theorem order_erase (h : FlOk F) (ho : 0 ≤ F.op ∧ F.op ≤ 1001) (hoff : F.off = false) (hf : F.fu ≠ 0) (hk : k < F.bs.length) (hnp : (n : Int) < F.p) (hb : (F.blk k).bad = false) (he : (F.blk k).er ≠ 1000) :
    EraEnds F k (F.erase k) 0 ∧ FlOk (F.erase k) ∧ ReadEnds (F.erase k) k n erasedB 0 ∧ OthEq (F.erase k).bs F.bs k 0 (F.p - 1) ∧ (F.erase k).bs.length = F.bs.length ∧ ((F.erase k).blk k).er = (F.blk k).er + 1 := by
  have hok := h.erase (k := k) (by omega) hk he
  have hpl := h.plen hk
  have e1 : (F.erase k).off = false := by show (if F.fu = 0 then true else F.off) = false; rw [if_neg hf, hoff]
  have e4 : (F.erase k).bs = F.bs.set k ((F.blk k).erase 91) := by unfold Fl.erase; rw [if_neg hf]; rfl
  have hlen : (F.erase k).bs.length = F.bs.length := by rw [e4, List.length_set]
  have hbl : (F.erase k).blk k = (F.blk k).erase 91 := by unfold Fl.blk; rw [e4, getD_set_eq _ _ _ _ hk]; rfl
  have hat : ((F.blk k).erase 91).at n = ByteArray.empty := by
    show (emptied (F.blk k).pg 91).getD n ByteArray.empty = _
    rw [emptied_at _ _ _ (by omega), if_pos (by omega)]
  have hc : F.code = 0 := by unfold Fl.code; rw [if_neg hf]
  refine ⟨hc ▸ EraEnds.done h hoff k rfl hk hb he, hok, .empty hok e1 k n rfl rfl (by omega) (by show (n : Int) < F.p; exact hnp) (by rw [hbl, hat]), ?_, hlen, by rw [hbl]; rfl⟩
  rw [e4]
  refine othSet _ hk (by show (emptied (F.blk k).pg 91).length = _; rw [emptied_length]; rfl) fun t ht hcc => ?_
  have ht2 : t < (F.blk k).pg.length := by
    have : t < (emptied (F.blk k).pg 91).length := ht
    rw [emptied_length] at this
    exact this
  omega
end
end Go.Proofs.YthenilomgbnpeaaGreatDoor
/- ReadRaw, in the model and in the program: the contracts. -/
namespace Go.Proofs.YthenilomgbnpeaaGreatDoor
open Go.RowKit
set_option linter.unusedVariables false
/-- A page of an array that is read. -/
theorem page_at {W : World} {lo hi n cap : Nat} {A : Option Addr} {L : List Blk} (h : BksIn W lo hi (.slice A n cap) L) {k m : Nat} (hk : k < n) (hm : m < (L.getD k Blk.zero).pg.length) :
    ∃ gb o b po pc, A = some ⟨gb, o, none⟩ ∧ gb < hi ∧ b < hi ∧ W.cell? ⟨gb, o + k * 4 + 3, none⟩ = some (.slice (some ⟨b, po, none⟩) (L.getD k Blk.zero).pg.length pc) ∧ W.cell? ⟨b, po + m, none⟩ = some (.string ((L.getD k Blk.zero).at m)) ∧ ((L.getD k Blk.zero).at m).size ≤ 9223372036854775807 := by
  obtain ⟨A', n', c', e, _, _, _, hx⟩ := h
  injection e with e1 e2 e3
  subst e1 e2 e3
  obtain ⟨gb, o, e, h1, h2, hy⟩ := hx (by omega)
  obtain ⟨pv, hp, hpg⟩ := hy k hk
  obtain ⟨A2, n2, c2, rfl, _, _, h5, h6, h7⟩ := hpg
  obtain ⟨b, po, rfl, h8, h9, hc⟩ := h7 (by omega)
  exact ⟨gb, o, b, po, c2, e, h2, h9, by rw [h5]; exact hp.2.2.2, hc m (by omega), h6 m (by omega)⟩
theorem empty_list : (ByteArray.empty : ByteArray).toList = [] := by rw [ByteArray.toList_eq]; rfl
theorem blkRead_no (gb o b po P pc m : Nat) (w : World) (q3 : w.cell? ⟨gb, o + 3, none⟩ = some (.slice (some ⟨b, po, none⟩) P pc)) (cp : w.cell? ⟨b, po + m, none⟩ = some (.string ByteArray.empty)) (hm : (m : Int) < (P : Int)) (hP : (P : Int) ≤ 16) :
    Calls Tryz.prog 35 #[.pointer (some ⟨gb, o, none⟩), .int .i64 (m : Int)] w fun e w' => e = .returned (.string (fillB 255 91)) ∧ Below w.heap.size w w' := by
  have hyl := empty_list
  have HEr := Lib.hid (fun (W : World) => implErased_any W)
  have h9 := fillB_size 255 91
  go_enter Tryz.func35, Tryz.ntmps35
  go_wp2_with fail
  refine (HEr.out _).mono ?_
  rintro e w2 ⟨rfl, b2⟩
  have B2 := Lib.hid b2
  clear b2
  go_wp2
  go_ret
  exact ⟨rfl, B2.out⟩
theorem blkRead_yes (gb o b po P pc m : Nat) (y : ByteArray) (w : World) (q3 : w.cell? ⟨gb, o + 3, none⟩ = some (.slice (some ⟨b, po, none⟩) P pc)) (cp : w.cell? ⟨b, po + m, none⟩ = some (.string y)) (hm : (m : Int) < (P : Int)) (hP : (P : Int) ≤ 16) (hcs : y.size ≤ 9223372036854775807) (h2 : y ≠ ByteArray.empty) :
    Calls Tryz.prog 35 #[.pointer (some ⟨gb, o, none⟩), .int .i64 (m : Int)] w fun e w' => e = .returned (.string y) ∧ Below w.heap.size w w' := by
  have hne : y.size ≠ 0 := fun e => h2 (by apply ByteArray.ext; apply Array.eq_empty_of_size_eq_zero; exact e)
  obtain ⟨hn1, hn2⟩ := bytes_ne hne
  have B0 := Lib.hid (Below.refl w.heap.size w)
  clear h2
  go_enter Tryz.func35, Tryz.ntmps35
  go_wp2
  go_ret
  exact ⟨rfl, B0.out⟩
set_option maxHeartbeats 1000000 in
theorem implRead_any (v : Value) (block page : Int) (F : Fl) (s : ByteArray) (c : Int) (w : World) (lo hi : Nat) (h : FlIn w lo hi v F) (hh : hi ≤ w.heap.size) (hE : ReadEnds F block page s c) (hl : FlLen F) :
    Calls Tryz.prog 14 #[v, .int .i64 block, .int .i64 page] w (PairPost s c w) := by
  obtain ⟨r, hr⟩ := prop_dec (FlOk F)
  obtain ⟨u, rfl, hb⟩ := h
  have hv : ∀ W : World, BksIn W lo hi u F.bs → FlIn W lo hi (.agg (flc F u)) F := fun W a => ⟨u, rfl, a⟩
  have HV := Lib.hid (fun (W : World) (a : BksIn W lo hi u F.bs) (c : hi ≤ W.heap.size) => implValid_any (.agg (flc F u)) F r W lo hi (hv W a) c hr hl)
  have H := Lib.hid hb
  have hbl : ∃ A n c, u = .slice A n c ∧ F.bs.length = n := by obtain ⟨A, n, c, e, _, _, h, _⟩ := hb; exact ⟨A, n, c, e, h⟩
  obtain ⟨Au, nu, cu, rfl, hlen⟩ := hbl
  clear hb hv hl
  have hFl : flc F (.slice Au nu cu) = #[.int .i64 F.d, .int .i64 F.b, .int .i64 F.p, .slice Au nu cu, .int .i64 F.fu, .int .i64 F.ke, .bool F.off, .int .i64 F.op] := rfl
  rw [hFl] at HV ⊢
  have R0 := Lib.hid (Rw.new w 28 #[.int .i64 F.d, .int .i64 F.b, .int .i64 F.p, .slice Au nu cu, .int .i64 F.fu, .int .i64 F.ke, .bool F.off, .int .i64 F.op])
  have B0 := Lib.hid ((Below.refl w.heap.size w).alloc (Nat.le_refl _) (.cells #[.int .i64 F.d, .int .i64 F.b, .int .i64 F.p, .slice Au nu cu, .int .i64 F.fu, .int .i64 F.ke, .bool F.off, .int .i64 F.op] 28))
  clear hFl
  have HE := Lib.hid hE
  have HLN := Lib.hid hlen
  have HP16 := Lib.hid (fun (h : FlOk F) => h.1.p16)
  have HPL := Lib.hid (fun (h : FlOk F) (i : Nat) (hi : i < F.bs.length) => h.plen hi)
  have HLE := Lib.hid (fun (h : FlOk F) => h.len)
  have HHP := Lib.hid (fun (W : World) (hok : FlOk F) (r : Bool) (hr : r = true ↔ ((0 ≤ block ∧ block < (nu : Int)) ∧ (0 ≤ page ∧ page < F.p))) => geoPage_any F.d F.b F.p block page r W hok.1 (by have := hok.2.1; rw [hlen] at this; rw [← this]; exact hr))
  clear hE hlen
  generalize hoff : F.off = off at *
  have HOF := Lib.hid hoff
  clear hoff
  go_enter Tryz.func14, Tryz.ntmps14
  go_wp2_with fail
  refine (HV.out _ (H.out.same (sm B0.out lo hh)) (by simp; omega)).mono ?_
  rintro e w1 ⟨rfl, b1⟩
  have S0 := Lib.hid (R0.out.below b1 (by simp))
  have B1 := Lib.hid (B0.out.trans (b1.mono (by simp)))
  have hsz1 := b1.size
  simp only [World.size_alloc] at hsz1
  obtain ⟨a0, a1, a2, a3, a4, a5, a6, a7⟩ := S0.out.eight
  clear b1
  rcases HE.out with hno | ⟨hok, h1⟩ | ⟨hok, h1, h2⟩ | ⟨hok, h1, k, m, rfl, rfl, hkl, hnp, h2⟩ | ⟨hok, h1, k, m, rfl, rfl, hkl, hnp, h2⟩
  · obtain rfl : r = false := (bool_of r hr).2 hno
    clear hr hno
    go_wp2
    go_ret2
    exact ⟨rfl, B1.out⟩
  all_goals
    obtain rfl : r = true := hr.2 hok
    rw [HOF.out] at h1
    subst h1
    have hl9 := HLE.out hok
    have hp9 := HP16.out hok
    rw [HLN.out] at hl9
    clear hr
  · clear hok hp9
    go_wp2
    go_ret2
    exact ⟨rfl, B1.out⟩
  · have HF := Lib.hid (HHP.out w1 hok false (by
      rw [HLN.out] at h2
      simp only [Bool.false_eq_true, false_iff]
      rintro ⟨a, b⟩
      rcases h2 with h2 | h2 <;> contradiction))
    clear hok h2 hp9
    go_wp2_with fail
    refine HF.out.mono ?_
    rintro e w' ⟨rfl, bx⟩
    have BX := Lib.hid (B1.out.trans (bx.mono (by omega)))
    clear bx
    go_wp2
    go_ret2
    exact ⟨rfl, BX.out⟩
  · have HF := Lib.hid (HHP.out w1 hok true (by rw [HLN.out] at hkl; simp; omega))
    have hpl := HPL.out hok k hkl
    rw [HLN.out] at hkl
    obtain ⟨gb, o, b, po, pc, rfl, hg1, hb1, q3, cp, hcs⟩ := page_at (H.out.same (sm B1.out lo hh)) (m := m) hkl (by show m < (F.blk k).pg.length; omega)
    change w1.cell? ⟨gb, o + k * 4 + 3, none⟩ = some (.slice (some ⟨b, po, none⟩) (F.blk k).pg.length pc) at q3
    change w1.cell? ⟨b, po + m, none⟩ = some (.string ((F.blk k).at m)) at cp
    change ((F.blk k).at m).size ≤ _ at hcs
    have hki : (k : Int) < (nu : Int) := by omega
    have hmi : (m : Int) < ((F.blk k).pg.length : Int) := by omega
    have hP16 : ((F.blk k).pg.length : Int) ≤ 16 := by omega
    have hnu : (nu : Int) ≤ 36 := by omega
    generalize (F.blk k).pg.length = P at *
    generalize (F.blk k).at m = y at *
    subst h2
    clear hok hpl hp9 hl9
    go_wp2_with fail
    refine HF.out.mono ?_
    rintro e w' ⟨rfl, bx⟩
    have BX := Lib.hid (B1.out.trans (bx.mono (by omega)))
    have SX := Lib.hid (S0.out.below bx (by omega))
    have q3x := (show w'.cell? ⟨gb, o + k * 4 + 3, none⟩ = w1.cell? ⟨gb, o + k * 4 + 3, none⟩ from World.cell?_of_block (w := w1) (bx.block gb (by omega))).trans q3
    have cpx := (show w'.cell? ⟨b, po + m, none⟩ = w1.cell? ⟨b, po + m, none⟩ from World.cell?_of_block (w := w1) (bx.block b (by omega))).trans cp
    have hsx := bx.size
    clear bx a0 a1 a2 a3 a4 a5 a6 a7 q3 cp
    obtain ⟨a0, a1, a2, a3, a4, a5, a6, a7⟩ := SX.out.eight
    have HBR := Lib.hid (blkRead_no gb (o + k * 4) b po P pc m w' q3x cpx hmi hP16)
    go_wp2_with fail
    refine HBR.out.mono ?_
    rintro e w2 ⟨rfl, b2⟩
    have B2 := Lib.hid (BX.out.trans (b2.mono (by omega)))
    clear b2
    go_wp2
    go_ret2
    exact ⟨rfl, B2.out⟩
  · have HF := Lib.hid (HHP.out w1 hok true (by rw [HLN.out] at hkl; simp; omega))
    have hpl := HPL.out hok k hkl
    rw [HLN.out] at hkl
    obtain ⟨gb, o, b, po, pc, rfl, hg1, hb1, q3, cp, hcs⟩ := page_at (H.out.same (sm B1.out lo hh)) (m := m) hkl (by show m < (F.blk k).pg.length; omega)
    change w1.cell? ⟨gb, o + k * 4 + 3, none⟩ = some (.slice (some ⟨b, po, none⟩) (F.blk k).pg.length pc) at q3
    change w1.cell? ⟨b, po + m, none⟩ = some (.string ((F.blk k).at m)) at cp
    change ((F.blk k).at m).size ≤ _ at hcs
    have hki : (k : Int) < (nu : Int) := by omega
    have hmi : (m : Int) < ((F.blk k).pg.length : Int) := by omega
    have hP16 : ((F.blk k).pg.length : Int) ≤ 16 := by omega
    have hnu : (nu : Int) ≤ 36 := by omega
    generalize (F.blk k).pg.length = P at *
    generalize (F.blk k).at m = y at *
    clear hok hpl hp9 hl9
    go_wp2_with fail
    refine HF.out.mono ?_
    rintro e w' ⟨rfl, bx⟩
    have BX := Lib.hid (B1.out.trans (bx.mono (by omega)))
    have SX := Lib.hid (S0.out.below bx (by omega))
    have q3x := (show w'.cell? ⟨gb, o + k * 4 + 3, none⟩ = w1.cell? ⟨gb, o + k * 4 + 3, none⟩ from World.cell?_of_block (w := w1) (bx.block gb (by omega))).trans q3
    have cpx := (show w'.cell? ⟨b, po + m, none⟩ = w1.cell? ⟨b, po + m, none⟩ from World.cell?_of_block (w := w1) (bx.block b (by omega))).trans cp
    have hsx := bx.size
    clear bx a0 a1 a2 a3 a4 a5 a6 a7 q3 cp
    obtain ⟨a0, a1, a2, a3, a4, a5, a6, a7⟩ := SX.out.eight
    have HBR := Lib.hid (blkRead_yes gb (o + k * 4) b po P pc m y w' q3x cpx hmi hP16 hcs h2)
    clear h2
    go_wp2_with fail
    refine HBR.out.mono ?_
    rintro e w2 ⟨rfl, b2⟩
    have B2 := Lib.hid (BX.out.trans (b2.mono (by omega)))
    clear b2
    go_wp2
    go_ret2
    exact ⟨rfl, B2.out⟩
end Go.Proofs.YthenilomgbnpeaaGreatDoor
/- Pages are programmed in order: the walk. -/
namespace Go.Proofs.YthenilomgbnpeaaGreatDoor
open Go.RowKit
set_option linter.unusedVariables false
theorem prog_codes {F : Fl} {block page : Int} {raw : ByteArray} {G : Fl} {c : Int} (h : ProgEnds F block page raw G c) :
    (c = 0 ∧ FlOk F ∧ raw.size = 91 ∧ F.off = false ∧ F.fu ≠ 0 ∧ ∃ k n : Nat, block = k ∧ page = n ∧ k < F.bs.length ∧ (n : Int) < F.p ∧ (F.blk k).bad = false ∧ (F.blk k).nx = n ∧ G = F.prog k raw) ∨ c = 8 ∨ ((c ≠ 0 ∧ c ≠ 8) ∧ G.bs = []) := by
  rcases h with _ | _ | _ | _ | _ | ⟨h, hr, h1, k, n, hk, hn, hkl, hnp, h2, h3⟩
  · exact .inr (.inr ⟨by omega, rfl⟩)
  · exact .inr (.inl rfl)
  · exact .inr (.inr ⟨by omega, rfl⟩)
  · exact .inr (.inr ⟨by omega, rfl⟩)
  · exact .inr (.inr ⟨by omega, rfl⟩)
  · by_cases hf : F.fu = 0
    · exact .inr (.inl (by unfold Fl.code; rw [if_pos hf]))
    · exact .inl ⟨by unfold Fl.code; rw [if_neg hf], h, hr, h1, hf, k, n, hk, hn, hkl, by omega, h2, by omega, rfl⟩
/-- Two arrays, each in a variable's block. -/
def FoSt (F G : Fl) (A : Option Addr) (nb cb : Nat) (Ay : Option Addr) (ny cy f x : Nat) (w wx : World) : Prop := Rw wx f 28 #[.int .i64 F.d, .int .i64 F.b, .int .i64 F.p, .slice A nb cb, .int .i64 F.fu, .int .i64 F.ke, .bool F.off, .int .i64 F.op] ∧ Rw wx x 28 #[.int .i64 G.d, .int .i64 G.b, .int .i64 G.p, .slice Ay ny cy, .int .i64 G.fu, .int .i64 G.ke, .bool G.off, .int .i64 G.op] ∧ FlIn wx 0 wx.heap.size (.agg #[.int .i64 F.d, .int .i64 F.b, .int .i64 F.p, .slice A nb cb, .int .i64 F.fu, .int .i64 F.ke, .bool F.off, .int .i64 F.op]) F ∧ FlIn wx 0 wx.heap.size (.agg #[.int .i64 G.d, .int .i64 G.b, .int .i64 G.p, .slice Ay ny cy, .int .i64 G.fu, .int .i64 G.ke, .bool G.off, .int .i64 G.op]) G ∧ Below w.heap.size w wx
section
variable {F G : Fl} {A : Option Addr} {nb cb : Nat} {Ay : Option Addr} {ny cy f x : Nat} {w wx wy : World}
theorem FoSt.below (h : FoSt F G A nb cb Ay ny cy f x w wx) (b : Below wx.heap.size wx wy) : FoSt F G A nb cb Ay ny cy f x w wy := by
  obtain ⟨h1, h2, h3, h4, h5⟩ := h
  exact ⟨h1.below b h1.lt, h2.below b h2.lt, (h3.same (sm b _ (Nat.le_refl _))).wide (Nat.le_refl _) b.size, (h4.same (sm b _ (Nat.le_refl _))).wide (Nat.le_refl _) b.size, h5.trans (b.mono h5.size)⟩
theorem FoSt.alloc (h : FoSt F G A nb cb Ay ny cy f x w wx) (o : Obj) : FoSt F G A nb cb Ay ny cy f x w (wx.alloc o) := h.below ((Below.refl _ _).alloc (Nat.le_refl _) _)
end
/-- A block's number of the next page and of erases, as they lie in memory. -/
theorem FlIn.heads {w : World} {lo hi : Nat} {F : Fl} {d b p fu ke op : Int} {off : Bool} {A : Option Addr} {n c : Nat} (h : FlIn w lo hi (.agg #[.int .i64 d, .int .i64 b, .int .i64 p, .slice A n c, .int .i64 fu, .int .i64 ke, .bool off, .int .i64 op]) F) :
    F.bs.length = n ∧ ∀ k, k < n → ∃ g o, A = some ⟨g, o, none⟩ ∧ g < hi ∧ w.cell? ⟨g, o + k * 4, none⟩ = some (.int .i64 (F.blk k).er) ∧ w.cell? ⟨g, o + k * 4 + 1, none⟩ = some (.int .i64 (F.blk k).nx) := by
  obtain ⟨u, e, A', n', c', rfl, h1, h2, h3, h4⟩ := h
  unfold flc at e
  injection e with e
  simp only [Array.mk.injEq, List.cons.injEq, Value.slice.injEq] at e
  obtain ⟨-, -, -, ⟨rfl, rfl, rfl⟩, -⟩ := e
  refine ⟨h3, fun k hk => ?_⟩
  obtain ⟨g, o, rfl, _, h5, h6⟩ := h4 (by omega)
  obtain ⟨pv, h7, _⟩ := h6 k hk
  exact ⟨g, o, rfl, h5, h7.1, h7.2.1⟩
end Go.Proofs.YthenilomgbnpeaaGreatDoor
/- Plain facts: what an interrupted erase leaves, page by page. -/
namespace Go.Proofs.YthenilomgbnpeaaGreatDoor
open Go.RowKit
set_option linter.unusedVariables false
theorem arm_codes {F : Fl} {ke : Int} {G : Fl} {c : Int} (h : ArmEnds F 0 ke G c) (hk : 0 ≤ ke ∧ ke ≤ 91) : (c = 0 ∧ FlOk F ∧ F.off = false ∧ G = F.arm 0 ke) ∨ c ≠ 0 := by
  rcases h with _ | _ | ⟨_, _, h⟩ | ⟨h, h1, _, _⟩
  · exact .inr (by omega)
  · exact .inr (by omega)
  · exact .inr (by omega)
  · exact .inl ⟨rfl, h, h1, rfl⟩
theorem FlOk.arm0 {F : Fl} (h : FlOk F) {ke : Int} (hk : 0 ≤ ke ∧ ke ≤ 91) : FlOk (F.arm 0 ke) := ⟨h.1, h.2.1, h.2.2.1, by show (-1 : Int) ≤ 0 ∧ (0 : Int) ≤ 1000000; omega, hk, h.2.2.2.2.2⟩
theorem FlOk.on {F : Fl} (h : FlOk F) : FlOk F.on := ⟨h.1, h.2.1, h.2.2.1, by show (-1 : Int) ≤ -1 ∧ (-1 : Int) ≤ 1000000; omega, h.2.2.2.2.1, h.2.2.2.2.2⟩
/-- An erase of an array whose fuse is armed: refused, or begun and cut. -/
theorem cut_codes {F : Fl} {block : Int} {G : Fl} {c : Int} (h : EraEnds F block G c) (hok : FlOk F) (hoff : F.off = false) (hf : F.fu = 0) :
    (c = 8 ∧ ∃ k : Nat, block = k ∧ k < F.bs.length ∧ (F.blk k).bad = false ∧ (F.blk k).er ≠ 1000 ∧ G = F.erase k) ∨ (c ≠ 8 ∧ c ≠ 0) := by
  rcases h with h | ⟨_, h1⟩ | _ | _ | ⟨_, h1, k, hk, hkl, h2, h3⟩
  · exact absurd hok h
  · rw [h1] at hoff; cases hoff
  · exact .inr ⟨by omega, by omega⟩
  · exact .inr ⟨by omega, by omega⟩
  · exact .inl ⟨by unfold Fl.code; rw [if_pos hf], k, hk, hkl, h2, h3, rfl⟩
section
variable {F : Fl} {k : Nat} {ke : Int}
/-- What lies there when the power is back. -/
theorem cut_facts (h : FlOk F) (ho : 0 ≤ F.op ∧ F.op ≤ 1000) (hke : 0 ≤ ke ∧ ke ≤ 19) (hk : k < F.bs.length) (hb : (F.blk k).bad = false) (he : (F.blk k).er ≠ 1000) :
    let Y := ((F.arm 0 ke).erase k).on
    FlOk ((F.arm 0 ke).erase k) ∧ FlOk Y ∧ OthEq Y.bs F.bs k 0 (ke - 1) ∧ Y.bs.length = F.bs.length ∧ Y.p = F.p ∧ Y.off = false ∧ Y.fu = -1 ∧ Y.op = F.op + 1 ∧ (Y.blk k).bad = false ∧ (Y.blk k).er = (F.blk k).er + 1 ∧
    (Y.blk k).nx = (if ke < F.p then F.p else 0) ∧ (∀ t : Nat, (t : Int) < ke → t < (Y.blk k).pg.length → (Y.blk k).pg.getD t ByteArray.empty = ByteArray.empty) := by
  intro Y
  have ha := h.arm0 (ke := ke) ⟨hke.1, by omega⟩
  have hx := ha.erase (k := k) (show F.op < 9223372036854775807 by omega) hk he
  have hpl := h.plen hk
  have e4 : Y.bs = F.bs.set k ((F.blk k).erase ke.toNat) := rfl
  have hbl : Y.blk k = (F.blk k).erase ke.toNat := by unfold Fl.blk; rw [e4, getD_set_eq _ _ _ _ hk]; rfl
  refine ⟨hx, hx.on, ?_, by rw [e4, List.length_set], rfl, rfl, rfl, ?_, by rw [hbl]; exact hb, by rw [hbl]; rfl, ?_, fun t ht htl => ?_⟩
  · rw [e4]
    refine othSet _ hk (by show (emptied (F.blk k).pg ke.toNat).length = _; rw [emptied_length]; rfl) fun t ht hc => ?_
    have ht2 : t < (F.blk k).pg.length := by
      have : t < (emptied (F.blk k).pg ke.toNat).length := ht
      rwa [emptied_length] at this
    show (emptied (F.blk k).pg ke.toNat).getD t ByteArray.empty = _
    rw [emptied_at _ _ _ ht2, if_neg (by omega)]
    rfl
  · show wrap64 (F.op + 1) = _
    rw [IntWalk.wrap64_in _ (by omega)]
  · rw [hbl]
    show (if ke.toNat < (F.blk k).pg.length then ((F.blk k).pg.length : Int) else 0) = _
    by_cases h1 : ke < F.p
    · rw [if_pos (by omega), if_pos h1]; exact hpl.2.2
    · rw [if_neg (by omega), if_neg h1]
  · rw [hbl] at htl ⊢
    have ht2 : t < (F.blk k).pg.length := by
      have : t < (emptied (F.blk k).pg ke.toNat).length := htl
      rwa [emptied_length] at this
    show (emptied (F.blk k).pg ke.toNat).getD t ByteArray.empty = _
    rw [emptied_at _ _ _ ht2, if_pos (by omega)]
/-- What is answered when a page is programmed then. -/
theorem after_prog (h : FlOk F) (hoff : F.off = false) (hfu : F.fu = -1) (hk : k < F.bs.length) (hb : (F.blk k).bad = false) {raw : ByteArray} (hr : raw.size = 91) :
    ∃ G c, ProgEnds F k 0 raw G c ∧ (c = 0 ∨ c = 5) ∧ (c = 0 ↔ (F.blk k).nx = 0) := by
  have hp := h.1.p16
  by_cases hn : (F.blk k).nx = 0
  · exact ⟨_, _, .done h hr hoff k 0 rfl rfl hk (by omega) hb hn, .inl (by unfold Fl.code; rw [if_neg (by omega)]), by unfold Fl.code; rw [if_neg (by omega)]; simp [hn]⟩
  · exact ⟨_, _, .state h hr hoff k 0 rfl rfl hk (by omega) hb hn, .inr rfl, by simp [hn]⟩
/-- What is answered when the block is erased again. -/
theorem after_erase (h : FlOk F) (hoff : F.off = false) (hfu : F.fu = -1) (hk : k < F.bs.length) (hb : (F.blk k).bad = false) :
    ∃ G c, EraEnds F k G c ∧ ((c = 7 ∧ (F.blk k).er = 1000) ∨ (c = 0 ∧ G.bs.length = F.bs.length ∧ (G.blk k).nx = 0)) := by
  have hpl := h.plen hk
  by_cases he : (F.blk k).er = 1000
  · exact ⟨_, _, .bad h hoff k rfl hk (.inr he), .inl ⟨rfl, he⟩⟩
  · refine ⟨_, _, .done h hoff k rfl hk hb he, .inr ⟨by unfold Fl.code; rw [if_neg (by omega)], ?_, ?_⟩⟩
    · show (F.bs.set k _).length = _
      rw [List.length_set]
    · have hbl : (F.erase k).blk k = (F.blk k).erase 91 := by
        unfold Fl.erase
        rw [if_neg (by omega)]
        show (F.bs.set k _).getD k Blk.zero = _
        rw [getD_set_eq _ _ _ _ hk]
      rw [hbl]
      show (if 91 < (F.blk k).pg.length then ((F.blk k).pg.length : Int) else 0) = 0
      rw [if_neg (by omega)]
end
end Go.Proofs.YthenilomgbnpeaaGreatDoor
