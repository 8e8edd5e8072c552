/- The proof's own lemmas, part 7 of 7: FoN FlRd WkFo TeN FlP WkTe. -/
import Derived.Test.YtlmdpdidjldkpaaMg5
import Derived.Test.YtlmdpdidjldkpaaMg3
import Derived.Test.YtlmdpdidjldkpaaProg
import Derived.Test.YtlmdpdidjldkpaaMg2
import Derived.Test.YtlmdpdidjldkpaaMg0
import Derived.Test.YtlmdpdidjldkpaaMg4
import Derived.Deep.DeepCutAuto
import Derived.Deep.RegionHeld3
/- Plain facts: what a program operation and an erase leave, page by page. -/
namespace Go.Proofs.Ytlmdpdidjldkpaa
open Go.RowKit
set_option linter.unusedVariables false
/-- One block replaced by one with as many pages, equal but for some of them. -/
theorem othSet {L : List Blk} {k : Nat} (x : Blk) (hk : k < L.length) {low high : Int} (hl : x.pg.length = (L.getD k Blk.zero).pg.length)
    (h : ∀ t, t < x.pg.length → ((t : Int) < low ∨ high < (t : Int)) → x.pg.getD t ByteArray.empty = (L.getD k Blk.zero).pg.getD t ByteArray.empty) : OthEq (L.set k x) L k low high := by
  refine ⟨List.length_set, fun i hi => ?_⟩
  rw [List.length_set] at hi
  by_cases e : k = i
  · subst e
    rw [getD_set_eq _ _ _ _ hi]
    exact ⟨hl, fun t ht hc => h t ht (by omega)⟩
  · rw [getD_set_ne _ _ _ _ _ e]
    exact ⟨rfl, fun t ht hc => rfl⟩
theorem OthEq.wider {L M : List Blk} {b lo hi lo' hi' : Int} (h : OthEq L M b lo hi) (h1 : lo' ≤ lo) (h2 : hi ≤ hi') : OthEq L M b lo' hi' :=
  ⟨h.1, fun i hi => ⟨(h.2 i hi).1, fun k hk hc => (h.2 i hi).2 k hk (by omega)⟩⟩
theorem not_empty {s : ByteArray} (h : s.size = 91) : s ≠ ByteArray.empty := fun e => by
  rw [e] at h
  simp [ByteArray.size_empty] at h
section
variable {F : Fl} {k n : Nat} {raw : ByteArray}
theorem prog_off (hf : F.fu ≠ 0) : (F.prog k raw).off = F.off ∧ (F.prog k raw).op = wrap64 (F.op + 1) ∧ (F.prog k raw).p = F.p ∧ (F.prog k raw).bs = F.bs.set k ((F.blk k).prog raw) := by
  unfold Fl.prog
  rw [if_neg hf]
  refine ⟨?_, rfl, rfl, rfl⟩
  show (if F.fu = 0 then true else F.off) = F.off
  rw [if_neg hf]
theorem order_prog (h : FlOk F) (ho : 0 ≤ F.op ∧ F.op ≤ 1000) (hoff : F.off = false) (hf : F.fu ≠ 0) (hk : k < F.bs.length) (hnp : (n : Int) < F.p) (hn : (F.blk k).nx = n) (hb : (F.blk k).bad = false) (hr : raw.size = 91) :
    FlOk (F.prog k raw) ∧ ReadEnds (F.prog k raw) k n raw 0 ∧ OthEq (F.prog k raw).bs F.bs k n n ∧ (F.prog k raw).op = F.op + 1 ∧ (F.prog k raw).p = F.p ∧ (F.prog k raw).bs.length = F.bs.length ∧
    ((F.prog k raw).blk k).nx = n + 1 ∧ ((F.prog k raw).blk k).er = (F.blk k).er ∧ ((F.prog k raw).blk k).bad = false ∧ (F.prog k raw).off = false ∧ ProgEnds (F.prog k raw) k n raw Fl.zero 5 := by
  have hok := h.prog (k := k) (by omega) hk (by omega) hr
  obtain ⟨e1, e2, e3, e4⟩ := prog_off (k := k) (raw := raw) hf
  have hpl := h.plen hk
  have hbl : (F.prog k raw).blk k = (F.blk k).prog raw := by unfold Fl.blk; rw [e4, getD_set_eq _ _ _ _ hk]; rfl
  have hlen : (F.prog k raw).bs.length = F.bs.length := by rw [e4, List.length_set]
  have hat : ((F.blk k).prog raw).at n = raw := by
    show ((F.blk k).pg.set (F.blk k).nx.toNat raw).getD n ByteArray.empty = raw
    rw [hn, show ((n : Int)).toNat = n by omega, getD_set_eq _ _ _ _ (by omega)]
  have hnx : ((F.prog k raw).blk k).nx = n + 1 := by rw [hbl]; show (F.blk k).nx + 1 = _; rw [hn]
  have hbd : ((F.prog k raw).blk k).bad = false := by rw [hbl]; exact hb
  refine ⟨hok, ?_, ?_, by rw [e2, IntWalk.wrap64_in _ (by omega)], e3, hlen, hnx, by rw [hbl]; rfl, hbd, by rw [e1, hoff], .state hok hr (by rw [e1, hoff]) k n rfl rfl (by omega) (by omega) hbd (by rw [hnx]; omega)⟩
  · have := ReadEnds.full (block := k) (page := n) hok (by rw [e1, hoff]) k n rfl rfl (by omega) (by omega) (by rw [hbl, hat]; exact not_empty hr)
    rw [hbl, hat] at this
    exact this
  · rw [e4]
    refine othSet _ hk (by show ((F.blk k).pg.set _ _).length = _; rw [List.length_set]; rfl) fun t ht hc => ?_
    show ((F.blk k).pg.set (F.blk k).nx.toNat raw).getD t ByteArray.empty = _
    rw [hn, getD_set_ne _ _ _ _ _ (by omega)]
    rfl
theorem order_erase (h : FlOk F) (ho : 0 ≤ F.op ∧ F.op ≤ 1001) (hoff : F.off = false) (hf : F.fu ≠ 0) (hk : k < F.bs.length) (hnp : (n : Int) < F.p) (hb : (F.blk k).bad = false) (he : (F.blk k).er ≠ 1000) :
    EraEnds F k (F.erase k) 0 ∧ FlOk (F.erase k) ∧ ReadEnds (F.erase k) k n erasedB 0 ∧ OthEq (F.erase k).bs F.bs k 0 (F.p - 1) ∧ (F.erase k).bs.length = F.bs.length ∧ ((F.erase k).blk k).er = (F.blk k).er + 1 := by
  have hok := h.erase (k := k) (by omega) hk he
  have hpl := h.plen hk
  have e1 : (F.erase k).off = false := by show (if F.fu = 0 then true else F.off) = false; rw [if_neg hf, hoff]
  have e4 : (F.erase k).bs = F.bs.set k ((F.blk k).erase 91) := by unfold Fl.erase; rw [if_neg hf]; rfl
  have hlen : (F.erase k).bs.length = F.bs.length := by rw [e4, List.length_set]
  have hbl : (F.erase k).blk k = (F.blk k).erase 91 := by unfold Fl.blk; rw [e4, getD_set_eq _ _ _ _ hk]; rfl
  have hat : ((F.blk k).erase 91).at n = ByteArray.empty := by
    show (emptied (F.blk k).pg 91).getD n ByteArray.empty = _
    rw [emptied_at _ _ _ (by omega), if_pos (by omega)]
  have hc : F.code = 0 := by unfold Fl.code; rw [if_neg hf]
  refine ⟨hc ▸ EraEnds.done h hoff k rfl hk hb he, hok, .empty hok e1 k n rfl rfl (by omega) (by show (n : Int) < F.p; exact hnp) (by rw [hbl, hat]), ?_, hlen, by rw [hbl]; rfl⟩
  rw [e4]
  refine othSet _ hk (by show (emptied (F.blk k).pg 91).length = _; rw [emptied_length]; rfl) fun t ht hcc => ?_
  have ht2 : t < (F.blk k).pg.length := by
    have : t < (emptied (F.blk k).pg 91).length := ht
    rw [emptied_length] at this
    exact this
  omega
end
end Go.Proofs.Ytlmdpdidjldkpaa
/- ReadRaw, in the model and in the program: the contracts. -/
namespace Go.Proofs.Ytlmdpdidjldkpaa
open Go.RowKit
set_option linter.unusedVariables false
/-- A page of an array that is read. -/
theorem page_at {W : World} {lo hi n cap : Nat} {A : Option Addr} {L : List Blk} (h : BksIn W lo hi (.slice A n cap) L) {k m : Nat} (hk : k < n) (hm : m < (L.getD k Blk.zero).pg.length) :
    ∃ gb o b po pc, A = some ⟨gb, o, none⟩ ∧ gb < hi ∧ b < hi ∧ W.cell? ⟨gb, o + k * 4 + 3, none⟩ = some (.slice (some ⟨b, po, none⟩) (L.getD k Blk.zero).pg.length pc) ∧ W.cell? ⟨b, po + m, none⟩ = some (.string ((L.getD k Blk.zero).at m)) ∧ ((L.getD k Blk.zero).at m).size ≤ 9223372036854775807 := by
  obtain ⟨A', n', c', e, _, _, _, hx⟩ := h
  injection e with e1 e2 e3
  subst e1 e2 e3
  obtain ⟨gb, o, e, h1, h2, hy⟩ := hx (by omega)
  obtain ⟨pv, hp, hpg⟩ := hy k hk
  obtain ⟨A2, n2, c2, rfl, _, _, h5, h6, h7⟩ := hpg
  obtain ⟨b, po, rfl, h8, h9, hc⟩ := h7 (by omega)
  exact ⟨gb, o, b, po, c2, e, h2, h9, by rw [h5]; exact hp.2.2.2, hc m (by omega), h6 m (by omega)⟩
theorem empty_list : (ByteArray.empty : ByteArray).toList = [] := by rw [ByteArray.toList_eq]; rfl
set_option maxHeartbeats 1000000 in
theorem implRead_any (v : Value) (block page : Int) (F : Fl) (s : ByteArray) (c : Int) (w : World) (lo hi : Nat) (h : FlIn w lo hi v F) (hh : hi ≤ w.heap.size) (hE : ReadEnds F block page s c) (hl : FlLen F) :
    Calls Try.prog 8 #[v, .int .i64 block, .int .i64 page] w (PairPost s c w) := by
  obtain ⟨r, hr⟩ := prop_dec (FlOk F)
  obtain ⟨u, rfl, hb⟩ := h
  have hv : ∀ W : World, BksIn W lo hi u F.bs → FlIn W lo hi (.agg (flc F u)) F := fun W a => ⟨u, rfl, a⟩
  have HV := Lib.hid (fun (W : World) (a : BksIn W lo hi u F.bs) (c : hi ≤ W.heap.size) => implValid_any (.agg (flc F u)) F r W lo hi (hv W a) c hr hl)
  have H := Lib.hid hb
  have hbl : ∃ A n c, u = .slice A n c ∧ F.bs.length = n := by obtain ⟨A, n, c, e, _, _, h, _⟩ := hb; exact ⟨A, n, c, e, h⟩
  obtain ⟨Au, nu, cu, rfl, hlen⟩ := hbl
  clear hb hv hl
  have hFl : flc F (.slice Au nu cu) = #[.int .i64 F.d, .int .i64 F.b, .int .i64 F.p, .slice Au nu cu, .int .i64 F.fu, .int .i64 F.ke, .bool F.off, .int .i64 F.op] := rfl
  rw [hFl] at HV ⊢
  have R0 := Lib.hid (Rw.new w 28 #[.int .i64 F.d, .int .i64 F.b, .int .i64 F.p, .slice Au nu cu, .int .i64 F.fu, .int .i64 F.ke, .bool F.off, .int .i64 F.op])
  have B0 := Lib.hid ((Below.refl w.heap.size w).alloc (Nat.le_refl _) (.cells #[.int .i64 F.d, .int .i64 F.b, .int .i64 F.p, .slice Au nu cu, .int .i64 F.fu, .int .i64 F.ke, .bool F.off, .int .i64 F.op] 28))
  clear hFl
  have HE := Lib.hid hE
  have HLN := Lib.hid hlen
  have HP16 := Lib.hid (fun (h : FlOk F) => h.1.p16)
  have HPL := Lib.hid (fun (h : FlOk F) (i : Nat) (hi : i < F.bs.length) => h.plen hi)
  have HLE := Lib.hid (fun (h : FlOk F) => h.len)
  have HHP := Lib.hid (fun (W : World) (r : Bool) (c2 : W.cell? ⟨w.heap.size, 2, none⟩ = some (.int .i64 F.p)) (c3 : W.cell? ⟨w.heap.size, 3, none⟩ = some (.slice Au nu cu)) (hn : nu ≤ 1000) (hr : r = true ↔ ((0 ≤ block ∧ block < (nu : Int)) ∧ (0 ≤ page ∧ page < F.p))) => hasPage_any w.heap.size Au nu cu F.p block page r W c2 c3 hn hr)
  clear hE hlen
  generalize hoff : F.off = off at *
  have HOF := Lib.hid hoff
  clear hoff
  go_enter Try.func8, Try.ntmps8
  go_wp2_with fail
  refine (HV.out _ (H.out.same (sm B0.out lo hh)) (by simp; omega)).mono ?_
  rintro e w1 ⟨rfl, b1⟩
  have S0 := Lib.hid (R0.out.below b1 (by simp))
  have B1 := Lib.hid (B0.out.trans (b1.mono (by simp)))
  have hsz1 := b1.size
  simp only [World.size_alloc] at hsz1
  obtain ⟨a0, a1, a2, a3, a4, a5, a6, a7⟩ := S0.out.eight
  clear b1
  rcases HE.out with hno | ⟨hok, h1⟩ | ⟨hok, h1, h2⟩ | ⟨hok, h1, k, m, rfl, rfl, hkl, hnp, h2⟩ | ⟨hok, h1, k, m, rfl, rfl, hkl, hnp, h2⟩
  · obtain rfl : r = false := (bool_of r hr).2 hno
    clear hr hno
    go_wp2
    go_ret2
    exact ⟨rfl, B1.out⟩
  all_goals
    obtain rfl : r = true := hr.2 hok
    rw [HOF.out] at h1
    subst h1
    have hl9 := HLE.out hok
    have hp9 := HP16.out hok
    rw [HLN.out] at hl9
    clear hr
  · clear hok hp9
    go_wp2
    go_ret2
    exact ⟨rfl, B1.out⟩
  · have HF := Lib.hid (HHP.out w1 false a2 a3 (by omega) (by
      rw [HLN.out] at h2
      simp only [Bool.false_eq_true, false_iff]
      rintro ⟨a, b⟩
      rcases h2 with h2 | h2 <;> contradiction))
    clear hok h2 hp9
    go_wp2_with fail
    refine HF.out.mono ?_
    rintro e w' ⟨rfl, rfl⟩
    go_wp2
    go_ret2
    exact ⟨rfl, B1.out⟩
  · have HF := Lib.hid (HHP.out w1 true a2 a3 (by omega) (by rw [HLN.out] at hkl; simp; omega))
    have hpl := HPL.out hok k hkl
    rw [HLN.out] at hkl
    obtain ⟨gb, o, b, po, pc, rfl, hg1, hb1, q3, cp, hcs⟩ := page_at (H.out.same (sm B1.out lo hh)) (m := m) hkl (by show m < (F.blk k).pg.length; omega)
    change w1.cell? ⟨gb, o + k * 4 + 3, none⟩ = some (.slice (some ⟨b, po, none⟩) (F.blk k).pg.length pc) at q3
    change w1.cell? ⟨b, po + m, none⟩ = some (.string ((F.blk k).at m)) at cp
    change ((F.blk k).at m).size ≤ _ at hcs
    have hki : (k : Int) < (nu : Int) := by omega
    have hmi : (m : Int) < ((F.blk k).pg.length : Int) := by omega
    have hP16 : ((F.blk k).pg.length : Int) ≤ 16 := by omega
    have hnu : (nu : Int) ≤ 36 := by omega
    generalize (F.blk k).pg.length = P at *
    generalize (F.blk k).at m = y at *
    subst h2
    have hyl := empty_list
    have HEr := Lib.hid (fun (W : World) => implErased_any W)
    have h9 := fillB_size 255 91
    clear hok hpl hp9 hl9
    go_wp2_with fail
    refine HF.out.mono ?_
    rintro e w' ⟨rfl, rfl⟩
    go_wp2_with fail
    refine (HEr.out _).mono ?_
    rintro e w2 ⟨rfl, b2⟩
    have B2 := Lib.hid (B1.out.trans (b2.mono (by omega)))
    clear b2
    go_wp2
    go_ret2
    exact ⟨rfl, B2.out⟩
  · have HF := Lib.hid (HHP.out w1 true a2 a3 (by omega) (by rw [HLN.out] at hkl; simp; omega))
    have hpl := HPL.out hok k hkl
    rw [HLN.out] at hkl
    obtain ⟨gb, o, b, po, pc, rfl, hg1, hb1, q3, cp, hcs⟩ := page_at (H.out.same (sm B1.out lo hh)) (m := m) hkl (by show m < (F.blk k).pg.length; omega)
    change w1.cell? ⟨gb, o + k * 4 + 3, none⟩ = some (.slice (some ⟨b, po, none⟩) (F.blk k).pg.length pc) at q3
    change w1.cell? ⟨b, po + m, none⟩ = some (.string ((F.blk k).at m)) at cp
    change ((F.blk k).at m).size ≤ _ at hcs
    have hki : (k : Int) < (nu : Int) := by omega
    have hmi : (m : Int) < ((F.blk k).pg.length : Int) := by omega
    have hP16 : ((F.blk k).pg.length : Int) ≤ 16 := by omega
    have hnu : (nu : Int) ≤ 36 := by omega
    generalize (F.blk k).pg.length = P at *
    generalize (F.blk k).at m = y at *
    have hne : y.size ≠ 0 := fun e => h2 (by apply ByteArray.ext; apply Array.eq_empty_of_size_eq_zero; exact e)
    obtain ⟨hn1, hn2⟩ := bytes_ne hne
    clear hok hpl hp9 hl9 h2
    go_wp2_with fail
    refine HF.out.mono ?_
    rintro e w' ⟨rfl, rfl⟩
    go_wp2
    go_ret2
    exact ⟨rfl, B1.out⟩
end Go.Proofs.Ytlmdpdidjldkpaa
/- Pages are programmed in order: the walk. -/
namespace Go.Proofs.Ytlmdpdidjldkpaa
open Go.RowKit
set_option linter.unusedVariables false
theorem prog_codes {F : Fl} {block page : Int} {raw : ByteArray} {G : Fl} {c : Int} (h : ProgEnds F block page raw G c) :
    (c = 0 ∧ FlOk F ∧ raw.size = 91 ∧ F.off = false ∧ F.fu ≠ 0 ∧ ∃ k n : Nat, block = k ∧ page = n ∧ k < F.bs.length ∧ (n : Int) < F.p ∧ (F.blk k).bad = false ∧ (F.blk k).nx = n ∧ G = F.prog k raw) ∨ c = 8 ∨ ((c ≠ 0 ∧ c ≠ 8) ∧ G.bs = []) := by
  rcases h with _ | _ | _ | _ | _ | ⟨h, hr, h1, k, n, hk, hn, hkl, hnp, h2, h3⟩
  · exact .inr (.inr ⟨by omega, rfl⟩)
  · exact .inr (.inl rfl)
  · exact .inr (.inr ⟨by omega, rfl⟩)
  · exact .inr (.inr ⟨by omega, rfl⟩)
  · exact .inr (.inr ⟨by omega, rfl⟩)
  · by_cases hf : F.fu = 0
    · exact .inr (.inl (by unfold Fl.code; rw [if_pos hf]))
    · exact .inl ⟨by unfold Fl.code; rw [if_neg hf], h, hr, h1, hf, k, n, hk, hn, hkl, by omega, h2, by omega, rfl⟩
/-- Two arrays, each in a variable's block. -/
def FoSt (F G : Fl) (A : Option Addr) (nb cb : Nat) (Ay : Option Addr) (ny cy f x : Nat) (w wx : World) : Prop := Rw wx f 28 #[.int .i64 F.d, .int .i64 F.b, .int .i64 F.p, .slice A nb cb, .int .i64 F.fu, .int .i64 F.ke, .bool F.off, .int .i64 F.op] ∧ Rw wx x 28 #[.int .i64 G.d, .int .i64 G.b, .int .i64 G.p, .slice Ay ny cy, .int .i64 G.fu, .int .i64 G.ke, .bool G.off, .int .i64 G.op] ∧ FlIn wx 0 wx.heap.size (.agg #[.int .i64 F.d, .int .i64 F.b, .int .i64 F.p, .slice A nb cb, .int .i64 F.fu, .int .i64 F.ke, .bool F.off, .int .i64 F.op]) F ∧ FlIn wx 0 wx.heap.size (.agg #[.int .i64 G.d, .int .i64 G.b, .int .i64 G.p, .slice Ay ny cy, .int .i64 G.fu, .int .i64 G.ke, .bool G.off, .int .i64 G.op]) G ∧ Below w.heap.size w wx
section
variable {F G : Fl} {A : Option Addr} {nb cb : Nat} {Ay : Option Addr} {ny cy f x : Nat} {w wx wy : World}
theorem FoSt.below (h : FoSt F G A nb cb Ay ny cy f x w wx) (b : Below wx.heap.size wx wy) : FoSt F G A nb cb Ay ny cy f x w wy := by
  obtain ⟨h1, h2, h3, h4, h5⟩ := h
  exact ⟨h1.below b h1.lt, h2.below b h2.lt, (h3.same (sm b _ (Nat.le_refl _))).wide (Nat.le_refl _) b.size, (h4.same (sm b _ (Nat.le_refl _))).wide (Nat.le_refl _) b.size, h5.trans (b.mono h5.size)⟩
theorem FoSt.alloc (h : FoSt F G A nb cb Ay ny cy f x w wx) (o : Obj) : FoSt F G A nb cb Ay ny cy f x w (wx.alloc o) := h.below ((Below.refl _ _).alloc (Nat.le_refl _) _)
end
/-- A block's number of the next page and of erases, as they lie in memory. -/
theorem FlIn.heads {w : World} {lo hi : Nat} {F : Fl} {d b p fu ke op : Int} {off : Bool} {A : Option Addr} {n c : Nat} (h : FlIn w lo hi (.agg #[.int .i64 d, .int .i64 b, .int .i64 p, .slice A n c, .int .i64 fu, .int .i64 ke, .bool off, .int .i64 op]) F) :
    F.bs.length = n ∧ ∀ k, k < n → ∃ g o, A = some ⟨g, o, none⟩ ∧ g < hi ∧ w.cell? ⟨g, o + k * 4, none⟩ = some (.int .i64 (F.blk k).er) ∧ w.cell? ⟨g, o + k * 4 + 1, none⟩ = some (.int .i64 (F.blk k).nx) := by
  obtain ⟨u, e, A', n', c', rfl, h1, h2, h3, h4⟩ := h
  unfold flc at e
  injection e with e
  simp only [Array.mk.injEq, List.cons.injEq, Value.slice.injEq] at e
  obtain ⟨-, -, -, ⟨rfl, rfl, rfl⟩, -⟩ := e
  refine ⟨h3, fun k hk => ?_⟩
  obtain ⟨g, o, rfl, _, h5, h6⟩ := h4 (by omega)
  obtain ⟨pv, h7, _⟩ := h6 k hk
  exact ⟨g, o, rfl, h5, h7.1, h7.2.1⟩
set_option maxHeartbeats 4000000 in
set_option maxRecDepth 100000 in
theorem fo_any (a0 : Option Addr) (len0 cap0 : Nat) (z0 : List Int) (a1 : Option Addr) (len1 cap1 : Nat) (z1 : List Int) (w : World) (w0 : IsRow .u8 w a0 len0 cap0 z0) (w1 : IsRow .u8 w a1 len1 cap1 z1) :
    Calls Try.prog 3 #[.slice a0 len0 cap0, .slice a1 len1 cap1] w fun e w' => e = .returned (.bool true) ∧ Below w.heap.size w w' := by
  have b0 := w0.len
  have b1 := w1.len
  by_cases hl : len0 ≤ 1048576 ∧ len1 ≤ 1048576
  · obtain ⟨hl0, hl1⟩ := hl
    have hc0 := w0.code hl0
    have HL := Lib.hid (show Calls Try.prog 5 #[.slice a0 len0 cap0, .slice a1 len1 cap1] w fun e w' => e = .returned (.bool false) ∧ w = w' from long_no _ _ _ _ _ _ _ hl0 hl1)
    have HD := Lib.hid (drawPg_any w _ hc0)
    clear w0 w1 hc0 hl0 hl1 b0 b1
    go_enter Try.func3, Try.ntmps3
    go_wp2_with fail
    refine HL.out.mono ?_
    rintro e w' ⟨rfl, rfl⟩
    go_wp2_with fail
    refine HD.out.mono ?_
    rintro e w1 ⟨v, F, block, page, raw, rfl, ⟨u, rfl, hb⟩, hbent, hraw, b1⟩
    obtain ⟨A, nb, cb, rfl⟩ := hb.slice
    unfold flc
    have hz1 := b1.size
    have f1 : FlIn (w1.alloc (.cells #[.int .i64 F.d, .int .i64 F.b, .int .i64 F.p, .slice A nb cb, .int .i64 F.fu, .int .i64 F.ke, .bool F.off, .int .i64 F.op] 28)) w.heap.size w1.heap.size (.agg (flc F (.slice A nb cb))) F := ⟨_, rfl, hb.same (sm ((Below.refl w1.heap.size _).alloc (Nat.le_refl _) (.cells #[.int .i64 F.d, .int .i64 F.b, .int .i64 F.p, .slice A nb cb, .int .i64 F.fu, .int .i64 F.ke, .bool F.off, .int .i64 F.op] 28)) _ (Nat.le_refl _))⟩
    have r1 := Rw.new w1 28 #[.int .i64 F.d, .int .i64 F.b, .int .i64 F.p, .slice A nb cb, .int .i64 F.fu, .int .i64 F.ke, .bool F.off, .int .i64 F.op]
    have bb1 := b1.alloc hz1 (.cells #[.int .i64 F.d, .int .i64 F.b, .int .i64 F.p, .slice A nb cb, .int .i64 F.fu, .int .i64 F.ke, .bool F.off, .int .i64 F.op] 28)
    obtain ⟨G, c, hG⟩ := progEnds F block page raw
    have HP := Lib.hid (implProg_any _ block page raw F G c _ _ _ f1 (by simp) hG hbent.lens (by omega))
    have F1 := Lib.hid f1
    have R1 := Lib.hid r1
    have B1 := Lib.hid bb1
    have HG := Lib.hid hG
    have BENT := Lib.hid hbent
    have hrs : raw.size ≤ 400 := hraw
    obtain ⟨d0, d1, d2, d3, d4, d5, d6, d7⟩ := r1.eight
    unfold flc at HP
    clear HL HD hb hbent hraw b1 f1 r1 bb1 hG
    go_wp2_with fail
    refine HP.out.mono ?_
    rintro e w2 ⟨y, rfl, ⟨uy, rfl, hby⟩, b2⟩
    obtain ⟨Ay, ny, cy, rfl⟩ := hby.slice
    unfold flc
    have hz2 := b2.size
    simp only [World.size_alloc] at hz2 b2 hby
    have hny : G.bs.length = ny := by obtain ⟨_, _, _, e, _, _, h, _⟩ := hby; injection e with _ e _; omega
    obtain ⟨f, hf⟩ : ∃ f, f = w1.heap.size := ⟨_, rfl⟩
    have R2 := Lib.hid ((R1.out.below b2 (by omega)).alloc (.cells #[.int .i64 G.d, .int .i64 G.b, .int .i64 G.p, .slice Ay ny cy, .int .i64 G.fu, .int .i64 G.ke, .bool G.off, .int .i64 G.op] 28))
    have F2 := Lib.hid ((F1.out.same (sm b2 _ (by omega))).same (sm ((Below.refl w2.heap.size _).alloc (Nat.le_refl _) (.cells #[.int .i64 G.d, .int .i64 G.b, .int .i64 G.p, .slice Ay ny cy, .int .i64 G.fu, .int .i64 G.ke, .bool G.off, .int .i64 G.op] 28)) _ (by omega)))
    have X2 := Lib.hid (Rw.new w2 28 #[.int .i64 G.d, .int .i64 G.b, .int .i64 G.p, .slice Ay ny cy, .int .i64 G.fu, .int .i64 G.ke, .bool G.off, .int .i64 G.op])
    have Y2 := Lib.hid (show FlIn (w2.alloc (.cells #[.int .i64 G.d, .int .i64 G.b, .int .i64 G.p, .slice Ay ny cy, .int .i64 G.fu, .int .i64 G.ke, .bool G.off, .int .i64 G.op] 28)) (w1.heap.size + 1) w2.heap.size (.agg (flc G (.slice Ay ny cy))) G from ⟨_, rfl, hby.reads.same (sm ((Below.refl w2.heap.size _).alloc (Nat.le_refl _) (.cells #[.int .i64 G.d, .int .i64 G.b, .int .i64 G.p, .slice Ay ny cy, .int .i64 G.fu, .int .i64 G.ke, .bool G.off, .int .i64 G.op] 28)) _ (Nat.le_refl _))⟩)
    have B2 := Lib.hid ((B1.out.trans (b2.mono (by omega))).alloc (by omega) (.cells #[.int .i64 G.d, .int .i64 G.b, .int .i64 G.p, .slice Ay ny cy, .int .i64 G.fu, .int .i64 G.ke, .bool G.off, .int .i64 G.op] 28))
    have HNY := Lib.hid hny
    clear R1 F1 B1 HP b2 hby hny d0 d1 d2 d3 d4 d5 d6 d7
    rcases prog_codes HG.out with ⟨rfl, hok, hr91, hoff, hfu, k, n, rfl, rfl, hkl, hnp, hbad, hnx, hGe⟩ | rfl | ⟨⟨hc0, hc8⟩, hGz⟩
    · have hop := hok.2.2.2.2.2
      have hbl := BENT.out.lens
      have hz1f : f < w2.heap.size := by omega
      have S2 := Lib.hid (show FoSt F G A nb cb Ay ny cy f w2.heap.size w (w2.alloc (.cells #[.int .i64 G.d, .int .i64 G.b, .int .i64 G.p, .slice Ay ny cy, .int .i64 G.fu, .int .i64 G.ke, .bool G.off, .int .i64 G.op] 28)) from ⟨by rw [hf]; exact R2.out, X2.out, F2.out.wide (Nat.zero_le _) (by simp; omega), Y2.out.wide (Nat.zero_le _) (by simp), B2.out⟩)
      obtain ⟨g1, g2, g3, g4, g5, g6, g7, g8, g9, g10, g11⟩ := order_prog (k := k) (n := n) hok ⟨hop, by have := BENT.out.2.2; omega⟩ hoff hfu hkl hnp hnx hbad hr91
      rw [← hGe] at g1 g2 g3 g4 g5 g6 g7 g8 g9 g10 g11
      have hGl := g1.lens
      have HRD := Lib.hid (fun (W : World) (S : FoSt F G A nb cb Ay ny cy f w2.heap.size w W) => implRead_any _ (k : Int) (n : Int) G raw 0 W _ _ S.2.2.2.1 (Nat.le_refl _) g2 hGl)
      have HVA := Lib.hid (fun (W : World) (S : FoSt F G A nb cb Ay ny cy f w2.heap.size w W) => specValid_any _ G true W _ _ S.2.2.2.1 (Nat.le_refl _) (by simp [g1]) hGl)
      have HOT := Lib.hid (fun (W : World) (S : FoSt F G A nb cb Ay ny cy f w2.heap.size w W) => others_any _ _ G F (k : Int) (n : Int) (n : Int) W _ _ _ _ S.2.2.2.1 S.2.2.1 (Nat.le_refl _) (Nat.le_refl _) g3 hGl)
      have HPR := Lib.hid (fun (W : World) (S : FoSt F G A nb cb Ay ny cy f w2.heap.size w W) => implProg_any _ (k : Int) (n : Int) raw G Fl.zero 5 W _ _ S.2.2.2.1 (Nat.le_refl _) g11 hGl (by omega))
      have HG1 := Lib.hid g1
      have HOP := Lib.hid (show G.op = F.op + 1 ∧ 0 ≤ F.op ∧ F.op ≤ 8 from ⟨g4, hop, BENT.out.2.2.2⟩)
      have HNX := Lib.hid (show (F.blk k).nx = n ∧ (G.blk k).nx = n + 1 ∧ (G.blk k).er = (F.blk k).er ∧ (G.blk k).bad = false ∧ G.off = false ∧ G.p = F.p ∧ G.bs.length = F.bs.length from ⟨hnx, g7, g8, g9, g10, g5, g6⟩)
      have hnb : F.bs.length = nb := (S2.out.2.2.1.heads).1
      have hnk : (n : Int) < 16 := by have := hok.1.p16; omega
      have hkb : k < nb := by omega
      have hnb2 : nb ≤ 36 := by have := hok.len; omega
      have hwn : IntKind.i64.wrap ((n : Int) + 1) = (n : Int) + 1 := IntWalk.i64_in _ (by omega)
      have hxs := str_same (rfl : raw = raw)
      have HNY := Lib.hid (show ny = nb by have := HNY.out; omega)
      have HFP := Lib.hid (And.intro hok hnp)
      obtain ⟨d0, d1, d2, d3, d4, d5, d6, d7⟩ := S2.out.2.1.eight
      clear R2 X2 F2 Y2 B2 HG BENT hGe hop hbl g1 g2 g3 g4 g5 g6 g7 g8 g9 g10 g11 hok hnp hnx hbad hkl hnb hGl hr91 hoff hfu hz1f
      rw [← hf]
      clear hf hz1 hz2
      go_wp2_with fail
      clear d0 d1 d2 d3 d4 d5 d6 d7
      obtain ⟨x, hx⟩ : ∃ x, x = w2.heap.size := ⟨_, rfl⟩
      rw [← hx] at S2 HRD HVA HOT HPR ⊢
      clear hx
      refine (HRD.out _ S2.out).mono ?_
      rintro e w3 ⟨rfl, b3⟩
      have S3 := Lib.hid (S2.out.below b3)
      clear S2 b3 HRD
      obtain ⟨d0, d1, d2, d3, d4, d5, d6, d7⟩ := S3.out.2.1.eight
      go_wp2_with fail
      clear d0 d1 d2 d3 d4 d5 d6 d7
      refine (HVA.out _ S3.out).mono ?_
      rintro e w4 ⟨rfl, b4⟩
      have S4 := Lib.hid (S3.out.below b4)
      clear S3 b4 HVA
      obtain ⟨d0, d1, d2, d3, d4, d5, d6, d7⟩ := S4.out.2.1.eight
      obtain ⟨e0, e1, e2, e3, e4, e5, e6, e7⟩ := S4.out.1.eight
      go_wp2_with fail
      clear d0 d1 d2 d3 d4 d5 d6 d7 e0 e1 e2 e3 e4 e5 e6 e7
      refine (HOT.out _ S4.out).mono ?_
      rintro e w5 ⟨rfl, b5⟩
      have S5 := Lib.hid (S4.out.below b5)
      clear S4 b5 HOT
      have hny := HNY.out
      clear HNY
      subst hny
      obtain ⟨gy, oy, rfl, hgy, -, r1⟩ := (S5.out.2.2.2.1.heads).2 k hkb
      rw [HNX.out.2.1] at r1
      obtain ⟨d0, d1, d2, d3, d4, d5, d6, d7⟩ := S5.out.2.1.eight
      obtain ⟨e0, e1, e2, e3, e4, e5, e6, e7⟩ := S5.out.1.eight
      rw [HOP.out.1] at d7
      have hki : (k : Int) < (ny : Int) := by omega
      have hkj : ¬ (ny : Int) ≤ (k : Int) := by omega
      have hop0 := HOP.out.2.1
      have hop8 := HOP.out.2.2
      have hwo : IntKind.i64.wrap (F.op + 1) = F.op + 1 := IntWalk.i64_in _ (by omega)
      have q1 : (((n : Int) + 1) != ((n : Int) + 1)) = false := by simp
      have q2 : ((F.op + 1) != (F.op + 1)) = false := by simp
      go_upto_if 104 with fail
      clear d0 d1 d2 d3 d4 d5 d6 d7 e0 e1 e2 e3 e4 e5 e6 e7 r1 q1 q2 hwo hwn hki hkj hop0 hop8
      obtain ⟨d0, d1, d2, d3, d4, d5, d6, d7⟩ := S5.out.2.1.eight
      by_cases hfz : G.fu = 0
      · rw [hfz] at d4
        clear hfz
        clear d0 d1 d2 d3 d5 d6 d7
        go_wp2
        go_ret
        exact ⟨rfl, S5.out.2.2.2.2⟩
      · have hfb : (G.fu == 0) = false := by simp [hfz]
        have HFZ := Lib.hid hfz
        clear hfz
        go_wp2_with fail
        refine (HPR.out _ S5.out).mono ?_
        rintro e w6 ⟨z, rfl, ⟨uz, rfl, hz⟩, b6⟩
        obtain ⟨Az, nz, cz, rfl⟩ := hz.slice
        unfold flc Fl.zero
        dsimp only
        have S6 := Lib.hid ((S5.out.below b6).alloc (.cells #[.int .i64 0, .int .i64 0, .int .i64 0, .slice Az nz cz, .int .i64 0, .int .i64 0, .bool false, .int .i64 0] 28))
        clear S5 b6 hz HPR d0 d1 d2 d3 d4 d5 d6 d7 hfb
        obtain ⟨d0, d1, d2, d3, d4, d5, d6, d7⟩ := S6.out.2.1.eight
        have hnx := HNX.out
        have hgl := HG1.out.lens
        have hok := HG1.out
        have hkl : k < G.bs.length := by have := (S6.out.2.2.2.1.heads).1; omega
        by_cases her : (G.blk k).er = 1000
        · have HER := Lib.hid (implEra_any _ (k : Int) G Fl.zero 7 _ _ _ S6.out.2.2.2.1 (Nat.le_refl _) (.bad hok hnx.2.2.2.2.1 k rfl hkl (.inr her)) hgl)
          have HEF := Lib.hid (hnx.2.2.1.symm.trans her)
          clear her hnx hgl hok hkl
          go_wp2_with fail
          refine HER.out.mono ?_
          rintro e w7 ⟨y, rfl, ⟨uy, rfl, hy⟩, b7⟩
          obtain ⟨Ay, ny7, cy7, rfl⟩ := hy.slice
          unfold flc Fl.zero
          dsimp only
          have S7 := Lib.hid ((S6.out.below b7).alloc (.cells #[.int .i64 0, .int .i64 0, .int .i64 0, .slice Ay ny7 cy7, .int .i64 0, .int .i64 0, .bool false, .int .i64 0] 28))
          clear S6 b7 hy HER d0 d1 d2 d3 d4 d5 d6 d7
          obtain ⟨gf, of, rfl, hgf, r0, -⟩ := (S7.out.2.2.1.heads).2 k hkb
          rw [HEF.out] at r0
          obtain ⟨e0, e1, e2, e3, e4, e5, e6, e7⟩ := S7.out.1.eight
          have hki : (k : Int) < (ny : Int) := by omega
          go_wp2
          go_ret
          exact ⟨rfl, S7.out.2.2.2.2⟩
        · have hop := HOP.out
          have hfp := HFP.out
          obtain ⟨q1, q2, q3, q4, q5, q6⟩ := order_erase (F := G) (k := k) (n := n) hok ⟨by omega, by omega⟩ hnx.2.2.2.2.1 HFZ.out hkl (by rw [hnx.2.2.2.2.2.1]; exact hfp.2) hnx.2.2.2.1 her
          have hbz := (hok.1.p16)
          obtain ⟨Z, hZ⟩ : ∃ Z, Z = G.erase k := ⟨_, rfl⟩
          rw [← hZ] at q1 q2 q3 q4 q5 q6
          have hzl := q2.lens
          have HER := Lib.hid (implEra_any _ (k : Int) G Z 0 _ _ _ S6.out.2.2.2.1 (Nat.le_refl _) q1 hgl)
          have HE6 := Lib.hid (show (Z.blk k).er = (F.blk k).er + 1 by rw [q6, hnx.2.2.1])
          have HEI := Lib.hid (hok.2.2.1 k hkl)
          obtain ⟨eB, heB⟩ : ∃ s, s = erasedB := ⟨_, rfl⟩
          have HIE := Lib.hid (fun (W : World) => implIsErased_any eB true W (by rw [heB, erasedB_size]; omega) (by simp [heB]))
          rw [← heB] at q3
          clear heB
          have HPP := Lib.hid (show G.p = F.p ∧ 8 ≤ F.p ∧ F.p ≤ 16 by rw [← hnx.2.2.2.2.2.1]; exact ⟨rfl, hbz⟩)
          have Q3 := Lib.hid q3
          have Q4 := Lib.hid q4
          have HZL := Lib.hid hzl
          have HNZ := Lib.hid (show Z.bs.length = ny by have := (S6.out.2.2.2.1.heads).1; omega)
          have HERE := Lib.hid (show 0 ≤ (F.blk k).er ∧ (F.blk k).er ≤ 1000 by have := (HEI.out).1; rw [hnx.2.2.1] at this; exact this)
          clear hop hfp q1 q2 q3 q4 q5 q6 hZ hzl hnx hgl hok hkl her hbz HEI
          go_wp2_with fail
          refine HER.out.mono ?_
          rintro e w7 ⟨y, rfl, ⟨uw, rfl, hw⟩, b7⟩
          obtain ⟨Aw, nw, cw, rfl⟩ := hw.slice
          unfold flc
          have hsz7 := b7.size
          have s7 := (S6.out.below b7).alloc (.cells #[.int .i64 Z.d, .int .i64 Z.b, .int .i64 Z.p, .slice Aw nw cw, .int .i64 Z.fu, .int .i64 Z.ke, .bool Z.off, .int .i64 Z.op] 28)
          have S7 := Lib.hid s7
          have T7 := Lib.hid (show FoSt G Z (some ⟨gy, oy, none⟩) ny cy Aw nw cw x w7.heap.size w (w7.alloc (.cells #[.int .i64 Z.d, .int .i64 Z.b, .int .i64 Z.p, .slice Aw nw cw, .int .i64 Z.fu, .int .i64 Z.ke, .bool Z.off, .int .i64 Z.op] 28)) from ⟨s7.2.1, Rw.new _ _ _, s7.2.2.2.1, ⟨_, rfl, (hw.reads.same (sm ((Below.refl w7.heap.size _).alloc (Nat.le_refl _) _) _ (Nat.le_refl _))).wide (Nat.zero_le _) (by simp)⟩, s7.2.2.2.2⟩)
          obtain ⟨c0, c1, c2, c3, c4, c5, c6, c7⟩ := T7.out.2.1.eight
          clear S6 b7 hw HER d0 d1 d2 d3 d4 d5 d6 d7 s7
          have HRZ := Lib.hid (fun (W : World) (T : FoSt G Z (some ⟨gy, oy, none⟩) ny cy Aw nw cw x w7.heap.size w W) => implRead_any _ (k : Int) (n : Int) Z eB 0 W _ _ T.2.2.2.1 (Nat.le_refl _) Q3.out HZL.out)
          go_wp2_with fail
          clear c0 c1 c2 c3 c4 c5 c6 c7
          obtain ⟨zb, hzb⟩ : ∃ zb, zb = w7.heap.size := ⟨_, rfl⟩
          rw [← hzb] at T7 HRZ ⊢
          clear hzb hsz7
          refine (HRZ.out _ T7.out).mono ?_
          rintro e w8 ⟨rfl, b8⟩
          have S8 := Lib.hid (S7.out.below b8)
          have T8 := Lib.hid (T7.out.below b8)
          clear S7 T7 b8 HRZ Q3
          obtain ⟨gz, oz, rfl, hgz, zr, -⟩ := (T8.out.2.2.2.1.heads).2 k (by have := HNZ.out; have := (T8.out.2.2.2.1.heads).1; omega)
          obtain ⟨gf, of, rfl, hgf, fr, -⟩ := (S8.out.2.2.1.heads).2 k hkb
          have hnw : nw = ny := by have := HNZ.out; have := (T8.out.2.2.2.1.heads).1; omega
          subst hnw
          have HCA := Lib.hid (fun (W : World) (B : Below w8.heap.size w8 W) => others_any _ _ Z G (k : Int) 0 (G.p - 1) W _ _ _ _ (T8.out.below B).2.2.2.1 (T8.out.below B).2.2.1 (Nat.le_refl _) (Nat.le_refl _) Q4.out HZL.out)
          have HERR := HERE.out
          have hpp := HPP.out
          rw [HE6.out] at zr
          have hk5 := HPP.out.1
          have TB := Lib.hid zr
          have FB := Lib.hid fr
          have KP := Lib.hid (fun (W : World) (B : Below w8.heap.size w8 W) => (show W.cell? ⟨zb, 0, none⟩ = some (.int .i64 Z.d) ∧ W.cell? ⟨zb, 1, none⟩ = some (.int .i64 Z.b) ∧ W.cell? ⟨zb, 2, none⟩ = some (.int .i64 Z.p) ∧ W.cell? ⟨zb, 3, none⟩ = some (.slice (some ⟨gz, oz, none⟩) nw cw) ∧ W.cell? ⟨zb, 4, none⟩ = some (.int .i64 Z.fu) ∧ W.cell? ⟨zb, 5, none⟩ = some (.int .i64 Z.ke) ∧ W.cell? ⟨zb, 6, none⟩ = some (.bool Z.off) ∧ W.cell? ⟨zb, 7, none⟩ = some (.int .i64 Z.op) ∧ W.cell? ⟨x, 0, none⟩ = some (.int .i64 G.d) ∧ W.cell? ⟨x, 1, none⟩ = some (.int .i64 G.b) ∧ W.cell? ⟨x, 2, none⟩ = some (.int .i64 G.p) ∧ W.cell? ⟨x, 3, none⟩ = some (.slice (some ⟨gy, oy, none⟩) nw cy) ∧ W.cell? ⟨x, 4, none⟩ = some (.int .i64 G.fu) ∧ W.cell? ⟨x, 5, none⟩ = some (.int .i64 G.ke) ∧ W.cell? ⟨x, 6, none⟩ = some (.bool G.off) ∧ W.cell? ⟨x, 7, none⟩ = some (.int .i64 G.op) ∧ W.cell? ⟨f, 3, none⟩ = some (.slice (some ⟨gf, of, none⟩) nw cb) ∧ W.cell? ⟨gz, oz + k * 4, none⟩ = some (.int .i64 ((F.blk k).er + 1)) ∧ W.cell? ⟨gf, of + k * 4, none⟩ = some (.int .i64 (F.blk k).er) from by
            obtain ⟨x0, x1, x2, x3, x4, x5, x6, x7⟩ := (T8.out.below B).1.eight
            obtain ⟨z0, z1, z2, z3, z4, z5, z6, z7⟩ := (T8.out.below B).2.1.eight
            obtain ⟨f0, f1, f2, f3, f4, f5, f6, f7⟩ := (S8.out.below B).1.eight
            exact ⟨z0, z1, z2, z3, z4, z5, z6, z7, x0, x1, x2, x3, x4, x5, x6, x7, f3, (B.cell (p := ⟨gz, oz + k * 4, none⟩) hgz).trans zr, (B.cell (p := ⟨gf, of + k * 4, none⟩) hgf).trans fr⟩))
          have hw1 : IntKind.i64.wrap (G.p - 1) = G.p - 1 := IntWalk.i64_in _ (by omega)
          have hw2 : IntKind.i64.wrap ((F.blk k).er + 1) = (F.blk k).er + 1 := IntWalk.i64_in _ (by omega)
          have hq : (((F.blk k).er + 1) == ((F.blk k).er + 1)) = true := by simp
          have hki : (k : Int) < (nw : Int) := by omega
          obtain ⟨er, her⟩ : ∃ er, er = (F.blk k).er := ⟨_, rfl⟩
          rw [← her] at KP hw2 hq
          clear zr fr TB FB HE6 her hpp HERR hk5
          go_wp2_with fail
          go_region_held3 (fun W => W.cell? ⟨zb, 0, none⟩ = some (.int .i64 Z.d) ∧ W.cell? ⟨zb, 1, none⟩ = some (.int .i64 Z.b) ∧ W.cell? ⟨zb, 2, none⟩ = some (.int .i64 Z.p) ∧ W.cell? ⟨zb, 3, none⟩ = some (.slice (some ⟨gz, oz, none⟩) nw cw) ∧ W.cell? ⟨zb, 4, none⟩ = some (.int .i64 Z.fu) ∧ W.cell? ⟨zb, 5, none⟩ = some (.int .i64 Z.ke) ∧ W.cell? ⟨zb, 6, none⟩ = some (.bool Z.off) ∧ W.cell? ⟨zb, 7, none⟩ = some (.int .i64 Z.op) ∧ W.cell? ⟨x, 0, none⟩ = some (.int .i64 G.d) ∧ W.cell? ⟨x, 1, none⟩ = some (.int .i64 G.b) ∧ W.cell? ⟨x, 2, none⟩ = some (.int .i64 G.p) ∧ W.cell? ⟨x, 3, none⟩ = some (.slice (some ⟨gy, oy, none⟩) nw cy) ∧ W.cell? ⟨x, 4, none⟩ = some (.int .i64 G.fu) ∧ W.cell? ⟨x, 5, none⟩ = some (.int .i64 G.ke) ∧ W.cell? ⟨x, 6, none⟩ = some (.bool G.off) ∧ W.cell? ⟨x, 7, none⟩ = some (.int .i64 G.op) ∧ W.cell? ⟨f, 3, none⟩ = some (.slice (some ⟨gf, of, none⟩) nw cb) ∧ W.cell? ⟨gz, oz + k * 4, none⟩ = some (.int .i64 (er + 1)) ∧ W.cell? ⟨gf, of + k * 4, none⟩ = some (.int .i64 er))
            (first
              | exact KP.out _ (Below.refl _ _).drew
              | exact KP.out _ hbI
              | exact KP.out _ hbO)
            (first
              | (go_at_call 12
                 refine (HIE.out _).mono ?_
                 rintro e wI ⟨rfl, hI⟩
                 have hbI : Below w8.heap.size w8 wI := (Below.refl w8.heap.size w8).drew.trans hI)
              | (go_at_call 10
                 refine (HCA.out _ hbI).mono ?_
                 rintro e wO ⟨rfl, hO⟩
                 have hbO : Below w8.heap.size w8 wO := hbI.trans (hO.mono hbI.size)))
          go_wp2
          go_ret
          exact ⟨rfl, T8.out.2.2.2.2.trans (hbO.mono T8.out.2.2.2.2.size)⟩
    · clear hf
      go_wp2
      go_ret
      exact ⟨rfl, B2.out⟩
    · have e0 : (c != 0) = true := by simp; omega
      have e8 : (c == 8) = false := by simp; omega
      have hn0 : ny = 0 := by have := HNY.out; rw [hGz] at this; simpa using this.symm
      subst hn0
      obtain ⟨x0, x1, x2, x3, x4, x5, x6, x7⟩ := X2.out.eight
      clear hf hGz HG HNY hc0 hc8
      go_wp2
      go_ret
      exact ⟨rfl, B2.out⟩
  · clear w0 w1
    go_enter Try.func3, Try.ntmps3
    go_wp2_with (go_at_call 5; refine (long_yes _ _ _ _ _ _ _ b0 b1 (by omega)).mono ?_; rintro e w' ⟨rfl, rfl⟩)
    go_ret
    exact ⟨rfl, Below.refl _ _⟩
end Go.Proofs.Ytlmdpdidjldkpaa
/- Plain facts: what an interrupted erase leaves, page by page. -/
namespace Go.Proofs.Ytlmdpdidjldkpaa
open Go.RowKit
set_option linter.unusedVariables false
theorem arm_codes {F : Fl} {ke : Int} {G : Fl} {c : Int} (h : ArmEnds F 0 ke G c) (hk : 0 ≤ ke ∧ ke ≤ 91) : (c = 0 ∧ FlOk F ∧ F.off = false ∧ G = F.arm 0 ke) ∨ c ≠ 0 := by
  rcases h with _ | _ | ⟨_, _, h⟩ | ⟨h, h1, _, _⟩
  · exact .inr (by omega)
  · exact .inr (by omega)
  · exact .inr (by omega)
  · exact .inl ⟨rfl, h, h1, rfl⟩
theorem FlOk.arm0 {F : Fl} (h : FlOk F) {ke : Int} (hk : 0 ≤ ke ∧ ke ≤ 91) : FlOk (F.arm 0 ke) := ⟨h.1, h.2.1, h.2.2.1, by show (-1 : Int) ≤ 0 ∧ (0 : Int) ≤ 1000000; omega, hk, h.2.2.2.2.2⟩
theorem FlOk.on {F : Fl} (h : FlOk F) : FlOk F.on := ⟨h.1, h.2.1, h.2.2.1, by show (-1 : Int) ≤ -1 ∧ (-1 : Int) ≤ 1000000; omega, h.2.2.2.2.1, h.2.2.2.2.2⟩
/-- An erase of an array whose fuse is armed: refused, or begun and cut. -/
theorem cut_codes {F : Fl} {block : Int} {G : Fl} {c : Int} (h : EraEnds F block G c) (hok : FlOk F) (hoff : F.off = false) (hf : F.fu = 0) :
    (c = 8 ∧ ∃ k : Nat, block = k ∧ k < F.bs.length ∧ (F.blk k).bad = false ∧ (F.blk k).er ≠ 1000 ∧ G = F.erase k) ∨ (c ≠ 8 ∧ c ≠ 0) := by
  rcases h with h | ⟨_, h1⟩ | _ | _ | ⟨_, h1, k, hk, hkl, h2, h3⟩
  · exact absurd hok h
  · rw [h1] at hoff; cases hoff
  · exact .inr ⟨by omega, by omega⟩
  · exact .inr ⟨by omega, by omega⟩
  · exact .inl ⟨by unfold Fl.code; rw [if_pos hf], k, hk, hkl, h2, h3, rfl⟩
section
variable {F : Fl} {k : Nat} {ke : Int}
/-- What lies there when the power is back. -/
theorem cut_facts (h : FlOk F) (ho : 0 ≤ F.op ∧ F.op ≤ 1000) (hke : 0 ≤ ke ∧ ke ≤ 19) (hk : k < F.bs.length) (hb : (F.blk k).bad = false) (he : (F.blk k).er ≠ 1000) :
    let Y := ((F.arm 0 ke).erase k).on
    FlOk ((F.arm 0 ke).erase k) ∧ FlOk Y ∧ OthEq Y.bs F.bs k 0 (ke - 1) ∧ Y.bs.length = F.bs.length ∧ Y.p = F.p ∧ Y.off = false ∧ Y.fu = -1 ∧ Y.op = F.op + 1 ∧ (Y.blk k).bad = false ∧ (Y.blk k).er = (F.blk k).er + 1 ∧
    (Y.blk k).nx = (if ke < F.p then F.p else 0) ∧ (∀ t : Nat, (t : Int) < ke → t < (Y.blk k).pg.length → (Y.blk k).pg.getD t ByteArray.empty = ByteArray.empty) := by
  intro Y
  have ha := h.arm0 (ke := ke) ⟨hke.1, by omega⟩
  have hx := ha.erase (k := k) (show F.op < 9223372036854775807 by omega) hk he
  have hpl := h.plen hk
  have e4 : Y.bs = F.bs.set k ((F.blk k).erase ke.toNat) := rfl
  have hbl : Y.blk k = (F.blk k).erase ke.toNat := by unfold Fl.blk; rw [e4, getD_set_eq _ _ _ _ hk]; rfl
  refine ⟨hx, hx.on, ?_, by rw [e4, List.length_set], rfl, rfl, rfl, ?_, by rw [hbl]; exact hb, by rw [hbl]; rfl, ?_, fun t ht htl => ?_⟩
  · rw [e4]
    refine othSet _ hk (by show (emptied (F.blk k).pg ke.toNat).length = _; rw [emptied_length]; rfl) fun t ht hc => ?_
    have ht2 : t < (F.blk k).pg.length := by
      have : t < (emptied (F.blk k).pg ke.toNat).length := ht
      rwa [emptied_length] at this
    show (emptied (F.blk k).pg ke.toNat).getD t ByteArray.empty = _
    rw [emptied_at _ _ _ ht2, if_neg (by omega)]
    rfl
  · show wrap64 (F.op + 1) = _
    rw [IntWalk.wrap64_in _ (by omega)]
  · rw [hbl]
    show (if ke.toNat < (F.blk k).pg.length then ((F.blk k).pg.length : Int) else 0) = _
    by_cases h1 : ke < F.p
    · rw [if_pos (by omega), if_pos h1]; exact hpl.2.2
    · rw [if_neg (by omega), if_neg h1]
  · rw [hbl] at htl ⊢
    have ht2 : t < (F.blk k).pg.length := by
      have : t < (emptied (F.blk k).pg ke.toNat).length := htl
      rwa [emptied_length] at this
    show (emptied (F.blk k).pg ke.toNat).getD t ByteArray.empty = _
    rw [emptied_at _ _ _ ht2, if_pos (by omega)]
/-- What is answered when a page is programmed then. -/
theorem after_prog (h : FlOk F) (hoff : F.off = false) (hfu : F.fu = -1) (hk : k < F.bs.length) (hb : (F.blk k).bad = false) {raw : ByteArray} (hr : raw.size = 91) :
    ∃ G c, ProgEnds F k 0 raw G c ∧ (c = 0 ∨ c = 5) ∧ (c = 0 ↔ (F.blk k).nx = 0) := by
  have hp := h.1.p16
  by_cases hn : (F.blk k).nx = 0
  · exact ⟨_, _, .done h hr hoff k 0 rfl rfl hk (by omega) hb hn, .inl (by unfold Fl.code; rw [if_neg (by omega)]), by unfold Fl.code; rw [if_neg (by omega)]; simp [hn]⟩
  · exact ⟨_, _, .state h hr hoff k 0 rfl rfl hk (by omega) hb hn, .inr rfl, by simp [hn]⟩
/-- What is answered when the block is erased again. -/
theorem after_erase (h : FlOk F) (hoff : F.off = false) (hfu : F.fu = -1) (hk : k < F.bs.length) (hb : (F.blk k).bad = false) :
    ∃ G c, EraEnds F k G c ∧ ((c = 7 ∧ (F.blk k).er = 1000) ∨ (c = 0 ∧ G.bs.length = F.bs.length ∧ (G.blk k).nx = 0)) := by
  have hpl := h.plen hk
  by_cases he : (F.blk k).er = 1000
  · exact ⟨_, _, .bad h hoff k rfl hk (.inr he), .inl ⟨rfl, he⟩⟩
  · refine ⟨_, _, .done h hoff k rfl hk hb he, .inr ⟨by unfold Fl.code; rw [if_neg (by omega)], ?_, ?_⟩⟩
    · show (F.bs.set k _).length = _
      rw [List.length_set]
    · have hbl : (F.erase k).blk k = (F.blk k).erase 91 := by
        unfold Fl.erase
        rw [if_neg (by omega)]
        show (F.bs.set k _).getD k Blk.zero = _
        rw [getD_set_eq _ _ _ _ hk]
      rw [hbl]
      show (if 91 < (F.blk k).pg.length then ((F.blk k).pg.length : Int) else 0) = 0
      rw [if_neg (by omega)]
end
end Go.Proofs.Ytlmdpdidjldkpaa
/- PowerOn and ArmFuse, in the model and in the program: the contracts. -/
namespace Go.Proofs.Ytlmdpdidjldkpaa
open Go.RowKit
set_option linter.unusedVariables false
set_option maxHeartbeats 1000000 in
theorem implOn_any (v : Value) (F G : Fl) (w : World) (lo hi : Nat) (h : FlIn w lo hi v F) (hh : hi ≤ w.heap.size) (hG : OnEnds F G) (hl : FlLen F) :
    Calls Try.prog 16 #[v] w (OwnPost G w) := by
  obtain ⟨r, hr⟩ := prop_dec (FlOk F)
  obtain ⟨u, rfl, hb⟩ := h
  have hv : ∀ W : World, BksIn W lo hi u F.bs → FlIn W lo hi (.agg (flc F u)) F := fun W a => ⟨u, rfl, a⟩
  have HV := Lib.hid (fun (W : World) (a : BksIn W lo hi u F.bs) (c : hi ≤ W.heap.size) => implValid_any (.agg (flc F u)) F r W lo hi (hv W a) c hr hl)
  have HO := Lib.hid (fun (hok : FlOk F) (W : World) (a : BksIn W lo hi u F.bs) (c : hi ≤ W.heap.size) => clone_any (.agg (flc F u)) F W lo hi (hv W a) c hok)
  have H := Lib.hid hb
  obtain ⟨Au, nu, cu, rfl⟩ := hb.slice
  clear hb hv hl
  obtain ⟨d, b, p, bs, fu, ke, off, op⟩ := F
  unfold flc at *
  simp only at *
  obtain ⟨r0, r1, b0⟩ := Rw.two_new w 28 28 #[.int .i64 d, .int .i64 b, .int .i64 p, .slice Au nu cu, .int .i64 fu, .int .i64 ke, .bool off, .int .i64 op]
    #[.int .i64 0, .int .i64 0, .int .i64 0, .slice none 0 0, .int .i64 0, .int .i64 0, .bool false, .int .i64 0]
  have R0 := Lib.hid r0
  have R1 := Lib.hid r1
  have B0 := Lib.hid b0
  clear r0 r1 b0
  have HG := Lib.hid hG
  clear hG
  go_enter Try.func16, Try.ntmps16
  go_wp2_with fail
  refine (HV.out _ (H.out.same (sm B0.out lo hh)) (by simp; omega)).mono ?_
  rintro e w1 ⟨rfl, b1⟩
  have S0 := Lib.hid (R0.out.below b1 (by simp; omega))
  have S1 := Lib.hid (R1.out.below b1 (by simp))
  have B1 := Lib.hid (B0.out.trans (b1.mono (by simp; omega)))
  have hsz1 := b1.size
  simp only [World.size_alloc] at hsz1
  obtain ⟨a0, a1, a2, a3, a4, a5, a6, a7⟩ := S0.out.eight
  obtain ⟨z0, z1, z2, z3, z4, z5, z6, z7⟩ := S1.out.eight
  obtain ⟨fz0, fz1, fz2, fz3, fz4, fz5, fz6, fz7⟩ := S1.out.frees
  clear b1
  rcases HG.out with ⟨hok, rfl⟩ | ⟨hno, rfl⟩
  · obtain rfl : r = true := hr.2 hok
    have HO2 := Lib.hid (HO.out hok)
    clear hr hok HO
    go_wp2_with fail
    refine (HO2.out _ (H.out.same (sm B1.out lo hh)) (by omega)).mono ?_
    rintro e w2 ⟨u2, rfl, ho, b2⟩
    obtain ⟨uu, rfl, ho⟩ := ho
    obtain ⟨A2, n2, c2, rfl⟩ := ho.slice
    have T1 := Lib.hid (S1.out.below b2 (by omega))
    have B2 := Lib.hid (B1.out.trans (b2.mono (by omega)))
    have HO3 := Lib.hid ho
    have hsz2 := b2.size
    clear z0 z1 z2 z3 z4 z5 z6 z7 fz0 fz1 fz2 fz3 fz4 fz5 fz6 fz7 b2
    obtain ⟨z0, z1, z2, z3, z4, z5, z6, z7⟩ := T1.out.eightA
    obtain ⟨fz0, fz1, fz2, fz3, fz4, fz5, fz6, fz7⟩ := T1.out.freesA
    unfold flc
    simp only
    go_wp2
    refine bodyPost_ret (results_cell_row Try.results16 _ _ _ _ #[.int .i64 d, .int .i64 b, .int .i64 p, .slice A2 n2 c2, .int .i64 (-1), .int .i64 ke, .bool false, .int .i64 op] _ _ rfl
      ((T1.out.alloc _).put8 _ _ _ _ _ _ _ _) Try.underlying28 rfl infoFl8) rfl ?_
    refine ⟨_, rfl, ⟨_, rfl, (HO3.out.same ?_).wide (by omega) (by simp)⟩, ?_⟩
    · repeat refine sset ?_ (.inl (by omega)) _
      exact sm ((Below.refl _ _).alloc (Nat.le_refl _) _) _ (Nat.le_refl _)
    · repeat refine bset ?_ (by omega) _
      exact B2.out.alloc B2.out.size _
  · obtain rfl : r = false := (bool_of r hr).2 hno
    clear hr hno HO
    go_wp2
    refine bodyPost_ret (results_cell_row Try.results16 _ _ _ _ #[.int .i64 0, .int .i64 0, .int .i64 0, .slice none 0 0, .int .i64 0, .int .i64 0, .bool false, .int .i64 0] _ _ rfl
      (S1.out.put8 _ _ _ _ _ _ _ _) Try.underlying28 rfl infoFl8) rfl ?_
    refine ⟨_, rfl, zeroOwn _ _ _, ?_⟩
    repeat refine bset ?_ (by omega) _
    exact B1.out
set_option maxHeartbeats 1000000 in
theorem implArm_any (v : Value) (fuse keep : Int) (F G : Fl) (c : Int) (w : World) (lo hi : Nat) (h : FlIn w lo hi v F) (hh : hi ≤ w.heap.size) (hG : ArmEnds F fuse keep G c) (hl : FlLen F) :
    Calls Try.prog 15 #[v, .int .i64 fuse, .int .i64 keep] w (FlPost G c w) := by
  obtain ⟨r, hr⟩ := prop_dec (FlOk F)
  obtain ⟨u, rfl, hb⟩ := h
  have hv : ∀ W : World, BksIn W lo hi u F.bs → FlIn W lo hi (.agg (flc F u)) F := fun W a => ⟨u, rfl, a⟩
  have HV := Lib.hid (fun (W : World) (a : BksIn W lo hi u F.bs) (c : hi ≤ W.heap.size) => implValid_any (.agg (flc F u)) F r W lo hi (hv W a) c hr hl)
  have HO := Lib.hid (fun (hok : FlOk F) (W : World) (a : BksIn W lo hi u F.bs) (c : hi ≤ W.heap.size) => clone_any (.agg (flc F u)) F W lo hi (hv W a) c hok)
  have H := Lib.hid hb
  obtain ⟨Au, nu, cu, rfl⟩ := hb.slice
  clear hb hv hl
  obtain ⟨d, b, p, bs, fu, ke, off, op⟩ := F
  unfold flc at *
  simp only at *
  obtain ⟨r0, r1, b0⟩ := Rw.two_new w 28 28 #[.int .i64 d, .int .i64 b, .int .i64 p, .slice Au nu cu, .int .i64 fu, .int .i64 ke, .bool off, .int .i64 op]
    #[.int .i64 0, .int .i64 0, .int .i64 0, .slice none 0 0, .int .i64 0, .int .i64 0, .bool false, .int .i64 0]
  have R0 := Lib.hid r0
  have R1 := Lib.hid r1
  have B0 := Lib.hid b0
  clear r0 r1 b0
  have HG := Lib.hid hG
  clear hG
  go_enter Try.func15, Try.ntmps15
  go_wp2_with fail
  refine (HV.out _ (H.out.same (sm B0.out lo hh)) (by simp; omega)).mono ?_
  rintro e w1 ⟨rfl, b1⟩
  have S0 := Lib.hid (R0.out.below b1 (by simp; omega))
  have S1 := Lib.hid (R1.out.below b1 (by simp))
  have B1 := Lib.hid (B0.out.trans (b1.mono (by simp; omega)))
  have hsz1 := b1.size
  simp only [World.size_alloc] at hsz1
  obtain ⟨a0, a1, a2, a3, a4, a5, a6, a7⟩ := S0.out.eight
  obtain ⟨z0, z1, z2, z3, z4, z5, z6, z7⟩ := S1.out.eight
  obtain ⟨fz0, fz1, fz2, fz3, fz4, fz5, fz6, fz7⟩ := S1.out.frees
  clear b1
  have ZERO : Hid (∀ c : Int, FlPost Fl.zero c w (.returned (.tuple #[.agg #[.int .i64 0, .int .i64 0, .int .i64 0, .slice none 0 0, .int .i64 0, .int .i64 0, .bool false, .int .i64 0], .int .i64 c])) ((((((((w1.setCell ⟨w.heap.size + 1, 0, none⟩ (.int .i64 0)).setCell ⟨w.heap.size + 1, 1, none⟩ (.int .i64 0)).setCell ⟨w.heap.size + 1, 2, none⟩ (.int .i64 0)).setCell ⟨w.heap.size + 1, 3, none⟩ (.slice none 0 0)).setCell ⟨w.heap.size + 1, 4, none⟩ (.int .i64 0)).setCell ⟨w.heap.size + 1, 5, none⟩ (.int .i64 0)).setCell ⟨w.heap.size + 1, 6, none⟩ (.bool false)).setCell ⟨w.heap.size + 1, 7, none⟩ (.int .i64 0))) := Lib.hid (fun c => by
    refine ⟨_, rfl, zeroOwn _ _ _, ?_⟩
    repeat refine bset ?_ (by omega) _
    exact B1.out)
  rcases HG.out with hno | ⟨hok, ho⟩ | ⟨hok, ho, hrg⟩ | ⟨hok, ho, h2, h3⟩
  · obtain rfl : r = false := (bool_of r hr).2 hno
    clear hr hno HO
    go_wp2
    exact bodyPost_ret (results_row_tmp Try.results15 _ _ _ _ #[.int .i64 0, .int .i64 0, .int .i64 0, .slice none 0 0, .int .i64 0, .int .i64 0, .bool false, .int .i64 0] _ _ rfl
      (S1.out.put8 _ _ _ _ _ _ _ _) Try.underlying28 rfl infoFl8) rfl (ZERO.out 1)
  · obtain rfl : r = true := hr.2 hok
    simp only at ho
    subst ho
    clear hr hok HO
    go_wp2
    exact bodyPost_ret (results_row_tmp Try.results15 _ _ _ _ #[.int .i64 0, .int .i64 0, .int .i64 0, .slice none 0 0, .int .i64 0, .int .i64 0, .bool false, .int .i64 0] _ _ rfl
      (S1.out.put8 _ _ _ _ _ _ _ _) Try.underlying28 rfl infoFl8) rfl (ZERO.out 8)
  · obtain rfl : r = true := hr.2 hok
    simp only at ho
    subst ho
    clear hr hok HO
    by_cases g1 : -1 ≤ fuse ∧ fuse ≤ 1000000
    · have g2 : ¬ (0 ≤ keep ∧ keep ≤ 91) := by
        rcases hrg with q | q
        · exact absurd g1 q
        · exact q
      have K1 := Lib.hid (fun (W : World) => validFuse_any fuse true W (by simp; omega))
      have K2 := Lib.hid (fun (W : World) => validKeep_any keep false W (by simp; omega))
      clear hrg g1 g2
      go_wp2_with fail
      refine (K1.out _).mono ?_
      rintro e w2 ⟨rfl, rfl⟩
      go_wp2_with fail
      refine (K2.out _).mono ?_
      rintro e w2 ⟨rfl, rfl⟩
      go_wp2
      exact bodyPost_ret (results_row_tmp Try.results15 _ _ _ _ #[.int .i64 0, .int .i64 0, .int .i64 0, .slice none 0 0, .int .i64 0, .int .i64 0, .bool false, .int .i64 0] _ _ rfl
        (S1.out.put8 _ _ _ _ _ _ _ _) Try.underlying28 rfl infoFl8) rfl (ZERO.out 2)
    · have K1 := Lib.hid (fun (W : World) => validFuse_any fuse false W (by simp; omega))
      clear hrg g1
      go_wp2_with fail
      refine (K1.out _).mono ?_
      rintro e w2 ⟨rfl, rfl⟩
      go_wp2
      exact bodyPost_ret (results_row_tmp Try.results15 _ _ _ _ #[.int .i64 0, .int .i64 0, .int .i64 0, .slice none 0 0, .int .i64 0, .int .i64 0, .bool false, .int .i64 0] _ _ rfl
        (S1.out.put8 _ _ _ _ _ _ _ _) Try.underlying28 rfl infoFl8) rfl (ZERO.out 2)
  · obtain rfl : r = true := hr.2 hok
    simp only at ho
    subst ho
    have HO2 := Lib.hid (HO.out hok)
    have K1 := Lib.hid (fun (W : World) => validFuse_any fuse true W (by simp; omega))
    have K2 := Lib.hid (fun (W : World) => validKeep_any keep true W (by simp; omega))
    clear hr hok HO ZERO h2 h3
    go_wp2_with fail
    refine (K1.out _).mono ?_
    rintro e w2 ⟨rfl, rfl⟩
    go_wp2_with fail
    refine (K2.out _).mono ?_
    rintro e w2 ⟨rfl, rfl⟩
    go_wp2_with fail
    refine (HO2.out _ (H.out.same (sm B1.out lo hh)) (by omega)).mono ?_
    rintro e w2 ⟨u2, rfl, ho, b2⟩
    obtain ⟨uu, rfl, ho⟩ := ho
    obtain ⟨A2, n2, c2, rfl⟩ := ho.slice
    have T1 := Lib.hid (S1.out.below b2 (by omega))
    have B2 := Lib.hid (B1.out.trans (b2.mono (by omega)))
    have HO3 := Lib.hid ho
    have hsz2 := b2.size
    clear z0 z1 z2 z3 z4 z5 z6 z7 fz0 fz1 fz2 fz3 fz4 fz5 fz6 fz7 b2
    obtain ⟨z0, z1, z2, z3, z4, z5, z6, z7⟩ := T1.out.eightA
    obtain ⟨fz0, fz1, fz2, fz3, fz4, fz5, fz6, fz7⟩ := T1.out.freesA
    unfold flc
    simp only
    go_wp2
    refine bodyPost_ret (results_row_tmp Try.results15 _ _ _ _ #[.int .i64 d, .int .i64 b, .int .i64 p, .slice A2 n2 c2, .int .i64 fuse, .int .i64 keep, .bool false, .int .i64 op] _ _ rfl
      ((T1.out.alloc _).put8 _ _ _ _ _ _ _ _) Try.underlying28 rfl infoFl8) rfl ?_
    refine ⟨_, rfl, ⟨_, rfl, (HO3.out.same ?_).wide (by omega) (by simp)⟩, ?_⟩
    · repeat refine sset ?_ (.inl (by omega)) _
      exact sm ((Below.refl _ _).alloc (Nat.le_refl _) _) _ (Nat.le_refl _)
    · repeat refine bset ?_ (by omega) _
      exact B2.out.alloc B2.out.size _
end Go.Proofs.Ytlmdpdidjldkpaa
/- An interrupted erase: the walk. -/
namespace Go.Proofs.Ytlmdpdidjldkpaa
open Go.RowKit
set_option linter.unusedVariables false
/-- A block's pages, as they lie in memory. -/
theorem FlIn.pages {w : World} {lo hi : Nat} {F : Fl} {d b p fu ke op : Int} {off : Bool} {A : Option Addr} {n c : Nat} (h : FlIn w lo hi (.agg #[.int .i64 d, .int .i64 b, .int .i64 p, .slice A n c, .int .i64 fu, .int .i64 ke, .bool off, .int .i64 op]) F) :
    ∀ k, k < n → ∃ g o Ap m cp, A = some ⟨g, o, none⟩ ∧ g < hi ∧ w.cell? ⟨g, o + k * 4 + 3, none⟩ = some (.slice Ap m cp) ∧ (F.blk k).pg.length = m ∧
      ∀ t, t < m → ∃ b' off', Ap = some ⟨b', off', none⟩ ∧ b' < hi ∧ w.cell? ⟨b', off' + t, none⟩ = some (.string ((F.blk k).pg.getD t ByteArray.empty)) := by
  obtain ⟨u, e, A', n', c', rfl, h1, h2, h3, h4⟩ := h
  unfold flc at e
  injection e with e
  simp only [Array.mk.injEq, List.cons.injEq, Value.slice.injEq] at e
  obtain ⟨-, -, -, ⟨rfl, rfl, rfl⟩, -⟩ := e
  intro k hk
  obtain ⟨g, o, rfl, _, h5, h6⟩ := h4 (by omega)
  obtain ⟨pv, h7, Ap, m, cp, rfl, q1, q2, q3, q4, q5⟩ := h6 k hk
  refine ⟨g, o, Ap, m, cp, rfl, h5, h7.2.2.2, q3, fun t ht => ?_⟩
  obtain ⟨b', off', rfl, _, q6, q7⟩ := q5 (by omega)
  exact ⟨b', off', rfl, q6, q7 t ht⟩
set_option maxHeartbeats 4000000 in
set_option maxRecDepth 100000 in
theorem te_any (a0 : Option Addr) (len0 cap0 : Nat) (z0 : List Int) (a1 : Option Addr) (len1 cap1 : Nat) (z1 : List Int) (w : World) (w0 : IsRow .u8 w a0 len0 cap0 z0) (w1 : IsRow .u8 w a1 len1 cap1 z1) :
    Calls Try.prog 4 #[.slice a0 len0 cap0, .slice a1 len1 cap1] w fun e w' => e = .returned (.bool true) ∧ Below w.heap.size w w' := by
  have b0 := w0.len
  have b1 := w1.len
  by_cases hl : len0 ≤ 1048576 ∧ len1 ≤ 1048576
  · obtain ⟨hl0, hl1⟩ := hl
    have hc0 := w0.code hl0
    have hc1 := w1.code hl1
    have HL := Lib.hid (show Calls Try.prog 5 #[.slice a0 len0 cap0, .slice a1 len1 cap1] w fun e w' => e = .returned (.bool false) ∧ w = w' from long_no _ _ _ _ _ _ _ hl0 hl1)
    have HD := Lib.hid (drawEr_any w _ hc0)
    have HA := Lib.hid (fun (W : World) (hb : Below w.heap.size w W) => b10At_any w.heap.size (.slice a1 len1 cap1) 0 20 W (hc1.keep hb.block) (by omega) (by omega) (by omega))
    clear w0 w1 hc0 hc1 hl0 hl1 b0 b1
    go_enter Try.func4, Try.ntmps4
    go_wp2_with fail
    refine HL.out.mono ?_
    rintro e w' ⟨rfl, rfl⟩
    go_wp2_with fail
    refine HD.out.mono ?_
    rintro e w1 ⟨v, F, block, rfl, ⟨u, rfl, hb⟩, hbent, b1⟩
    obtain ⟨A, nb, cb, rfl⟩ := hb.slice
    unfold flc
    have hz1 := b1.size
    have f1 : FlIn (w1.alloc (.cells #[.int .i64 F.d, .int .i64 F.b, .int .i64 F.p, .slice A nb cb, .int .i64 F.fu, .int .i64 F.ke, .bool F.off, .int .i64 F.op] 28)) 0 (w1.alloc (.cells #[.int .i64 F.d, .int .i64 F.b, .int .i64 F.p, .slice A nb cb, .int .i64 F.fu, .int .i64 F.ke, .bool F.off, .int .i64 F.op] 28)).heap.size (.agg #[.int .i64 F.d, .int .i64 F.b, .int .i64 F.p, .slice A nb cb, .int .i64 F.fu, .int .i64 F.ke, .bool F.off, .int .i64 F.op]) F := ⟨_, rfl, (hb.same (sm ((Below.refl w1.heap.size _).alloc (Nat.le_refl _) (.cells #[.int .i64 F.d, .int .i64 F.b, .int .i64 F.p, .slice A nb cb, .int .i64 F.fu, .int .i64 F.ke, .bool F.off, .int .i64 F.op] 28)) _ (Nat.le_refl _))).wide (Nat.zero_le _) (by simp)⟩
    have r1 := Rw.new w1 28 #[.int .i64 F.d, .int .i64 F.b, .int .i64 F.p, .slice A nb cb, .int .i64 F.fu, .int .i64 F.ke, .bool F.off, .int .i64 F.op]
    have S1 := Lib.hid (show FoSt F F A nb cb A nb cb w1.heap.size w1.heap.size w (w1.alloc (.cells #[.int .i64 F.d, .int .i64 F.b, .int .i64 F.p, .slice A nb cb, .int .i64 F.fu, .int .i64 F.ke, .bool F.off, .int .i64 F.op] 28)) from ⟨r1, r1, f1, f1, b1.alloc hz1 _⟩)
    have BENT := Lib.hid hbent
    have hnb : F.bs.length = nb := (f1.heads).1
    have hnb36 : nb ≤ 36 := by have := hbent.1; omega
    have HNB := Lib.hid hnb
    clear HL HD hb hbent b1 f1 r1 hnb
    go_wp2_with fail
    obtain ⟨f, hf⟩ : ∃ f, f = w1.heap.size := ⟨_, rfl⟩
    rw [← hf] at S1 ⊢
    clear hf hz1
    refine (HA.out _ S1.out.2.2.2.2).mono ?_
    rintro e w' ⟨ke, rfl, hk0, hk1, rfl⟩
    clear HA
    obtain ⟨wa, hwa⟩ : ∃ x, x = w1.alloc (.cells #[.int .i64 F.d, .int .i64 F.b, .int .i64 F.p, .slice A nb cb, .int .i64 F.fu, .int .i64 F.ke, .bool F.off, .int .i64 F.op] 28) := ⟨_, rfl⟩
    rw [← hwa] at S1 ⊢
    clear hwa
    obtain ⟨G, c, hG⟩ := armEnds F 0 ke
    have HAR := Lib.hid (implArm_any _ 0 ke F G c wa _ _ S1.out.2.2.1 (Nat.le_refl _) hG BENT.out.lens)
    have HG := Lib.hid hG
    obtain ⟨d0, d1, d2, d3, d4, d5, d6, d7⟩ := S1.out.1.eight
    clear hG
    go_wp2_with fail
    clear d0 d1 d2 d3 d4 d5 d6 d7
    refine HAR.out.mono ?_
    rintro e w2 ⟨y, rfl, ⟨uy, rfl, hby⟩, b2⟩
    obtain ⟨Ag, ng, cg, rfl⟩ := hby.slice
    unfold flc
    have S2 := Lib.hid ((S1.out.below b2).alloc (.cells #[.int .i64 G.d, .int .i64 G.b, .int .i64 G.p, .slice Ag ng cg, .int .i64 G.fu, .int .i64 G.ke, .bool G.off, .int .i64 G.op] 28))
    have G2 := Lib.hid (show FlIn (w2.alloc (.cells #[.int .i64 G.d, .int .i64 G.b, .int .i64 G.p, .slice Ag ng cg, .int .i64 G.fu, .int .i64 G.ke, .bool G.off, .int .i64 G.op] 28)) 0 (w2.alloc (.cells #[.int .i64 G.d, .int .i64 G.b, .int .i64 G.p, .slice Ag ng cg, .int .i64 G.fu, .int .i64 G.ke, .bool G.off, .int .i64 G.op] 28)).heap.size (.agg #[.int .i64 G.d, .int .i64 G.b, .int .i64 G.p, .slice Ag ng cg, .int .i64 G.fu, .int .i64 G.ke, .bool G.off, .int .i64 G.op]) G from ⟨_, rfl, (hby.reads.same (sm ((Below.refl w2.heap.size _).alloc (Nat.le_refl _) (.cells #[.int .i64 G.d, .int .i64 G.b, .int .i64 G.p, .slice Ag ng cg, .int .i64 G.fu, .int .i64 G.ke, .bool G.off, .int .i64 G.op] 28)) _ (Nat.le_refl _))).wide (Nat.zero_le _) (by simp)⟩)
    have R2 := Lib.hid (Rw.new w2 28 #[.int .i64 G.d, .int .i64 G.b, .int .i64 G.p, .slice Ag ng cg, .int .i64 G.fu, .int .i64 G.ke, .bool G.off, .int .i64 G.op])
    clear S1 HAR b2 hby
    rcases arm_codes HG.out ⟨hk0, by omega⟩ with ⟨rfl, hok, hoff, hGe⟩ | hc
    case inr =>
      have e0 : (c != 0) = true := by simp; omega
      clear hc HG
      go_wp2
      go_ret
      exact ⟨rfl, S2.out.2.2.2.2⟩
    case inl =>
      have hga : FlOk G := by rw [hGe]; exact hok.arm0 ⟨hk0, by omega⟩
      obtain ⟨X, c, hX⟩ := eraEnds G block
      have HER := Lib.hid (implEra_any _ block G X c _ _ _ G2.out (Nat.le_refl _) hX hga.lens)
      have hcut := cut_codes hX hga (by rw [hGe]; exact hoff) (by rw [hGe]; rfl)
      have HCUT := Lib.hid hcut
      have HOK := Lib.hid (show FlOk F ∧ F.off = false ∧ G = F.arm 0 ke from ⟨hok, hoff, hGe⟩)
      obtain ⟨d0, d1, d2, d3, d4, d5, d6, d7⟩ := R2.out.eight
      clear hga hX hcut hok hoff hGe HG
      go_wp2_with fail
      clear d0 d1 d2 d3 d4 d5 d6 d7
      refine HER.out.mono ?_
      rintro e w3 ⟨y, rfl, ⟨ux, rfl, hbx⟩, b3⟩
      obtain ⟨Ax, nx, cx, rfl⟩ := hbx.slice
      unfold flc
      have S3 := Lib.hid ((S2.out.below b3).alloc (.cells #[.int .i64 X.d, .int .i64 X.b, .int .i64 X.p, .slice Ax nx cx, .int .i64 X.fu, .int .i64 X.ke, .bool X.off, .int .i64 X.op] 28))
      have X3 := Lib.hid (show FlIn (w3.alloc (.cells #[.int .i64 X.d, .int .i64 X.b, .int .i64 X.p, .slice Ax nx cx, .int .i64 X.fu, .int .i64 X.ke, .bool X.off, .int .i64 X.op] 28)) 0 (w3.alloc (.cells #[.int .i64 X.d, .int .i64 X.b, .int .i64 X.p, .slice Ax nx cx, .int .i64 X.fu, .int .i64 X.ke, .bool X.off, .int .i64 X.op] 28)).heap.size (.agg #[.int .i64 X.d, .int .i64 X.b, .int .i64 X.p, .slice Ax nx cx, .int .i64 X.fu, .int .i64 X.ke, .bool X.off, .int .i64 X.op]) X from ⟨_, rfl, (hbx.reads.same (sm ((Below.refl w3.heap.size _).alloc (Nat.le_refl _) (.cells #[.int .i64 X.d, .int .i64 X.b, .int .i64 X.p, .slice Ax nx cx, .int .i64 X.fu, .int .i64 X.ke, .bool X.off, .int .i64 X.op] 28)) _ (Nat.le_refl _))).wide (Nat.zero_le _) (by simp)⟩)
      have R3 := Lib.hid (Rw.new w3 28 #[.int .i64 X.d, .int .i64 X.b, .int .i64 X.p, .slice Ax nx cx, .int .i64 X.fu, .int .i64 X.ke, .bool X.off, .int .i64 X.op])
      clear S2 HER b3 hbx G2 R2
      rcases HCUT.out with ⟨rfl, k, rfl, hkl, hbad, her, hXe⟩ | ⟨hc8, hc0⟩
      case inr =>
        have e0 : (c != 0) = true := by simp; omega
        have e8 : (c != 8) = true := by simp; omega
        clear hc8 hc0 HCUT
        go_wp2
        go_ret
        exact ⟨rfl, S3.out.2.2.2.2⟩
      case inl =>
        obtain ⟨hok, hoff, hGe⟩ := HOK.out
        subst hGe
        have hop := hok.2.2.2.2.2
        have hkb : k < nb := by have := HNB.out; have : ((F.arm 0 ke).bs.length) = F.bs.length := rfl; omega
        have hki : (k : Int) < (nb : Int) := by omega
        have hkj : ¬ (nb : Int) ≤ (k : Int) := by omega
        have cf := cut_facts (F := F) (k := k) (ke := ke) hok ⟨hop, by have := BENT.out.2.2; omega⟩ ⟨hk0, by omega⟩ (by have := HNB.out; omega) hbad her
        obtain ⟨Y, hY⟩ : ∃ Y, Y = ((F.arm 0 ke).erase k).on := ⟨_, rfl⟩
        simp only [← hY] at cf
        obtain ⟨g0, g1, g2, g3, g4, g5, g6, g7, g8, g9, g10, g11⟩ := cf
        rw [← hXe] at g0 hY
        have HON := Lib.hid (implOn_any _ X Y _ _ _ X3.out (Nat.le_refl _) (.inl ⟨g0, hY⟩) g0.lens)
        have HY := Lib.hid g1
        have HOE := Lib.hid g2
        have HYF := Lib.hid (show Y.bs.length = F.bs.length ∧ Y.p = F.p ∧ Y.off = false ∧ Y.fu = -1 ∧ (Y.blk k).bad = false ∧ (Y.blk k).er = (F.blk k).er + 1 ∧ (Y.blk k).nx = (if ke < F.p then F.p else 0) from ⟨g3, g4, g5, g6, g8, g9, g10⟩)
        have HEM := Lib.hid g11
        have HFP := Lib.hid (show 8 ≤ F.p ∧ F.p ≤ 16 from hok.1.p16)
        obtain ⟨d0, d1, d2, d3, d4, d5, d6, d7⟩ := R3.out.eight
        obtain ⟨e0, e1, e2, e3, e4, e5, e6, e7⟩ := S3.out.1.eight
        clear HCUT HOK hop g0 g1 g2 g3 g4 g5 g6 g7 g8 g9 g10 g11 hY hXe hok hoff her hbad hkl
        have hwk : IntKind.i64.wrap (ke - 1) = ke - 1 := IntWalk.i64_in _ (by omega)
        go_wp2_with fail
        clear d0 d1 d2 d3 d4 d5 d6 d7 e0 e1 e2 e3 e4 e5 e6 e7 hkj
        refine HON.out.mono ?_
        rintro e w4 ⟨y, rfl, ⟨uy, rfl, hby⟩, b4⟩
        obtain ⟨Ay, ny, cy, rfl⟩ := hby.slice
        unfold flc
        have s4 := (S3.out.below b4).alloc (.cells #[.int .i64 Y.d, .int .i64 Y.b, .int .i64 Y.p, .slice Ay ny cy, .int .i64 Y.fu, .int .i64 Y.ke, .bool Y.off, .int .i64 Y.op] 28)
        have S4 := Lib.hid (show FoSt F Y A nb cb Ay ny cy f w4.heap.size w (w4.alloc (.cells #[.int .i64 Y.d, .int .i64 Y.b, .int .i64 Y.p, .slice Ay ny cy, .int .i64 Y.fu, .int .i64 Y.ke, .bool Y.off, .int .i64 Y.op] 28)) from ⟨s4.1, Rw.new _ _ _, s4.2.2.1, ⟨_, rfl, (hby.reads.same (sm ((Below.refl w4.heap.size _).alloc (Nat.le_refl _) _) _ (Nat.le_refl _))).wide (Nat.zero_le _) (by simp)⟩, s4.2.2.2.2⟩)
        clear S3 X3 R3 HON b4 hby s4
        obtain ⟨d0, d1, d2, d3, d4, d5, d6, d7⟩ := S4.out.2.1.eight
        go_wp2_with fail
        clear d0 d1 d2 d3 d4 d5 d6 d7
        obtain ⟨y, hy⟩ : ∃ y, y = w4.heap.size := ⟨_, rfl⟩
        rw [← hy] at S4 ⊢
        clear hy
        have HVA := Lib.hid (fun (W : World) (S : FoSt F Y A nb cb Ay ny cy f y w W) => specValid_any _ Y true W _ _ S.2.2.2.1 (Nat.le_refl _) (by simp [HY.out]) HY.out.lens)
        have HOT := Lib.hid (fun (W : World) (S : FoSt F Y A nb cb Ay ny cy f y w W) => others_any _ _ Y F (k : Int) 0 (ke - 1) W _ _ _ _ S.2.2.2.1 S.2.2.1 (Nat.le_refl _) (Nat.le_refl _) HOE.out HY.out.lens)
        refine (HVA.out _ S4.out).mono ?_
        rintro e w5 ⟨rfl, b5⟩
        have S5 := Lib.hid (S4.out.below b5)
        clear S4 b5 HVA
        obtain ⟨d0, d1, d2, d3, d4, d5, d6, d7⟩ := S5.out.2.1.eight
        obtain ⟨e0, e1, e2, e3, e4, e5, e6, e7⟩ := S5.out.1.eight
        go_wp2_with fail
        clear d0 d1 d2 d3 d4 d5 d6 d7 e0 e1 e2 e3 e4 e5 e6 e7
        refine (HOT.out _ S5.out).mono ?_
        rintro e w6 ⟨rfl, b6⟩
        have S6 := Lib.hid (S5.out.below b6)
        have hny : ny = nb := by have := (S5.out.2.2.2.1.heads).1; have := HYF.out.1; have := HNB.out; omega
        clear S5 b6 HOT HOE hwk
        subst hny
        go_wp2
        go_loopw [13] (fun i wr => ∃ t : Nat, t ≤ 19 ∧ i = .int .i64 t ∧ Hid (FoSt F Y A ny cb Ay ny cy f y w wr)) (fun i _ => 20 - (intOf i).toNat)
        case atStart => exact ⟨0, by omega, rfl, S6⟩
        case round =>
          clear S6
          obtain ⟨t, ht, rfl, S6⟩ := hrel
          obtain ⟨d0, d1, d2, d3, d4, d5, d6, d7⟩ := S6.out.2.1.eight
          obtain ⟨e0, e1, e2, e3, e4, e5, e6, e7⟩ := S6.out.1.eight
          have hp16 := HFP.out
          by_cases hc : (t : Int) < ke ∧ (t : Int) < F.p
          · obtain ⟨hc1, hc2⟩ := hc
            obtain ⟨gy, oy, Ap, m, cp, rfl, hgy, x3, hm, hpg⟩ := S6.out.2.2.2.1.pages k hkb
            have hmp : (m : Int) = F.p := by have := (HY.out.plen (i := k) (by have := HYF.out.1; have := HNB.out; omega)).2.2; have := HYF.out.2.1; omega
            have htm : t < m := by omega
            have hti : (t : Int) < (m : Int) := by omega
            obtain ⟨b', off', rfl, _, x4⟩ := hpg t htm
            rw [HEM.out t hc1 (by omega)] at x4
            have hes := str_same (rfl : ByteArray.empty = ByteArray.empty)
            clear hpg hm hmp d0 d1 d2 d4 d5 d6 d7 e0 e1 e3 e4 e5 e6 e7
            go_wp2
            go_roundw
            case rel => exact ⟨t + 1, by omega, by go_num, S6⟩
            case measure => simp [intOf]; omega
          · have hkY : k < Y.bs.length := by have := HYF.out.1; have := HNB.out; omega
            obtain ⟨PX, cx, hPX, hcx, hcn⟩ := after_prog (raw := destB) HY.out HYF.out.2.2.1 HYF.out.2.2.2.1 hkY HYF.out.2.2.2.2.1 destB_size
            have hcn2 : (cx = 0 ↔ ¬ ke < F.p) := by
              rw [hcn, HYF.out.2.2.2.2.2.2]
              split <;> constructor <;> intro _ <;> omega
            obtain ⟨EX, ce, hEX, hce⟩ := after_erase HY.out HYF.out.2.2.1 HYF.out.2.2.2.1 hkY HYF.out.2.2.2.2.1
            have HPR := Lib.hid (fun (W : World) (S : FoSt F Y A ny cb Ay ny cy f y w W) => implProg_any _ (k : Int) 0 destB Y PX cx W _ _ S.2.2.2.1 (Nat.le_refl _) hPX HY.out.lens (by rw [destB_size]; omega))
            have HER := Lib.hid (fun (W : World) (S : FoSt F Y A ny cb Ay ny cy f y w W) => implEra_any _ (k : Int) Y EX ce W _ _ S.2.2.2.1 (Nat.le_refl _) hEX HY.out.lens)
            have HDS := Lib.hid (fun (W : World) => (show Calls Try.prog 17 #[] W fun e w' => e = .returned (.string destB) ∧ Below W.heap.size W w' from implDestroyed_any W))
            have HCE := Lib.hid hce
            have HCX := Lib.hid hcx
            have HCN := Lib.hid hcn2
            have KP := Lib.hid (fun (W : World) (B : Below wr.heap.size wr W) => (show FoSt F Y A ny cb Ay ny cy f y w W ∧ W.cell? ⟨y, 0, none⟩ = some (.int .i64 Y.d) ∧ W.cell? ⟨y, 1, none⟩ = some (.int .i64 Y.b) ∧ W.cell? ⟨y, 2, none⟩ = some (.int .i64 Y.p) ∧ W.cell? ⟨y, 3, none⟩ = some (.slice Ay ny cy) ∧ W.cell? ⟨y, 4, none⟩ = some (.int .i64 Y.fu) ∧ W.cell? ⟨y, 5, none⟩ = some (.int .i64 Y.ke) ∧ W.cell? ⟨y, 6, none⟩ = some (.bool Y.off) ∧ W.cell? ⟨y, 7, none⟩ = some (.int .i64 Y.op) from ⟨S6.out.below B, (S6.out.below B).2.1.eight⟩))
            clear d0 d1 d2 d3 d4 d5 d6 d7 e0 e1 e3 e4 e5 e6 e7 hPX hcx hcn hcn2 hEX hce hkY
            generalize destB = dst at *
            rcases (by omega : ¬ (t : Int) < ke ∨ ((t : Int) < ke ∧ ¬ (t : Int) < F.p)) with h1 | ⟨h1, h2⟩
            all_goals
              clear hc
              go_upto_region 19 with fail
              go_cut [14, 15] (fun p14 c15 wx => (∃ g : Nat, p14 = .pointer (some ⟨g, 0, none⟩)) ∧ c15 = .int .i64 cx ∧ Hid (Below wr.heap.size wr wx))
              case first =>
                go_region_held3 (fun W => FoSt F Y A ny cb Ay ny cy f y w W ∧ W.cell? ⟨y, 0, none⟩ = some (.int .i64 Y.d) ∧ W.cell? ⟨y, 1, none⟩ = some (.int .i64 Y.b) ∧ W.cell? ⟨y, 2, none⟩ = some (.int .i64 Y.p) ∧ W.cell? ⟨y, 3, none⟩ = some (.slice Ay ny cy) ∧ W.cell? ⟨y, 4, none⟩ = some (.int .i64 Y.fu) ∧ W.cell? ⟨y, 5, none⟩ = some (.int .i64 Y.ke) ∧ W.cell? ⟨y, 6, none⟩ = some (.bool Y.off) ∧ W.cell? ⟨y, 7, none⟩ = some (.int .i64 Y.op))
                  (first
                    | with_reducible exact KP.out _ ((((((((hbP.setCell hzq _).setCell hzq _).setCell hzq _).setCell hzq _).setCell hzq _).setCell hzq _).setCell hzq _).setCell hzq _)
                    | with_reducible exact KP.out _ hbP
                    | with_reducible exact KP.out _ (hbP.alloc hbP.size _)
                    | with_reducible exact KP.out _ hbD
                    | with_reducible exact KP.out _ (hbD.alloc hbD.size _)
                    | with_reducible exact KP.out _ (Below.refl _ _).drew
                    | with_reducible exact KP.out _ ((Below.refl wr.heap.size wr).alloc (Nat.le_refl _) _).drew)
                  (first
                    | (go_at_call 17
                       refine (HDS.out wr.drew).mono ?_
                       rintro e wD ⟨rfl, hD⟩
                       have hbD : Below wr.heap.size wr wD := (Below.refl wr.heap.size wr).drew.trans hD)
                    | (go_at_call 17
                       refine (HDS.out _).mono ?_
                       rintro e wD ⟨rfl, hD⟩
                       have hbD : Below wr.heap.size wr wD := (((Below.refl wr.heap.size wr).alloc (Nat.le_refl _) (.cells #[.int .i64 0, .int .i64 0, .int .i64 0, .slice none 0 0, .int .i64 0, .int .i64 0, .bool false, .int .i64 0] 28)).drew).trans (hD.mono (by simp))
                       have hzq : wr.heap.size ≤ wr.heap.size := Nat.le_refl _
                       have rz := (show Rw (wr.alloc (.cells #[.int .i64 0, .int .i64 0, .int .i64 0, .slice none 0 0, .int .i64 0, .int .i64 0, .bool false, .int .i64 0] 28)).drew wr.heap.size _ _ from Rw.new wr 28 #[.int .i64 0, .int .i64 0, .int .i64 0, .slice none 0 0, .int .i64 0, .int .i64 0, .bool false, .int .i64 0]).below hD (by simp))
                    | (go_at_call 7
                       refine (HPR.out wD (KP.out _ hbD).1).mono ?_
                       rintro e wP ⟨p, rfl, ⟨up, rfl, hbp⟩, hP⟩
                       obtain ⟨Ap, np, cp, rfl⟩ := hbp.slice
                       unfold flc
                       have hbP : Below wr.heap.size wr wP := hbD.trans (hP.mono hbD.size)
                       obtain ⟨z0, z1, z2, z3, z4, z5, z6, z7⟩ := (rz.below hP rz.lt).eight
                       obtain ⟨y0, y1, y2, y3, y4, y5, y6, y7⟩ := (rz.below hP rz.lt).frees)
                    | (go_at_call 7
                       refine (HPR.out wD (KP.out _ hbD).1).mono ?_
                       rintro e wP ⟨p, rfl, ⟨up, rfl, hbp⟩, hP⟩
                       obtain ⟨Ap, np, cp, rfl⟩ := hbp.slice
                       unfold flc
                       have hbP : Below wr.heap.size wr wP := hbD.trans (hP.mono hbD.size))
                    | (go_at_call 7
                       refine (HPR.out _ (KP.out _ (hbD.alloc hbD.size _)).1).mono ?_
                       rintro e wP ⟨p, rfl, ⟨up, rfl, hbp⟩, hP⟩
                       obtain ⟨Ap, np, cp, rfl⟩ := hbp.slice
                       unfold flc
                       have hbP : Below wr.heap.size wr wP := (hbD.alloc hbD.size _).trans (hP.mono (hbD.alloc hbD.size _).size)
                       have hzq : wr.heap.size ≤ wD.heap.size := hbD.size
                       have rp := (Rw.new wD 28 #[.int .i64 0, .int .i64 0, .int .i64 0, .slice none 0 0, .int .i64 0, .int .i64 0, .bool false, .int .i64 0]).below hP (by simp)
                       obtain ⟨z0, z1, z2, z3, z4, z5, z6, z7⟩ := rp.eight
                       obtain ⟨y0, y1, y2, y3, y4, y5, y6, y7⟩ := rp.frees))
                all_goals (go_wp2_with fail; go_meet)
                all_goals (refine ⟨⟨_, rfl⟩, rfl, Lib.hid ?_⟩; first | with_reducible exact hbP.alloc hbP.size _ | with_reducible exact ((((((((hbP.setCell hzq _).setCell hzq _).setCell hzq _).setCell hzq _).setCell hzq _).setCell hzq _).setCell hzq _).setCell hzq _))
              case rest =>
                obtain ⟨⟨gx, rfl⟩, rfl, B7⟩ := hcut
                have S7 := Lib.hid (S6.out.below B7.out)
                clear S6 B7 KP HDS HPR
                obtain ⟨e0, e1, e2, e3, e4, e5, e6, e7⟩ := S7.out.1.eight
                obtain ⟨d0, d1, d2, d3, d4, d5, d6, d7⟩ := S7.out.2.1.eight
                have hcc : (cx = 0 ∧ F.p ≤ ke) ∨ (cx = 5 ∧ ke < F.p) := by
                  have h1 := HCX.out
                  have h2 := HCN.out
                  by_cases h3 : ke < F.p
                  · exact .inr ⟨h1.resolve_left (fun h => (h2.1 h) h3), h3⟩
                  · exact .inl ⟨h2.2 h3, by omega⟩
                clear HCX HCN
                rcases hcc with ⟨rfl, h3⟩ | ⟨rfl, h3⟩
                all_goals (try (exfalso; omega))
                all_goals
                  go_wp2_with fail
                  refine (HER.out _ S7.out).mono ?_
                  rintro e w8 ⟨z, rfl, ⟨uz, rfl, hz⟩, b8⟩
                  obtain ⟨Az, nz, cz, rfl⟩ := hz.slice
                  unfold flc
                  have s8 := (S7.out.below b8).alloc (.cells #[.int .i64 EX.d, .int .i64 EX.b, .int .i64 EX.p, .slice Az nz cz, .int .i64 EX.fu, .int .i64 EX.ke, .bool EX.off, .int .i64 EX.op] 28)
                  have T8 := Lib.hid (show FoSt Y EX Ay ny cy Az nz cz y w8.heap.size w (w8.alloc (.cells #[.int .i64 EX.d, .int .i64 EX.b, .int .i64 EX.p, .slice Az nz cz, .int .i64 EX.fu, .int .i64 EX.ke, .bool EX.off, .int .i64 EX.op] 28)) from ⟨s8.2.1, Rw.new _ _ _, s8.2.2.2.1, ⟨_, rfl, (hz.reads.same (sm ((Below.refl w8.heap.size _).alloc (Nat.le_refl _) _) _ (Nat.le_refl _))).wide (Nat.zero_le _) (by simp)⟩, s8.2.2.2.2⟩)
                  clear S7 b8 hz HER s8 d0 d1 d2 d3 d4 d5 d6 d7 e0 e1 e2 e3 e4 e5 e6 e7 h3
                  obtain ⟨e0, e1, e2, e3, e4, e5, e6, e7⟩ := T8.out.1.eight
                  obtain ⟨d0, d1, d2, d3, d4, d5, d6, d7⟩ := T8.out.2.1.eight
                  rcases HCE.out with ⟨rfl, her⟩ | ⟨rfl, hel, hnx⟩
                  · obtain ⟨gy, oy, rfl, hgy, r0, -⟩ := (T8.out.2.2.1.heads).2 k hkb
                    rw [her] at r0
                    go_wp2_with fail
                    go_ret
                    exact ⟨rfl, T8.out.2.2.2.2⟩
                  · have hnz : nz = ny := by have := (T8.out.2.2.2.1.heads).1; have := (T8.out.2.2.1.heads).1; omega
                    subst hnz
                    obtain ⟨gz, oz, rfl, hgz, -, r0⟩ := (T8.out.2.2.2.1.heads).2 k hkb
                    rw [hnx] at r0
                    go_wp2_with fail
                    go_ret
                    exact ⟨rfl, T8.out.2.2.2.2⟩
  · clear w0 w1
    go_enter Try.func4, Try.ntmps4
    go_wp2_with (go_at_call 5; refine (long_yes _ _ _ _ _ _ _ b0 b1 (by omega)).mono ?_; rintro e w' ⟨rfl, rfl⟩)
    go_ret
    exact ⟨rfl, Below.refl _ _⟩
end Go.Proofs.Ytlmdpdidjldkpaa
