/- The proof's own lemmas, part 7 of 7: FoN FlRd WkFo. -/
import Derived.Test.YtlmdpdidjldkpaaMg5
import Derived.Test.YtlmdpdidjldkpaaMg3
import Derived.Test.YtlmdpdidjldkpaaProg
import Derived.Test.YtlmdpdidjldkpaaMg2
import Derived.Test.YtlmdpdidjldkpaaMg0
import Derived.Test.YtlmdpdidjldkpaaMg4
/- Plain facts: what a program operation and an erase leave, page by page. -/
namespace Go.Proofs.Ytlmdpdidjldkpaa
open Go.RowKit
set_option linter.unusedVariables false
/-- One block replaced by one with as many pages, equal but for some of them. -/
theorem othSet {L : List Blk} {k : Nat} (x : Blk) (hk : k < L.length) {low high : Int} (hl : x.pg.length = (L.getD k Blk.zero).pg.length)
    (h : ∀ t, t < x.pg.length → ((t : Int) < low ∨ high < (t : Int)) → x.pg.getD t ByteArray.empty = (L.getD k Blk.zero).pg.getD t ByteArray.empty) : OthEq (L.set k x) L k low high := by
  refine ⟨List.length_set, fun i hi => ?_⟩
  rw [List.length_set] at hi
  by_cases e : k = i
  · subst e
    rw [getD_set_eq _ _ _ _ hi]
    exact ⟨hl, fun t ht hc => h t ht (by omega)⟩
  · rw [getD_set_ne _ _ _ _ _ e]
    exact ⟨rfl, fun t ht hc => rfl⟩
theorem OthEq.wider {L M : List Blk} {b lo hi lo' hi' : Int} (h : OthEq L M b lo hi) (h1 : lo' ≤ lo) (h2 : hi ≤ hi') : OthEq L M b lo' hi' :=
  ⟨h.1, fun i hi => ⟨(h.2 i hi).1, fun k hk hc => (h.2 i hi).2 k hk (by omega)⟩⟩
theorem not_empty {s : ByteArray} (h : s.size = 91) : s ≠ ByteArray.empty := fun e => by
  rw [e] at h
  simp [ByteArray.size_empty] at h
section
variable {F : Fl} {k n : Nat} {raw : ByteArray}
theorem prog_off (hf : F.fu ≠ 0) : (F.prog k raw).off = F.off ∧ (F.prog k raw).op = wrap64 (F.op + 1) ∧ (F.prog k raw).p = F.p ∧ (F.prog k raw).bs = F.bs.set k ((F.blk k).prog raw) := by
  unfold Fl.prog
  rw [if_neg hf]
  refine ⟨?_, rfl, rfl, rfl⟩
  show (if F.fu = 0 then true else F.off) = F.off
  rw [if_neg hf]
theorem order_prog (h : FlOk F) (ho : 0 ≤ F.op ∧ F.op ≤ 1000) (hoff : F.off = false) (hf : F.fu ≠ 0) (hk : k < F.bs.length) (hnp : (n : Int) < F.p) (hn : (F.blk k).nx = n) (hb : (F.blk k).bad = false) (hr : raw.size = 91) :
    FlOk (F.prog k raw) ∧ ReadEnds (F.prog k raw) k n raw 0 ∧ OthEq (F.prog k raw).bs F.bs k n n ∧ (F.prog k raw).op = F.op + 1 ∧ (F.prog k raw).p = F.p ∧ (F.prog k raw).bs.length = F.bs.length ∧
    ((F.prog k raw).blk k).nx = n + 1 ∧ ((F.prog k raw).blk k).er = (F.blk k).er ∧ ((F.prog k raw).blk k).bad = false ∧ (F.prog k raw).off = false ∧ ProgEnds (F.prog k raw) k n raw Fl.zero 5 := by
  have hok := h.prog (k := k) (by omega) hk (by omega) hr
  obtain ⟨e1, e2, e3, e4⟩ := prog_off (k := k) (raw := raw) hf
  have hpl := h.plen hk
  have hbl : (F.prog k raw).blk k = (F.blk k).prog raw := by unfold Fl.blk; rw [e4, getD_set_eq _ _ _ _ hk]; rfl
  have hlen : (F.prog k raw).bs.length = F.bs.length := by rw [e4, List.length_set]
  have hat : ((F.blk k).prog raw).at n = raw := by
    show ((F.blk k).pg.set (F.blk k).nx.toNat raw).getD n ByteArray.empty = raw
    rw [hn, show ((n : Int)).toNat = n by omega, getD_set_eq _ _ _ _ (by omega)]
  have hnx : ((F.prog k raw).blk k).nx = n + 1 := by rw [hbl]; show (F.blk k).nx + 1 = _; rw [hn]
  have hbd : ((F.prog k raw).blk k).bad = false := by rw [hbl]; exact hb
  refine ⟨hok, ?_, ?_, by rw [e2, IntWalk.wrap64_in _ (by omega)], e3, hlen, hnx, by rw [hbl]; rfl, hbd, by rw [e1, hoff], .state hok hr (by rw [e1, hoff]) k n rfl rfl (by omega) (by omega) hbd (by rw [hnx]; omega)⟩
  · have := ReadEnds.full (block := k) (page := n) hok (by rw [e1, hoff]) k n rfl rfl (by omega) (by omega) (by rw [hbl, hat]; exact not_empty hr)
    rw [hbl, hat] at this
    exact this
  · rw [e4]
    refine othSet _ hk (by show ((F.blk k).pg.set _ _).length = _; rw [List.length_set]; rfl) fun t ht hc => ?_
    show ((F.blk k).pg.set (F.blk k).nx.toNat raw).getD t ByteArray.empty = _
    rw [hn, getD_set_ne _ _ _ _ _ (by omega)]
    rfl
theorem order_erase (h : FlOk F) (ho : 0 ≤ F.op ∧ F.op ≤ 1001) (hoff : F.off = false) (hf : F.fu ≠ 0) (hk : k < F.bs.length) (hnp : (n : Int) < F.p) (hb : (F.blk k).bad = false) (he : (F.blk k).er ≠ 1000) :
    EraEnds F k (F.erase k) 0 ∧ FlOk (F.erase k) ∧ ReadEnds (F.erase k) k n erasedB 0 ∧ OthEq (F.erase k).bs F.bs k 0 (F.p - 1) ∧ (F.erase k).bs.length = F.bs.length ∧ ((F.erase k).blk k).er = (F.blk k).er + 1 := by
  have hok := h.erase (k := k) (by omega) hk he
  have hpl := h.plen hk
  have e1 : (F.erase k).off = false := by show (if F.fu = 0 then true else F.off) = false; rw [if_neg hf, hoff]
  have e4 : (F.erase k).bs = F.bs.set k ((F.blk k).erase 91) := by unfold Fl.erase; rw [if_neg hf]; rfl
  have hlen : (F.erase k).bs.length = F.bs.length := by rw [e4, List.length_set]
  have hbl : (F.erase k).blk k = (F.blk k).erase 91 := by unfold Fl.blk; rw [e4, getD_set_eq _ _ _ _ hk]; rfl
  have hat : ((F.blk k).erase 91).at n = ByteArray.empty := by
    show (emptied (F.blk k).pg 91).getD n ByteArray.empty = _
    rw [emptied_at _ _ _ (by omega), if_pos (by omega)]
  have hc : F.code = 0 := by unfold Fl.code; rw [if_neg hf]
  refine ⟨hc ▸ EraEnds.done h hoff k rfl hk hb he, hok, .empty hok e1 k n rfl rfl (by omega) (by show (n : Int) < F.p; exact hnp) (by rw [hbl, hat]), ?_, hlen, by rw [hbl]; rfl⟩
  rw [e4]
  refine othSet _ hk (by show (emptied (F.blk k).pg 91).length = _; rw [emptied_length]; rfl) fun t ht hcc => ?_
  have ht2 : t < (F.blk k).pg.length := by
    have : t < (emptied (F.blk k).pg 91).length := ht
    rw [emptied_length] at this
    exact this
  omega
end
end Go.Proofs.Ytlmdpdidjldkpaa
/- ReadRaw, in the model and in the program: the contracts. -/
namespace Go.Proofs.Ytlmdpdidjldkpaa
open Go.RowKit
set_option linter.unusedVariables false
/-- A page of an array that is read. -/
theorem page_at {W : World} {lo hi n cap : Nat} {A : Option Addr} {L : List Blk} (h : BksIn W lo hi (.slice A n cap) L) {k m : Nat} (hk : k < n) (hm : m < (L.getD k Blk.zero).pg.length) :
    ∃ gb o b po pc, A = some ⟨gb, o, none⟩ ∧ gb < hi ∧ b < hi ∧ W.cell? ⟨gb, o + k * 4 + 3, none⟩ = some (.slice (some ⟨b, po, none⟩) (L.getD k Blk.zero).pg.length pc) ∧ W.cell? ⟨b, po + m, none⟩ = some (.string ((L.getD k Blk.zero).at m)) ∧ ((L.getD k Blk.zero).at m).size ≤ 9223372036854775807 := by
  obtain ⟨A', n', c', e, _, _, _, hx⟩ := h
  injection e with e1 e2 e3
  subst e1 e2 e3
  obtain ⟨gb, o, e, h1, h2, hy⟩ := hx (by omega)
  obtain ⟨pv, hp, hpg⟩ := hy k hk
  obtain ⟨A2, n2, c2, rfl, _, _, h5, h6, h7⟩ := hpg
  obtain ⟨b, po, rfl, h8, h9, hc⟩ := h7 (by omega)
  exact ⟨gb, o, b, po, c2, e, h2, h9, by rw [h5]; exact hp.2.2.2, hc m (by omega), h6 m (by omega)⟩
theorem empty_list : (ByteArray.empty : ByteArray).toList = [] := by rw [ByteArray.toList_eq]; rfl
set_option maxHeartbeats 1000000 in
theorem implRead_any (v : Value) (block page : Int) (F : Fl) (s : ByteArray) (c : Int) (w : World) (lo hi : Nat) (h : FlIn w lo hi v F) (hh : hi ≤ w.heap.size) (hE : ReadEnds F block page s c) (hl : FlLen F) :
    Calls Try.prog 8 #[v, .int .i64 block, .int .i64 page] w (PairPost s c w) := by
  obtain ⟨r, hr⟩ := prop_dec (FlOk F)
  obtain ⟨u, rfl, hb⟩ := h
  have hv : ∀ W : World, BksIn W lo hi u F.bs → FlIn W lo hi (.agg (flc F u)) F := fun W a => ⟨u, rfl, a⟩
  have HV := Lib.hid (fun (W : World) (a : BksIn W lo hi u F.bs) (c : hi ≤ W.heap.size) => implValid_any (.agg (flc F u)) F r W lo hi (hv W a) c hr hl)
  have H := Lib.hid hb
  have hbl : ∃ A n c, u = .slice A n c ∧ F.bs.length = n := by obtain ⟨A, n, c, e, _, _, h, _⟩ := hb; exact ⟨A, n, c, e, h⟩
  obtain ⟨Au, nu, cu, rfl, hlen⟩ := hbl
  clear hb hv hl
  have hFl : flc F (.slice Au nu cu) = #[.int .i64 F.d, .int .i64 F.b, .int .i64 F.p, .slice Au nu cu, .int .i64 F.fu, .int .i64 F.ke, .bool F.off, .int .i64 F.op] := rfl
  rw [hFl] at HV ⊢
  have R0 := Lib.hid (Rw.new w 28 #[.int .i64 F.d, .int .i64 F.b, .int .i64 F.p, .slice Au nu cu, .int .i64 F.fu, .int .i64 F.ke, .bool F.off, .int .i64 F.op])
  have B0 := Lib.hid ((Below.refl w.heap.size w).alloc (Nat.le_refl _) (.cells #[.int .i64 F.d, .int .i64 F.b, .int .i64 F.p, .slice Au nu cu, .int .i64 F.fu, .int .i64 F.ke, .bool F.off, .int .i64 F.op] 28))
  clear hFl
  have HE := Lib.hid hE
  have HLN := Lib.hid hlen
  have HP16 := Lib.hid (fun (h : FlOk F) => h.1.p16)
  have HPL := Lib.hid (fun (h : FlOk F) (i : Nat) (hi : i < F.bs.length) => h.plen hi)
  have HLE := Lib.hid (fun (h : FlOk F) => h.len)
  have HHP := Lib.hid (fun (W : World) (r : Bool) (c2 : W.cell? ⟨w.heap.size, 2, none⟩ = some (.int .i64 F.p)) (c3 : W.cell? ⟨w.heap.size, 3, none⟩ = some (.slice Au nu cu)) (hn : nu ≤ 1000) (hr : r = true ↔ ((0 ≤ block ∧ block < (nu : Int)) ∧ (0 ≤ page ∧ page < F.p))) => hasPage_any w.heap.size Au nu cu F.p block page r W c2 c3 hn hr)
  clear hE hlen
  generalize hoff : F.off = off at *
  have HOF := Lib.hid hoff
  clear hoff
  go_enter Try.func8, Try.ntmps8
  go_wp2_with fail
  refine (HV.out _ (H.out.same (sm B0.out lo hh)) (by simp; omega)).mono ?_
  rintro e w1 ⟨rfl, b1⟩
  have S0 := Lib.hid (R0.out.below b1 (by simp))
  have B1 := Lib.hid (B0.out.trans (b1.mono (by simp)))
  have hsz1 := b1.size
  simp only [World.size_alloc] at hsz1
  obtain ⟨a0, a1, a2, a3, a4, a5, a6, a7⟩ := S0.out.eight
  clear b1
  rcases HE.out with hno | ⟨hok, h1⟩ | ⟨hok, h1, h2⟩ | ⟨hok, h1, k, m, rfl, rfl, hkl, hnp, h2⟩ | ⟨hok, h1, k, m, rfl, rfl, hkl, hnp, h2⟩
  · obtain rfl : r = false := (bool_of r hr).2 hno
    clear hr hno
    go_wp2
    go_ret2
    exact ⟨rfl, B1.out⟩
  all_goals
    obtain rfl : r = true := hr.2 hok
    rw [HOF.out] at h1
    subst h1
    have hl9 := HLE.out hok
    have hp9 := HP16.out hok
    rw [HLN.out] at hl9
    clear hr
  · clear hok hp9
    go_wp2
    go_ret2
    exact ⟨rfl, B1.out⟩
  · have HF := Lib.hid (HHP.out w1 false a2 a3 (by omega) (by
      rw [HLN.out] at h2
      simp only [Bool.false_eq_true, false_iff]
      rintro ⟨a, b⟩
      rcases h2 with h2 | h2 <;> contradiction))
    clear hok h2 hp9
    go_wp2_with fail
    refine HF.out.mono ?_
    rintro e w' ⟨rfl, rfl⟩
    go_wp2
    go_ret2
    exact ⟨rfl, B1.out⟩
  · have HF := Lib.hid (HHP.out w1 true a2 a3 (by omega) (by rw [HLN.out] at hkl; simp; omega))
    have hpl := HPL.out hok k hkl
    rw [HLN.out] at hkl
    obtain ⟨gb, o, b, po, pc, rfl, hg1, hb1, q3, cp, hcs⟩ := page_at (H.out.same (sm B1.out lo hh)) (m := m) hkl (by show m < (F.blk k).pg.length; omega)
    change w1.cell? ⟨gb, o + k * 4 + 3, none⟩ = some (.slice (some ⟨b, po, none⟩) (F.blk k).pg.length pc) at q3
    change w1.cell? ⟨b, po + m, none⟩ = some (.string ((F.blk k).at m)) at cp
    change ((F.blk k).at m).size ≤ _ at hcs
    have hki : (k : Int) < (nu : Int) := by omega
    have hmi : (m : Int) < ((F.blk k).pg.length : Int) := by omega
    have hP16 : ((F.blk k).pg.length : Int) ≤ 16 := by omega
    have hnu : (nu : Int) ≤ 36 := by omega
    generalize (F.blk k).pg.length = P at *
    generalize (F.blk k).at m = y at *
    subst h2
    have hyl := empty_list
    have HEr := Lib.hid (fun (W : World) => implErased_any W)
    have h9 := fillB_size 255 91
    clear hok hpl hp9 hl9
    go_wp2_with fail
    refine HF.out.mono ?_
    rintro e w' ⟨rfl, rfl⟩
    go_wp2_with fail
    refine (HEr.out _).mono ?_
    rintro e w2 ⟨rfl, b2⟩
    have B2 := Lib.hid (B1.out.trans (b2.mono (by omega)))
    clear b2
    go_wp2
    go_ret2
    exact ⟨rfl, B2.out⟩
  · have HF := Lib.hid (HHP.out w1 true a2 a3 (by omega) (by rw [HLN.out] at hkl; simp; omega))
    have hpl := HPL.out hok k hkl
    rw [HLN.out] at hkl
    obtain ⟨gb, o, b, po, pc, rfl, hg1, hb1, q3, cp, hcs⟩ := page_at (H.out.same (sm B1.out lo hh)) (m := m) hkl (by show m < (F.blk k).pg.length; omega)
    change w1.cell? ⟨gb, o + k * 4 + 3, none⟩ = some (.slice (some ⟨b, po, none⟩) (F.blk k).pg.length pc) at q3
    change w1.cell? ⟨b, po + m, none⟩ = some (.string ((F.blk k).at m)) at cp
    change ((F.blk k).at m).size ≤ _ at hcs
    have hki : (k : Int) < (nu : Int) := by omega
    have hmi : (m : Int) < ((F.blk k).pg.length : Int) := by omega
    have hP16 : ((F.blk k).pg.length : Int) ≤ 16 := by omega
    have hnu : (nu : Int) ≤ 36 := by omega
    generalize (F.blk k).pg.length = P at *
    generalize (F.blk k).at m = y at *
    have hne : y.size ≠ 0 := fun e => h2 (by apply ByteArray.ext; apply Array.eq_empty_of_size_eq_zero; exact e)
    obtain ⟨hn1, hn2⟩ := bytes_ne hne
    clear hok hpl hp9 hl9 h2
    go_wp2_with fail
    refine HF.out.mono ?_
    rintro e w' ⟨rfl, rfl⟩
    go_wp2
    go_ret2
    exact ⟨rfl, B1.out⟩
end Go.Proofs.Ytlmdpdidjldkpaa
/- Pages are programmed in order: the walk. -/
namespace Go.Proofs.Ytlmdpdidjldkpaa
open Go.RowKit
set_option linter.unusedVariables false
theorem prog_codes {F : Fl} {block page : Int} {raw : ByteArray} {G : Fl} {c : Int} (h : ProgEnds F block page raw G c) :
    (c = 0 ∧ FlOk F ∧ raw.size = 91 ∧ F.off = false ∧ F.fu ≠ 0 ∧ ∃ k n : Nat, block = k ∧ page = n ∧ k < F.bs.length ∧ (n : Int) < F.p ∧ (F.blk k).bad = false ∧ (F.blk k).nx = n ∧ G = F.prog k raw) ∨ c = 8 ∨ ((c ≠ 0 ∧ c ≠ 8) ∧ G.bs = []) := by
  rcases h with _ | _ | _ | _ | _ | ⟨h, hr, h1, k, n, hk, hn, hkl, hnp, h2, h3⟩
  · exact .inr (.inr ⟨by omega, rfl⟩)
  · exact .inr (.inl rfl)
  · exact .inr (.inr ⟨by omega, rfl⟩)
  · exact .inr (.inr ⟨by omega, rfl⟩)
  · exact .inr (.inr ⟨by omega, rfl⟩)
  · by_cases hf : F.fu = 0
    · exact .inr (.inl (by unfold Fl.code; rw [if_pos hf]))
    · exact .inl ⟨by unfold Fl.code; rw [if_neg hf], h, hr, h1, hf, k, n, hk, hn, hkl, by omega, h2, by omega, rfl⟩
/-- Two arrays, each in a variable's block. -/
def FoSt (F G : Fl) (A : Option Addr) (nb cb : Nat) (Ay : Option Addr) (ny cy f x : Nat) (w wx : World) : Prop := Rw wx f 28 #[.int .i64 F.d, .int .i64 F.b, .int .i64 F.p, .slice A nb cb, .int .i64 F.fu, .int .i64 F.ke, .bool F.off, .int .i64 F.op] ∧ Rw wx x 28 #[.int .i64 G.d, .int .i64 G.b, .int .i64 G.p, .slice Ay ny cy, .int .i64 G.fu, .int .i64 G.ke, .bool G.off, .int .i64 G.op] ∧ FlIn wx 0 wx.heap.size (.agg #[.int .i64 F.d, .int .i64 F.b, .int .i64 F.p, .slice A nb cb, .int .i64 F.fu, .int .i64 F.ke, .bool F.off, .int .i64 F.op]) F ∧ FlIn wx 0 wx.heap.size (.agg #[.int .i64 G.d, .int .i64 G.b, .int .i64 G.p, .slice Ay ny cy, .int .i64 G.fu, .int .i64 G.ke, .bool G.off, .int .i64 G.op]) G ∧ Below w.heap.size w wx
section
variable {F G : Fl} {A : Option Addr} {nb cb : Nat} {Ay : Option Addr} {ny cy f x : Nat} {w wx wy : World}
theorem FoSt.below (h : FoSt F G A nb cb Ay ny cy f x w wx) (b : Below wx.heap.size wx wy) : FoSt F G A nb cb Ay ny cy f x w wy := by
  obtain ⟨h1, h2, h3, h4, h5⟩ := h
  exact ⟨h1.below b h1.lt, h2.below b h2.lt, (h3.same (sm b _ (Nat.le_refl _))).wide (Nat.le_refl _) b.size, (h4.same (sm b _ (Nat.le_refl _))).wide (Nat.le_refl _) b.size, h5.trans (b.mono h5.size)⟩
theorem FoSt.alloc (h : FoSt F G A nb cb Ay ny cy f x w wx) (o : Obj) : FoSt F G A nb cb Ay ny cy f x w (wx.alloc o) := h.below ((Below.refl _ _).alloc (Nat.le_refl _) _)
end
/-- A block's number of the next page and of erases, as they lie in memory. -/
theorem FlIn.heads {w : World} {lo hi : Nat} {F : Fl} {d b p fu ke op : Int} {off : Bool} {A : Option Addr} {n c : Nat} (h : FlIn w lo hi (.agg #[.int .i64 d, .int .i64 b, .int .i64 p, .slice A n c, .int .i64 fu, .int .i64 ke, .bool off, .int .i64 op]) F) :
    F.bs.length = n ∧ ∀ k, k < n → ∃ g o, A = some ⟨g, o, none⟩ ∧ g < hi ∧ w.cell? ⟨g, o + k * 4, none⟩ = some (.int .i64 (F.blk k).er) ∧ w.cell? ⟨g, o + k * 4 + 1, none⟩ = some (.int .i64 (F.blk k).nx) := by
  obtain ⟨u, e, A', n', c', rfl, h1, h2, h3, h4⟩ := h
  unfold flc at e
  injection e with e
  simp only [Array.mk.injEq, List.cons.injEq, Value.slice.injEq] at e
  obtain ⟨-, -, -, ⟨rfl, rfl, rfl⟩, -⟩ := e
  refine ⟨h3, fun k hk => ?_⟩
  obtain ⟨g, o, rfl, _, h5, h6⟩ := h4 (by omega)
  obtain ⟨pv, h7, _⟩ := h6 k hk
  exact ⟨g, o, rfl, h5, h7.1, h7.2.1⟩
set_option maxHeartbeats 4000000 in
set_option maxRecDepth 100000 in
theorem fo_any (a0 : Option Addr) (len0 cap0 : Nat) (z0 : List Int) (a1 : Option Addr) (len1 cap1 : Nat) (z1 : List Int) (w : World) (w0 : IsRow .u8 w a0 len0 cap0 z0) (w1 : IsRow .u8 w a1 len1 cap1 z1) :
    Calls Try.prog 3 #[.slice a0 len0 cap0, .slice a1 len1 cap1] w fun e w' => e = .returned (.bool true) ∧ Below w.heap.size w w' := by
  have b0 := w0.len
  have b1 := w1.len
  by_cases hl : len0 ≤ 1048576 ∧ len1 ≤ 1048576
  · obtain ⟨hl0, hl1⟩ := hl
    have hc0 := w0.code hl0
    have HL := Lib.hid (show Calls Try.prog 5 #[.slice a0 len0 cap0, .slice a1 len1 cap1] w fun e w' => e = .returned (.bool false) ∧ w = w' from long_no _ _ _ _ _ _ _ hl0 hl1)
    have HD := Lib.hid (drawPg_any w _ hc0)
    clear w0 w1 hc0 hl0 hl1 b0 b1
    go_enter Try.func3, Try.ntmps3
    go_wp2_with fail
    refine HL.out.mono ?_
    rintro e w' ⟨rfl, rfl⟩
    go_wp2_with fail
    refine HD.out.mono ?_
    rintro e w1 ⟨v, F, block, page, raw, rfl, ⟨u, rfl, hb⟩, hbent, hraw, b1⟩
    obtain ⟨A, nb, cb, rfl⟩ := hb.slice
    unfold flc
    have hz1 := b1.size
    have f1 : FlIn (w1.alloc (.cells #[.int .i64 F.d, .int .i64 F.b, .int .i64 F.p, .slice A nb cb, .int .i64 F.fu, .int .i64 F.ke, .bool F.off, .int .i64 F.op] 28)) w.heap.size w1.heap.size (.agg (flc F (.slice A nb cb))) F := ⟨_, rfl, hb.same (sm ((Below.refl w1.heap.size _).alloc (Nat.le_refl _) (.cells #[.int .i64 F.d, .int .i64 F.b, .int .i64 F.p, .slice A nb cb, .int .i64 F.fu, .int .i64 F.ke, .bool F.off, .int .i64 F.op] 28)) _ (Nat.le_refl _))⟩
    have r1 := Rw.new w1 28 #[.int .i64 F.d, .int .i64 F.b, .int .i64 F.p, .slice A nb cb, .int .i64 F.fu, .int .i64 F.ke, .bool F.off, .int .i64 F.op]
    have bb1 := b1.alloc hz1 (.cells #[.int .i64 F.d, .int .i64 F.b, .int .i64 F.p, .slice A nb cb, .int .i64 F.fu, .int .i64 F.ke, .bool F.off, .int .i64 F.op] 28)
    obtain ⟨G, c, hG⟩ := progEnds F block page raw
    have HP := Lib.hid (implProg_any _ block page raw F G c _ _ _ f1 (by simp) hG hbent.lens (by omega))
    have F1 := Lib.hid f1
    have R1 := Lib.hid r1
    have B1 := Lib.hid bb1
    have HG := Lib.hid hG
    have BENT := Lib.hid hbent
    have hrs : raw.size ≤ 400 := hraw
    obtain ⟨d0, d1, d2, d3, d4, d5, d6, d7⟩ := r1.eight
    unfold flc at HP
    clear HL HD hb hbent hraw b1 f1 r1 bb1 hG
    go_wp2_with fail
    refine HP.out.mono ?_
    rintro e w2 ⟨y, rfl, ⟨uy, rfl, hby⟩, b2⟩
    obtain ⟨Ay, ny, cy, rfl⟩ := hby.slice
    unfold flc
    have hz2 := b2.size
    simp only [World.size_alloc] at hz2 b2 hby
    have hny : G.bs.length = ny := by obtain ⟨_, _, _, e, _, _, h, _⟩ := hby; injection e with _ e _; omega
    obtain ⟨f, hf⟩ : ∃ f, f = w1.heap.size := ⟨_, rfl⟩
    have R2 := Lib.hid ((R1.out.below b2 (by omega)).alloc (.cells #[.int .i64 G.d, .int .i64 G.b, .int .i64 G.p, .slice Ay ny cy, .int .i64 G.fu, .int .i64 G.ke, .bool G.off, .int .i64 G.op] 28))
    have F2 := Lib.hid ((F1.out.same (sm b2 _ (by omega))).same (sm ((Below.refl w2.heap.size _).alloc (Nat.le_refl _) (.cells #[.int .i64 G.d, .int .i64 G.b, .int .i64 G.p, .slice Ay ny cy, .int .i64 G.fu, .int .i64 G.ke, .bool G.off, .int .i64 G.op] 28)) _ (by omega)))
    have X2 := Lib.hid (Rw.new w2 28 #[.int .i64 G.d, .int .i64 G.b, .int .i64 G.p, .slice Ay ny cy, .int .i64 G.fu, .int .i64 G.ke, .bool G.off, .int .i64 G.op])
    have Y2 := Lib.hid (show FlIn (w2.alloc (.cells #[.int .i64 G.d, .int .i64 G.b, .int .i64 G.p, .slice Ay ny cy, .int .i64 G.fu, .int .i64 G.ke, .bool G.off, .int .i64 G.op] 28)) (w1.heap.size + 1) w2.heap.size (.agg (flc G (.slice Ay ny cy))) G from ⟨_, rfl, hby.reads.same (sm ((Below.refl w2.heap.size _).alloc (Nat.le_refl _) (.cells #[.int .i64 G.d, .int .i64 G.b, .int .i64 G.p, .slice Ay ny cy, .int .i64 G.fu, .int .i64 G.ke, .bool G.off, .int .i64 G.op] 28)) _ (Nat.le_refl _))⟩)
    have B2 := Lib.hid ((B1.out.trans (b2.mono (by omega))).alloc (by omega) (.cells #[.int .i64 G.d, .int .i64 G.b, .int .i64 G.p, .slice Ay ny cy, .int .i64 G.fu, .int .i64 G.ke, .bool G.off, .int .i64 G.op] 28))
    have HNY := Lib.hid hny
    clear R1 F1 B1 HP b2 hby hny d0 d1 d2 d3 d4 d5 d6 d7
    rcases prog_codes HG.out with ⟨rfl, hok, hr91, hoff, hfu, k, n, rfl, rfl, hkl, hnp, hbad, hnx, hGe⟩ | rfl | ⟨⟨hc0, hc8⟩, hGz⟩
    · have hop := hok.2.2.2.2.2
      have hbl := BENT.out.lens
      have hz1f : f < w2.heap.size := by omega
      have S2 := Lib.hid (show FoSt F G A nb cb Ay ny cy f w2.heap.size w (w2.alloc (.cells #[.int .i64 G.d, .int .i64 G.b, .int .i64 G.p, .slice Ay ny cy, .int .i64 G.fu, .int .i64 G.ke, .bool G.off, .int .i64 G.op] 28)) from ⟨by rw [hf]; exact R2.out, X2.out, F2.out.wide (Nat.zero_le _) (by simp; omega), Y2.out.wide (Nat.zero_le _) (by simp), B2.out⟩)
      obtain ⟨g1, g2, g3, g4, g5, g6, g7, g8, g9, g10, g11⟩ := order_prog (k := k) (n := n) hok ⟨hop, by have := BENT.out.2.2; omega⟩ hoff hfu hkl hnp hnx hbad hr91
      rw [← hGe] at g1 g2 g3 g4 g5 g6 g7 g8 g9 g10 g11
      have hGl := g1.lens
      have HRD := Lib.hid (fun (W : World) (S : FoSt F G A nb cb Ay ny cy f w2.heap.size w W) => implRead_any _ (k : Int) (n : Int) G raw 0 W _ _ S.2.2.2.1 (Nat.le_refl _) g2 hGl)
      have HVA := Lib.hid (fun (W : World) (S : FoSt F G A nb cb Ay ny cy f w2.heap.size w W) => specValid_any _ G true W _ _ S.2.2.2.1 (Nat.le_refl _) (by simp [g1]) hGl)
      have HOT := Lib.hid (fun (W : World) (S : FoSt F G A nb cb Ay ny cy f w2.heap.size w W) => others_any _ _ G F (k : Int) (n : Int) (n : Int) W _ _ _ _ S.2.2.2.1 S.2.2.1 (Nat.le_refl _) (Nat.le_refl _) g3 hGl)
      have HPR := Lib.hid (fun (W : World) (S : FoSt F G A nb cb Ay ny cy f w2.heap.size w W) => implProg_any _ (k : Int) (n : Int) raw G Fl.zero 5 W _ _ S.2.2.2.1 (Nat.le_refl _) g11 hGl (by omega))
      have HG1 := Lib.hid g1
      have HOP := Lib.hid (show G.op = F.op + 1 ∧ 0 ≤ F.op ∧ F.op ≤ 8 from ⟨g4, hop, BENT.out.2.2.2⟩)
      have HNX := Lib.hid (show (F.blk k).nx = n ∧ (G.blk k).nx = n + 1 ∧ (G.blk k).er = (F.blk k).er ∧ (G.blk k).bad = false ∧ G.off = false ∧ G.p = F.p ∧ G.bs.length = F.bs.length from ⟨hnx, g7, g8, g9, g10, g5, g6⟩)
      have hnb : F.bs.length = nb := (S2.out.2.2.1.heads).1
      have hnk : (n : Int) < 16 := by have := hok.1.p16; omega
      have hkb : k < nb := by omega
      have hnb2 : nb ≤ 36 := by have := hok.len; omega
      have hwn : IntKind.i64.wrap ((n : Int) + 1) = (n : Int) + 1 := IntWalk.i64_in _ (by omega)
      have hxs := str_same (rfl : raw = raw)
      have HNY := Lib.hid (show ny = nb by have := HNY.out; omega)
      have HFP := Lib.hid (And.intro hok hnp)
      obtain ⟨d0, d1, d2, d3, d4, d5, d6, d7⟩ := S2.out.2.1.eight
      clear R2 X2 F2 Y2 B2 HG BENT hGe hop hbl g1 g2 g3 g4 g5 g6 g7 g8 g9 g10 g11 hok hnp hnx hbad hkl hnb hGl hr91 hoff hfu hz1f
      rw [← hf]
      clear hf hz1 hz2
      go_wp2_with fail
      clear d0 d1 d2 d3 d4 d5 d6 d7
      obtain ⟨x, hx⟩ : ∃ x, x = w2.heap.size := ⟨_, rfl⟩
      rw [← hx] at S2 HRD HVA HOT HPR ⊢
      clear hx
      refine (HRD.out _ S2.out).mono ?_
      rintro e w3 ⟨rfl, b3⟩
      have S3 := Lib.hid (S2.out.below b3)
      clear S2 b3 HRD
      obtain ⟨d0, d1, d2, d3, d4, d5, d6, d7⟩ := S3.out.2.1.eight
      go_wp2_with fail
      clear d0 d1 d2 d3 d4 d5 d6 d7
      refine (HVA.out _ S3.out).mono ?_
      rintro e w4 ⟨rfl, b4⟩
      have S4 := Lib.hid (S3.out.below b4)
      clear S3 b4 HVA
      obtain ⟨d0, d1, d2, d3, d4, d5, d6, d7⟩ := S4.out.2.1.eight
      obtain ⟨e0, e1, e2, e3, e4, e5, e6, e7⟩ := S4.out.1.eight
      go_wp2_with fail
      clear d0 d1 d2 d3 d4 d5 d6 d7 e0 e1 e2 e3 e4 e5 e6 e7
      refine (HOT.out _ S4.out).mono ?_
      rintro e w5 ⟨rfl, b5⟩
      have S5 := Lib.hid (S4.out.below b5)
      clear S4 b5 HOT
      have hny := HNY.out
      clear HNY
      subst hny
      obtain ⟨gy, oy, rfl, hgy, -, r1⟩ := (S5.out.2.2.2.1.heads).2 k hkb
      rw [HNX.out.2.1] at r1
      obtain ⟨d0, d1, d2, d3, d4, d5, d6, d7⟩ := S5.out.2.1.eight
      obtain ⟨e0, e1, e2, e3, e4, e5, e6, e7⟩ := S5.out.1.eight
      rw [HOP.out.1] at d7
      have hki : (k : Int) < (ny : Int) := by omega
      have hkj : ¬ (ny : Int) ≤ (k : Int) := by omega
      have hop0 := HOP.out.2.1
      have hop8 := HOP.out.2.2
      have hwo : IntKind.i64.wrap (F.op + 1) = F.op + 1 := IntWalk.i64_in _ (by omega)
      have q1 : (((n : Int) + 1) != ((n : Int) + 1)) = false := by simp
      have q2 : ((F.op + 1) != (F.op + 1)) = false := by simp
      go_upto_if 104 with fail
      clear d0 d1 d2 d3 d4 d5 d6 d7 e0 e1 e2 e3 e4 e5 e6 e7 r1 q1 q2 hwo hwn hki hkj hop0 hop8
      obtain ⟨d0, d1, d2, d3, d4, d5, d6, d7⟩ := S5.out.2.1.eight
      by_cases hfz : G.fu = 0
      · rw [hfz] at d4
        clear hfz
        clear d0 d1 d2 d3 d5 d6 d7
        go_wp2
        go_ret
        exact ⟨rfl, S5.out.2.2.2.2⟩
      · have hfb : (G.fu == 0) = false := by simp [hfz]
        have HFZ := Lib.hid hfz
        clear hfz
        go_wp2_with fail
        refine (HPR.out _ S5.out).mono ?_
        rintro e w6 ⟨z, rfl, ⟨uz, rfl, hz⟩, b6⟩
        obtain ⟨Az, nz, cz, rfl⟩ := hz.slice
        unfold flc Fl.zero
        dsimp only
        have S6 := Lib.hid ((S5.out.below b6).alloc (.cells #[.int .i64 0, .int .i64 0, .int .i64 0, .slice Az nz cz, .int .i64 0, .int .i64 0, .bool false, .int .i64 0] 28))
        clear S5 b6 hz HPR d0 d1 d2 d3 d4 d5 d6 d7 hfb
        obtain ⟨d0, d1, d2, d3, d4, d5, d6, d7⟩ := S6.out.2.1.eight
        have hnx := HNX.out
        have hgl := HG1.out.lens
        have hok := HG1.out
        have hkl : k < G.bs.length := by have := (S6.out.2.2.2.1.heads).1; omega
        by_cases her : (G.blk k).er = 1000
        · have HER := Lib.hid (implEra_any _ (k : Int) G Fl.zero 7 _ _ _ S6.out.2.2.2.1 (Nat.le_refl _) (.bad hok hnx.2.2.2.2.1 k rfl hkl (.inr her)) hgl)
          have HEF := Lib.hid (hnx.2.2.1.symm.trans her)
          clear her hnx hgl hok hkl
          go_wp2_with fail
          refine HER.out.mono ?_
          rintro e w7 ⟨y, rfl, ⟨uy, rfl, hy⟩, b7⟩
          obtain ⟨Ay, ny7, cy7, rfl⟩ := hy.slice
          unfold flc Fl.zero
          dsimp only
          have S7 := Lib.hid ((S6.out.below b7).alloc (.cells #[.int .i64 0, .int .i64 0, .int .i64 0, .slice Ay ny7 cy7, .int .i64 0, .int .i64 0, .bool false, .int .i64 0] 28))
          clear S6 b7 hy HER d0 d1 d2 d3 d4 d5 d6 d7
          obtain ⟨gf, of, rfl, hgf, r0, -⟩ := (S7.out.2.2.1.heads).2 k hkb
          rw [HEF.out] at r0
          obtain ⟨e0, e1, e2, e3, e4, e5, e6, e7⟩ := S7.out.1.eight
          have hki : (k : Int) < (ny : Int) := by omega
          go_wp2
          go_ret
          exact ⟨rfl, S7.out.2.2.2.2⟩
        · have hop := HOP.out
          have hfp := HFP.out
          obtain ⟨q1, q2, q3, q4, q5, q6⟩ := order_erase (F := G) (k := k) (n := n) hok ⟨by omega, by omega⟩ hnx.2.2.2.2.1 HFZ.out hkl (by rw [hnx.2.2.2.2.2.1]; exact hfp.2) hnx.2.2.2.1 her
          have hbz := (hok.1.p16)
          obtain ⟨Z, hZ⟩ : ∃ Z, Z = G.erase k := ⟨_, rfl⟩
          rw [← hZ] at q1 q2 q3 q4 q5 q6
          have hzl := q2.lens
          have HER := Lib.hid (implEra_any _ (k : Int) G Z 0 _ _ _ S6.out.2.2.2.1 (Nat.le_refl _) q1 hgl)
          have HE6 := Lib.hid (show (Z.blk k).er = (F.blk k).er + 1 by rw [q6, hnx.2.2.1])
          have HEI := Lib.hid (hok.2.2.1 k hkl)
          obtain ⟨eB, heB⟩ : ∃ s, s = erasedB := ⟨_, rfl⟩
          have HIE := Lib.hid (fun (W : World) => implIsErased_any eB true W (by rw [heB, erasedB_size]; omega) (by simp [heB]))
          rw [← heB] at q3
          clear heB
          have HPP := Lib.hid (show G.p = F.p ∧ 8 ≤ F.p ∧ F.p ≤ 16 by rw [← hnx.2.2.2.2.2.1]; exact ⟨rfl, hbz⟩)
          have Q3 := Lib.hid q3
          have Q4 := Lib.hid q4
          have HZL := Lib.hid hzl
          have HNZ := Lib.hid (show Z.bs.length = ny by have := (S6.out.2.2.2.1.heads).1; omega)
          have HERE := Lib.hid (show 0 ≤ (F.blk k).er ∧ (F.blk k).er ≤ 1000 by have := (HEI.out).1; rw [hnx.2.2.1] at this; exact this)
          clear hop hfp q1 q2 q3 q4 q5 q6 hZ hzl hnx hgl hok hkl her hbz HEI
          go_wp2_with fail
          refine HER.out.mono ?_
          rintro e w7 ⟨y, rfl, ⟨uw, rfl, hw⟩, b7⟩
          obtain ⟨Aw, nw, cw, rfl⟩ := hw.slice
          unfold flc
          have hsz7 := b7.size
          have s7 := (S6.out.below b7).alloc (.cells #[.int .i64 Z.d, .int .i64 Z.b, .int .i64 Z.p, .slice Aw nw cw, .int .i64 Z.fu, .int .i64 Z.ke, .bool Z.off, .int .i64 Z.op] 28)
          have S7 := Lib.hid s7
          have T7 := Lib.hid (show FoSt G Z (some ⟨gy, oy, none⟩) ny cy Aw nw cw x w7.heap.size w (w7.alloc (.cells #[.int .i64 Z.d, .int .i64 Z.b, .int .i64 Z.p, .slice Aw nw cw, .int .i64 Z.fu, .int .i64 Z.ke, .bool Z.off, .int .i64 Z.op] 28)) from ⟨s7.2.1, Rw.new _ _ _, s7.2.2.2.1, ⟨_, rfl, (hw.reads.same (sm ((Below.refl w7.heap.size _).alloc (Nat.le_refl _) _) _ (Nat.le_refl _))).wide (Nat.zero_le _) (by simp)⟩, s7.2.2.2.2⟩)
          obtain ⟨c0, c1, c2, c3, c4, c5, c6, c7⟩ := T7.out.2.1.eight
          clear S6 b7 hw HER d0 d1 d2 d3 d4 d5 d6 d7 s7
          have HRZ := Lib.hid (fun (W : World) (T : FoSt G Z (some ⟨gy, oy, none⟩) ny cy Aw nw cw x w7.heap.size w W) => implRead_any _ (k : Int) (n : Int) Z eB 0 W _ _ T.2.2.2.1 (Nat.le_refl _) Q3.out HZL.out)
          go_wp2_with fail
          clear c0 c1 c2 c3 c4 c5 c6 c7
          obtain ⟨zb, hzb⟩ : ∃ zb, zb = w7.heap.size := ⟨_, rfl⟩
          rw [← hzb] at T7 HRZ ⊢
          clear hzb hsz7
          refine (HRZ.out _ T7.out).mono ?_
          rintro e w8 ⟨rfl, b8⟩
          have S8 := Lib.hid (S7.out.below b8)
          have T8 := Lib.hid (T7.out.below b8)
          clear S7 T7 b8 HRZ Q3
          obtain ⟨gz, oz, rfl, hgz, zr, -⟩ := (T8.out.2.2.2.1.heads).2 k (by have := HNZ.out; have := (T8.out.2.2.2.1.heads).1; omega)
          obtain ⟨gf, of, rfl, hgf, fr, -⟩ := (S8.out.2.2.1.heads).2 k hkb
          have hnw : nw = ny := by have := HNZ.out; have := (T8.out.2.2.2.1.heads).1; omega
          subst hnw
          have HCA := Lib.hid (fun (W : World) (B : Below w8.heap.size w8 W) => others_any _ _ Z G (k : Int) 0 (G.p - 1) W _ _ _ _ (T8.out.below B).2.2.2.1 (T8.out.below B).2.2.1 (Nat.le_refl _) (Nat.le_refl _) Q4.out HZL.out)
          have HERR := HERE.out
          have hpp := HPP.out
          rw [HE6.out] at zr
          have hk5 := HPP.out.1
          have TB := Lib.hid zr
          have FB := Lib.hid fr
          have KP := Lib.hid (fun (W : World) (B : Below w8.heap.size w8 W) => (show W.cell? ⟨zb, 0, none⟩ = some (.int .i64 Z.d) ∧ W.cell? ⟨zb, 1, none⟩ = some (.int .i64 Z.b) ∧ W.cell? ⟨zb, 2, none⟩ = some (.int .i64 Z.p) ∧ W.cell? ⟨zb, 3, none⟩ = some (.slice (some ⟨gz, oz, none⟩) nw cw) ∧ W.cell? ⟨zb, 4, none⟩ = some (.int .i64 Z.fu) ∧ W.cell? ⟨zb, 5, none⟩ = some (.int .i64 Z.ke) ∧ W.cell? ⟨zb, 6, none⟩ = some (.bool Z.off) ∧ W.cell? ⟨zb, 7, none⟩ = some (.int .i64 Z.op) ∧ W.cell? ⟨x, 0, none⟩ = some (.int .i64 G.d) ∧ W.cell? ⟨x, 1, none⟩ = some (.int .i64 G.b) ∧ W.cell? ⟨x, 2, none⟩ = some (.int .i64 G.p) ∧ W.cell? ⟨x, 3, none⟩ = some (.slice (some ⟨gy, oy, none⟩) nw cy) ∧ W.cell? ⟨x, 4, none⟩ = some (.int .i64 G.fu) ∧ W.cell? ⟨x, 5, none⟩ = some (.int .i64 G.ke) ∧ W.cell? ⟨x, 6, none⟩ = some (.bool G.off) ∧ W.cell? ⟨x, 7, none⟩ = some (.int .i64 G.op) ∧ W.cell? ⟨f, 3, none⟩ = some (.slice (some ⟨gf, of, none⟩) nw cb) ∧ W.cell? ⟨gz, oz + k * 4, none⟩ = some (.int .i64 ((F.blk k).er + 1)) ∧ W.cell? ⟨gf, of + k * 4, none⟩ = some (.int .i64 (F.blk k).er) from by
            obtain ⟨x0, x1, x2, x3, x4, x5, x6, x7⟩ := (T8.out.below B).1.eight
            obtain ⟨z0, z1, z2, z3, z4, z5, z6, z7⟩ := (T8.out.below B).2.1.eight
            obtain ⟨f0, f1, f2, f3, f4, f5, f6, f7⟩ := (S8.out.below B).1.eight
            exact ⟨z0, z1, z2, z3, z4, z5, z6, z7, x0, x1, x2, x3, x4, x5, x6, x7, f3, (B.cell (p := ⟨gz, oz + k * 4, none⟩) hgz).trans zr, (B.cell (p := ⟨gf, of + k * 4, none⟩) hgf).trans fr⟩))
          have hw1 : IntKind.i64.wrap (G.p - 1) = G.p - 1 := IntWalk.i64_in _ (by omega)
          have hw2 : IntKind.i64.wrap ((F.blk k).er + 1) = (F.blk k).er + 1 := IntWalk.i64_in _ (by omega)
          have hq : (((F.blk k).er + 1) == ((F.blk k).er + 1)) = true := by simp
          have hki : (k : Int) < (nw : Int) := by omega
          obtain ⟨er, her⟩ : ∃ er, er = (F.blk k).er := ⟨_, rfl⟩
          rw [← her] at KP hw2 hq
          clear zr fr TB FB HE6 her hpp HERR hk5
          go_wp2_with fail
          go_region_held3 (fun W => W.cell? ⟨zb, 0, none⟩ = some (.int .i64 Z.d) ∧ W.cell? ⟨zb, 1, none⟩ = some (.int .i64 Z.b) ∧ W.cell? ⟨zb, 2, none⟩ = some (.int .i64 Z.p) ∧ W.cell? ⟨zb, 3, none⟩ = some (.slice (some ⟨gz, oz, none⟩) nw cw) ∧ W.cell? ⟨zb, 4, none⟩ = some (.int .i64 Z.fu) ∧ W.cell? ⟨zb, 5, none⟩ = some (.int .i64 Z.ke) ∧ W.cell? ⟨zb, 6, none⟩ = some (.bool Z.off) ∧ W.cell? ⟨zb, 7, none⟩ = some (.int .i64 Z.op) ∧ W.cell? ⟨x, 0, none⟩ = some (.int .i64 G.d) ∧ W.cell? ⟨x, 1, none⟩ = some (.int .i64 G.b) ∧ W.cell? ⟨x, 2, none⟩ = some (.int .i64 G.p) ∧ W.cell? ⟨x, 3, none⟩ = some (.slice (some ⟨gy, oy, none⟩) nw cy) ∧ W.cell? ⟨x, 4, none⟩ = some (.int .i64 G.fu) ∧ W.cell? ⟨x, 5, none⟩ = some (.int .i64 G.ke) ∧ W.cell? ⟨x, 6, none⟩ = some (.bool G.off) ∧ W.cell? ⟨x, 7, none⟩ = some (.int .i64 G.op) ∧ W.cell? ⟨f, 3, none⟩ = some (.slice (some ⟨gf, of, none⟩) nw cb) ∧ W.cell? ⟨gz, oz + k * 4, none⟩ = some (.int .i64 (er + 1)) ∧ W.cell? ⟨gf, of + k * 4, none⟩ = some (.int .i64 er))
            (first
              | exact KP.out _ (Below.refl _ _).drew
              | exact KP.out _ hbI
              | exact KP.out _ hbO)
            (first
              | (go_at_call 12
                 refine (HIE.out _).mono ?_
                 rintro e wI ⟨rfl, hI⟩
                 have hbI : Below w8.heap.size w8 wI := (Below.refl w8.heap.size w8).drew.trans hI)
              | (go_at_call 10
                 refine (HCA.out _ hbI).mono ?_
                 rintro e wO ⟨rfl, hO⟩
                 have hbO : Below w8.heap.size w8 wO := hbI.trans (hO.mono hbI.size)))
          go_wp2
          go_ret
          exact ⟨rfl, T8.out.2.2.2.2.trans (hbO.mono T8.out.2.2.2.2.size)⟩
    · clear hf
      go_wp2
      go_ret
      exact ⟨rfl, B2.out⟩
    · have e0 : (c != 0) = true := by simp; omega
      have e8 : (c == 8) = false := by simp; omega
      have hn0 : ny = 0 := by have := HNY.out; rw [hGz] at this; simpa using this.symm
      subst hn0
      obtain ⟨x0, x1, x2, x3, x4, x5, x6, x7⟩ := X2.out.eight
      clear hf hGz HG HNY hc0 hc8
      go_wp2
      go_ret
      exact ⟨rfl, B2.out⟩
  · clear w0 w1
    go_enter Try.func3, Try.ntmps3
    go_wp2_with (go_at_call 5; refine (long_yes _ _ _ _ _ _ _ b0 b1 (by omega)).mono ?_; rintro e w' ⟨rfl, rfl⟩)
    go_ret
    exact ⟨rfl, Below.refl _ _⟩
end Go.Proofs.Ytlmdpdidjldkpaa
