/- ReadRaw, in the model and in the program: the contracts. -/
import Derived.Test.YteigdjocjcjkiaaProg
import Derived.Test.YteigdjocjcjkiaaFlT
import Derived.Test.YteigdjocjcjkiaaHb
import Derived.Test.YteigdjocjcjkiaaFlW
namespace Go.Proofs.Yteigdjocjcjkiaa
open Go.RowKit
set_option linter.unusedVariables false
/-- A page of an array that is read. -/
theorem page_at {W : World} {lo hi n cap : Nat} {A : Option Addr} {L : List Blk} (h : BksIn W lo hi (.slice A n cap) L) {k m : Nat} (hk : k < n) (hm : m < (L.getD k Blk.zero).pg.length) :
    ∃ gb o b po pc, A = some ⟨gb, o, none⟩ ∧ gb < hi ∧ b < hi ∧ W.cell? ⟨gb, o + k * 4 + 3, none⟩ = some (.slice (some ⟨b, po, none⟩) (L.getD k Blk.zero).pg.length pc) ∧ W.cell? ⟨b, po + m, none⟩ = some (.string ((L.getD k Blk.zero).at m)) ∧ ((L.getD k Blk.zero).at m).size ≤ 9223372036854775807 := by
  obtain ⟨A', n', c', e, _, _, _, hx⟩ := h
  injection e with e1 e2 e3
  subst e1 e2 e3
  obtain ⟨gb, o, e, h1, h2, hy⟩ := hx (by omega)
  obtain ⟨pv, hp, hpg⟩ := hy k hk
  obtain ⟨A2, n2, c2, rfl, _, _, h5, h6, h7⟩ := hpg
  obtain ⟨b, po, rfl, h8, h9, hc⟩ := h7 (by omega)
  exact ⟨gb, o, b, po, c2, e, h2, h9, by rw [h5]; exact hp.2.2.2, hc m (by omega), h6 m (by omega)⟩
theorem empty_list : (ByteArray.empty : ByteArray).toList = [] := by rw [ByteArray.toList_eq]; rfl
theorem blkRead_no (gb o b po P pc m : Nat) (w : World) (q3 : w.cell? ⟨gb, o + 3, none⟩ = some (.slice (some ⟨b, po, none⟩) P pc)) (cp : w.cell? ⟨b, po + m, none⟩ = some (.string ByteArray.empty)) (hm : (m : Int) < (P : Int)) (hP : (P : Int) ≤ 16) :
    Calls Try.prog 46 #[.pointer (some ⟨gb, o, none⟩), .int .i64 (m : Int)] w fun e w' => e = .returned (.string (fillB 255 91)) ∧ Below w.heap.size w w' := by
  have hyl := empty_list
  have HEr := Lib.hid (fun (W : World) => implErased_any W)
  have h9 := fillB_size 255 91
  go_enter Try.func46, Try.ntmps46
  go_wp2_with fail
  refine (HEr.out _).mono ?_
  rintro e w2 ⟨rfl, b2⟩
  have B2 := Lib.hid b2
  clear b2
  go_wp2
  go_ret
  exact ⟨rfl, B2.out⟩
theorem blkRead_yes (gb o b po P pc m : Nat) (y : ByteArray) (w : World) (q3 : w.cell? ⟨gb, o + 3, none⟩ = some (.slice (some ⟨b, po, none⟩) P pc)) (cp : w.cell? ⟨b, po + m, none⟩ = some (.string y)) (hm : (m : Int) < (P : Int)) (hP : (P : Int) ≤ 16) (hcs : y.size ≤ 9223372036854775807) (h2 : y ≠ ByteArray.empty) :
    Calls Try.prog 46 #[.pointer (some ⟨gb, o, none⟩), .int .i64 (m : Int)] w fun e w' => e = .returned (.string y) ∧ Below w.heap.size w w' := by
  have hne : y.size ≠ 0 := fun e => h2 (by apply ByteArray.ext; apply Array.eq_empty_of_size_eq_zero; exact e)
  obtain ⟨hn1, hn2⟩ := bytes_ne hne
  have B0 := Lib.hid (Below.refl w.heap.size w)
  clear h2
  go_enter Try.func46, Try.ntmps46
  go_wp2
  go_ret
  exact ⟨rfl, B0.out⟩
set_option maxHeartbeats 1000000 in
theorem implRead_any (v : Value) (block page : Int) (F : Fl) (s : ByteArray) (c : Int) (w : World) (lo hi : Nat) (h : FlIn w lo hi v F) (hh : hi ≤ w.heap.size) (hE : ReadEnds F block page s c) (hl : FlLen F) :
    Calls Try.prog 16 #[v, .int .i64 block, .int .i64 page] w (PairPost s c w) := by
  obtain ⟨r, hr⟩ := prop_dec (FlOk F)
  obtain ⟨u, rfl, hb⟩ := h
  have hv : ∀ W : World, BksIn W lo hi u F.bs → FlIn W lo hi (.agg (flc F u)) F := fun W a => ⟨u, rfl, a⟩
  have HV := Lib.hid (fun (W : World) (a : BksIn W lo hi u F.bs) (c : hi ≤ W.heap.size) => implValid_any (.agg (flc F u)) F r W lo hi (hv W a) c hr hl)
  have H := Lib.hid hb
  have hbl : ∃ A n c, u = .slice A n c ∧ F.bs.length = n := by obtain ⟨A, n, c, e, _, _, h, _⟩ := hb; exact ⟨A, n, c, e, h⟩
  obtain ⟨Au, nu, cu, rfl, hlen⟩ := hbl
  clear hb hv hl
  have hFl : flc F (.slice Au nu cu) = #[.int .i64 F.d, .int .i64 F.b, .int .i64 F.p, .slice Au nu cu, .int .i64 F.fu, .int .i64 F.ke, .bool F.off, .int .i64 F.op] := rfl
  rw [hFl] at HV ⊢
  have R0 := Lib.hid (Rw.new w 31 #[.int .i64 F.d, .int .i64 F.b, .int .i64 F.p, .slice Au nu cu, .int .i64 F.fu, .int .i64 F.ke, .bool F.off, .int .i64 F.op])
  have B0 := Lib.hid ((Below.refl w.heap.size w).alloc (Nat.le_refl _) (.cells #[.int .i64 F.d, .int .i64 F.b, .int .i64 F.p, .slice Au nu cu, .int .i64 F.fu, .int .i64 F.ke, .bool F.off, .int .i64 F.op] 31))
  clear hFl
  have HE := Lib.hid hE
  have HLN := Lib.hid hlen
  have HP16 := Lib.hid (fun (h : FlOk F) => h.1.p16)
  have HPL := Lib.hid (fun (h : FlOk F) (i : Nat) (hi : i < F.bs.length) => h.plen hi)
  have HLE := Lib.hid (fun (h : FlOk F) => h.len)
  have HHP := Lib.hid (fun (W : World) (hok : FlOk F) (r : Bool) (hr : r = true ↔ ((0 ≤ block ∧ block < (nu : Int)) ∧ (0 ≤ page ∧ page < F.p))) => geoPage_any F.d F.b F.p block page r W hok.1 (by have := hok.2.1; rw [hlen] at this; rw [← this]; exact hr))
  clear hE hlen
  generalize hoff : F.off = off at *
  have HOF := Lib.hid hoff
  clear hoff
  go_enter Try.func16, Try.ntmps16
  go_wp2_with fail
  refine (HV.out _ (H.out.same (sm B0.out lo hh)) (by simp; omega)).mono ?_
  rintro e w1 ⟨rfl, b1⟩
  have S0 := Lib.hid (R0.out.below b1 (by simp))
  have B1 := Lib.hid (B0.out.trans (b1.mono (by simp)))
  have hsz1 := b1.size
  simp only [World.size_alloc] at hsz1
  obtain ⟨a0, a1, a2, a3, a4, a5, a6, a7⟩ := S0.out.eight
  clear b1
  rcases HE.out with hno | ⟨hok, h1⟩ | ⟨hok, h1, h2⟩ | ⟨hok, h1, k, m, rfl, rfl, hkl, hnp, h2⟩ | ⟨hok, h1, k, m, rfl, rfl, hkl, hnp, h2⟩
  · obtain rfl : r = false := (bool_of r hr).2 hno
    clear hr hno
    go_wp2
    go_ret2
    exact ⟨rfl, B1.out⟩
  all_goals
    obtain rfl : r = true := hr.2 hok
    rw [HOF.out] at h1
    subst h1
    have hl9 := HLE.out hok
    have hp9 := HP16.out hok
    rw [HLN.out] at hl9
    clear hr
  · clear hok hp9
    go_wp2
    go_ret2
    exact ⟨rfl, B1.out⟩
  · have HF := Lib.hid (HHP.out w1 hok false (by
      rw [HLN.out] at h2
      simp only [Bool.false_eq_true, false_iff]
      rintro ⟨a, b⟩
      rcases h2 with h2 | h2 <;> contradiction))
    clear hok h2 hp9
    go_wp2_with fail
    refine HF.out.mono ?_
    rintro e w' ⟨rfl, bx⟩
    have BX := Lib.hid (B1.out.trans (bx.mono (by omega)))
    clear bx
    go_wp2
    go_ret2
    exact ⟨rfl, BX.out⟩
  · have HF := Lib.hid (HHP.out w1 hok true (by rw [HLN.out] at hkl; simp; omega))
    have hpl := HPL.out hok k hkl
    rw [HLN.out] at hkl
    obtain ⟨gb, o, b, po, pc, rfl, hg1, hb1, q3, cp, hcs⟩ := page_at (H.out.same (sm B1.out lo hh)) (m := m) hkl (by show m < (F.blk k).pg.length; omega)
    change w1.cell? ⟨gb, o + k * 4 + 3, none⟩ = some (.slice (some ⟨b, po, none⟩) (F.blk k).pg.length pc) at q3
    change w1.cell? ⟨b, po + m, none⟩ = some (.string ((F.blk k).at m)) at cp
    change ((F.blk k).at m).size ≤ _ at hcs
    have hki : (k : Int) < (nu : Int) := by omega
    have hmi : (m : Int) < ((F.blk k).pg.length : Int) := by omega
    have hP16 : ((F.blk k).pg.length : Int) ≤ 16 := by omega
    have hnu : (nu : Int) ≤ 36 := by omega
    generalize (F.blk k).pg.length = P at *
    generalize (F.blk k).at m = y at *
    subst h2
    clear hok hpl hp9 hl9
    go_wp2_with fail
    refine HF.out.mono ?_
    rintro e w' ⟨rfl, bx⟩
    have BX := Lib.hid (B1.out.trans (bx.mono (by omega)))
    have SX := Lib.hid (S0.out.below bx (by omega))
    have q3x := (show w'.cell? ⟨gb, o + k * 4 + 3, none⟩ = w1.cell? ⟨gb, o + k * 4 + 3, none⟩ from World.cell?_of_block (w := w1) (bx.block gb (by omega))).trans q3
    have cpx := (show w'.cell? ⟨b, po + m, none⟩ = w1.cell? ⟨b, po + m, none⟩ from World.cell?_of_block (w := w1) (bx.block b (by omega))).trans cp
    have hsx := bx.size
    clear bx a0 a1 a2 a3 a4 a5 a6 a7 q3 cp
    obtain ⟨a0, a1, a2, a3, a4, a5, a6, a7⟩ := SX.out.eight
    have HBR := Lib.hid (blkRead_no gb (o + k * 4) b po P pc m w' q3x cpx hmi hP16)
    go_wp2_with fail
    refine HBR.out.mono ?_
    rintro e w2 ⟨rfl, b2⟩
    have B2 := Lib.hid (BX.out.trans (b2.mono (by omega)))
    clear b2
    go_wp2
    go_ret2
    exact ⟨rfl, B2.out⟩
  · have HF := Lib.hid (HHP.out w1 hok true (by rw [HLN.out] at hkl; simp; omega))
    have hpl := HPL.out hok k hkl
    rw [HLN.out] at hkl
    obtain ⟨gb, o, b, po, pc, rfl, hg1, hb1, q3, cp, hcs⟩ := page_at (H.out.same (sm B1.out lo hh)) (m := m) hkl (by show m < (F.blk k).pg.length; omega)
    change w1.cell? ⟨gb, o + k * 4 + 3, none⟩ = some (.slice (some ⟨b, po, none⟩) (F.blk k).pg.length pc) at q3
    change w1.cell? ⟨b, po + m, none⟩ = some (.string ((F.blk k).at m)) at cp
    change ((F.blk k).at m).size ≤ _ at hcs
    have hki : (k : Int) < (nu : Int) := by omega
    have hmi : (m : Int) < ((F.blk k).pg.length : Int) := by omega
    have hP16 : ((F.blk k).pg.length : Int) ≤ 16 := by omega
    have hnu : (nu : Int) ≤ 36 := by omega
    generalize (F.blk k).pg.length = P at *
    generalize (F.blk k).at m = y at *
    clear hok hpl hp9 hl9
    go_wp2_with fail
    refine HF.out.mono ?_
    rintro e w' ⟨rfl, bx⟩
    have BX := Lib.hid (B1.out.trans (bx.mono (by omega)))
    have SX := Lib.hid (S0.out.below bx (by omega))
    have q3x := (show w'.cell? ⟨gb, o + k * 4 + 3, none⟩ = w1.cell? ⟨gb, o + k * 4 + 3, none⟩ from World.cell?_of_block (w := w1) (bx.block gb (by omega))).trans q3
    have cpx := (show w'.cell? ⟨b, po + m, none⟩ = w1.cell? ⟨b, po + m, none⟩ from World.cell?_of_block (w := w1) (bx.block b (by omega))).trans cp
    have hsx := bx.size
    clear bx a0 a1 a2 a3 a4 a5 a6 a7 q3 cp
    obtain ⟨a0, a1, a2, a3, a4, a5, a6, a7⟩ := SX.out.eight
    have HBR := Lib.hid (blkRead_yes gb (o + k * 4) b po P pc m y w' q3x cpx hmi hP16 hcs h2)
    clear h2
    go_wp2_with fail
    refine HBR.out.mono ?_
    rintro e w2 ⟨rfl, b2⟩
    have B2 := Lib.hid (BX.out.trans (b2.mono (by omega)))
    clear b2
    go_wp2
    go_ret2
    exact ⟨rfl, B2.out⟩
set_option maxRecDepth 100000 in
theorem l06Read_any (g : Nat) (F : Fl) (k m nu cu : Nat) (Au : Option Addr) (lo hi : Nat) (w : World) (bk : BksIn w lo hi (.slice Au nu cu) F.bs) (c3 : w.cell? ⟨g, 3, none⟩ = some (.slice Au nu cu)) (hok : FlOk F) (hlen : F.bs.length = nu) (hkn : k < nu) (hm : (m : Int) < F.p) :
    Calls Try.prog 44 #[.pointer (some ⟨g, 0, none⟩), .int .i64 k, .int .i64 m] w fun e w' => e = .returned (.string (if (F.blk k).at m = ByteArray.empty then erasedB else (F.blk k).at m)) ∧ Below w.heap.size w w' := by
  have hpl := hok.plen (i := k) (by omega)
  have hl9 := hok.len
  obtain ⟨gb, o, b, po, pc, rfl, hg1, hb1, q3, cp, hcs⟩ := page_at bk (m := m) hkn (by show m < (F.blk k).pg.length; omega)
  change w.cell? ⟨gb, o + k * 4 + 3, none⟩ = some (.slice (some ⟨b, po, none⟩) (F.blk k).pg.length pc) at q3
  change w.cell? ⟨b, po + m, none⟩ = some (.string ((F.blk k).at m)) at cp
  change ((F.blk k).at m).size ≤ _ at hcs
  have hki : (k : Int) < (nu : Int) := by omega
  have hmi : (m : Int) < ((F.blk k).pg.length : Int) := by omega
  have hP16 : ((F.blk k).pg.length : Int) ≤ 16 := by omega
  have hnu : (nu : Int) ≤ 36 := by omega
  generalize (F.blk k).pg.length = P at *
  generalize (F.blk k).at m = y at *
  clear hok hpl bk hlen hl9
  by_cases h2 : y = ByteArray.empty
  · rw [if_pos h2]
    subst h2
    have hyl := empty_list
    have HEr := Lib.hid (fun (W : World) => specErased_any W)
    have h9 := fillB_size 255 91
    go_enter Try.func44, Try.ntmps44
    go_wp2_with fail
    refine (HEr.out _).mono ?_
    rintro e w2 ⟨rfl, b2⟩
    go_wp2
    go_ret
    exact ⟨rfl, b2⟩
  · rw [if_neg h2]
    have hne : y.size ≠ 0 := fun e => h2 (by apply ByteArray.ext; apply Array.eq_empty_of_size_eq_zero; exact e)
    obtain ⟨hn1, hn2⟩ := bytes_ne hne
    clear h2
    go_enter Try.func44, Try.ntmps44
    go_wp2
    go_ret
    exact ⟨rfl, Below.refl _ _⟩
set_option maxHeartbeats 1000000 in
theorem specRead_any (v : Value) (block page : Int) (F : Fl) (s : ByteArray) (c : Int) (w : World) (lo hi : Nat) (h : FlIn w lo hi v F) (hh : hi ≤ w.heap.size) (hE : ReadEnds F block page s c) (hl : FlLen F) :
    Calls Try.prog 15 #[v, .int .i64 block, .int .i64 page] w (PairPost s c w) := by
  obtain ⟨r, hr⟩ := prop_dec (FlOk F)
  obtain ⟨u, rfl, hb⟩ := h
  have hv : ∀ W : World, BksIn W lo hi u F.bs → FlIn W lo hi (.agg (flc F u)) F := fun W a => ⟨u, rfl, a⟩
  have HV := Lib.hid (fun (W : World) (a : BksIn W lo hi u F.bs) (c : hi ≤ W.heap.size) => specValid_any (.agg (flc F u)) F r W lo hi (hv W a) c hr hl)
  have H := Lib.hid hb
  have hbl : ∃ A n c, u = .slice A n c ∧ F.bs.length = n := by obtain ⟨A, n, c, e, _, _, h, _⟩ := hb; exact ⟨A, n, c, e, h⟩
  obtain ⟨Au, nu, cu, rfl, hlen⟩ := hbl
  clear hb hv hl
  have hFl : flc F (.slice Au nu cu) = #[.int .i64 F.d, .int .i64 F.b, .int .i64 F.p, .slice Au nu cu, .int .i64 F.fu, .int .i64 F.ke, .bool F.off, .int .i64 F.op] := rfl
  rw [hFl] at HV ⊢
  have R0 := Lib.hid (Rw.new w 31 #[.int .i64 F.d, .int .i64 F.b, .int .i64 F.p, .slice Au nu cu, .int .i64 F.fu, .int .i64 F.ke, .bool F.off, .int .i64 F.op])
  have B0 := Lib.hid ((Below.refl w.heap.size w).alloc (Nat.le_refl _) (.cells #[.int .i64 F.d, .int .i64 F.b, .int .i64 F.p, .slice Au nu cu, .int .i64 F.fu, .int .i64 F.ke, .bool F.off, .int .i64 F.op] 31))
  clear hFl
  have HE := Lib.hid hE
  have HLN := Lib.hid hlen
  have HP16 := Lib.hid (fun (h : FlOk F) => h.1.p16)
  have HPL := Lib.hid (fun (h : FlOk F) (i : Nat) (hi : i < F.bs.length) => h.plen hi)
  have HLE := Lib.hid (fun (h : FlOk F) => h.len)
  have HHP := Lib.hid (fun (W : World) (r : Bool) (hn : nu ≤ 1000) (hp : 0 ≤ F.p ∧ F.p ≤ 1000) (hr : r = true ↔ ((0 ≤ block ∧ block < (nu : Int)) ∧ (0 ≤ page ∧ page < F.p))) => spPage_any F.d F.b F.p F.fu F.ke F.op F.off Au nu cu block page r W hn hp hr)
  clear hE hlen
  generalize hoff : F.off = off at *
  have HOF := Lib.hid hoff
  clear hoff
  go_enter Try.func15, Try.ntmps15
  go_wp2_with fail
  refine (HV.out _ (H.out.same (sm B0.out lo hh)) (by simp; omega)).mono ?_
  rintro e w1 ⟨rfl, b1⟩
  have S0 := Lib.hid (R0.out.below b1 (by simp))
  have B1 := Lib.hid (B0.out.trans (b1.mono (by simp)))
  have hsz1 := b1.size
  simp only [World.size_alloc] at hsz1
  obtain ⟨a0, a1, a2, a3, a4, a5, a6, a7⟩ := S0.out.eight
  clear b1
  rcases HE.out with hno | ⟨hok, h1⟩ | ⟨hok, h1, h2⟩ | ⟨hok, h1, k, m, rfl, rfl, hkl, hnp, h2⟩ | ⟨hok, h1, k, m, rfl, rfl, hkl, hnp, h2⟩
  · obtain rfl : r = false := (bool_of r hr).2 hno
    clear hr hno
    go_wp2
    go_ret2
    exact ⟨rfl, B1.out⟩
  all_goals
    obtain rfl : r = true := hr.2 hok
    rw [HOF.out] at h1
    subst h1
    have hl9 := HLE.out hok
    have hp9 := HP16.out hok
    rw [HLN.out] at hl9
    clear hr
  · clear hok hp9
    go_wp2
    go_ret2
    exact ⟨rfl, B1.out⟩
  · have HF := Lib.hid (HHP.out w1 false (by omega) (by omega) (by
      rw [HLN.out] at h2
      simp only [Bool.false_eq_true, false_iff]
      rintro ⟨a, b⟩
      rcases h2 with h2 | h2 <;> contradiction))
    clear hok h2 hp9
    go_wp2_with fail
    refine HF.out.mono ?_
    rintro e w2 ⟨rfl, b2⟩
    have B2 := Lib.hid (B1.out.trans (b2.mono (by omega)))
    clear b2
    go_wp2
    go_ret2
    exact ⟨rfl, B2.out⟩
  · have HF := Lib.hid (HHP.out w1 true (by omega) (by omega) (by rw [HLN.out] at hkl; simp; omega))
    have hpl := HPL.out hok k hkl
    rw [HLN.out] at hkl
    clear hp9 hl9
    have HRD := Lib.hid (fun (W : World) (bk : BksIn W lo hi (.slice Au nu cu) F.bs) (c3 : W.cell? ⟨w.heap.size, 3, none⟩ = some (.slice Au nu cu)) => l06Read_any w.heap.size F k m nu cu Au lo hi W bk c3 hok HLN.out hkl hnp)
    clear hok hpl
    go_wp2_with fail
    refine HF.out.mono ?_
    rintro e w2 ⟨rfl, b2⟩
    have T0 := Lib.hid (S0.out.below b2 (by omega))
    have B2 := Lib.hid (B1.out.trans (b2.mono (by omega)))
    have hsz2 := b2.size
    clear b2
    go_wp2_with fail
    refine (HRD.out _ (H.out.same (sm B2.out lo hh)) (T0.out.cell 3)).mono ?_
    rintro e w3 ⟨rfl, b3⟩
    have B3 := Lib.hid (B2.out.trans (b3.mono (by omega)))
    clear b3
    rw [if_pos h2]
    go_wp2
    go_ret2
    exact ⟨rfl, B3.out⟩
  · have HF := Lib.hid (HHP.out w1 true (by omega) (by omega) (by rw [HLN.out] at hkl; simp; omega))
    have hpl := HPL.out hok k hkl
    rw [HLN.out] at hkl
    clear hp9 hl9
    have HRD := Lib.hid (fun (W : World) (bk : BksIn W lo hi (.slice Au nu cu) F.bs) (c3 : W.cell? ⟨w.heap.size, 3, none⟩ = some (.slice Au nu cu)) => l06Read_any w.heap.size F k m nu cu Au lo hi W bk c3 hok HLN.out hkl hnp)
    clear hok hpl
    go_wp2_with fail
    refine HF.out.mono ?_
    rintro e w2 ⟨rfl, b2⟩
    have T0 := Lib.hid (S0.out.below b2 (by omega))
    have B2 := Lib.hid (B1.out.trans (b2.mono (by omega)))
    have hsz2 := b2.size
    clear b2
    go_wp2_with fail
    refine (HRD.out _ (H.out.same (sm B2.out lo hh)) (T0.out.cell 3)).mono ?_
    rintro e w3 ⟨rfl, b3⟩
    have B3 := Lib.hid (B2.out.trans (b3.mono (by omega)))
    clear b3
    rw [if_neg h2]
    go_wp2
    go_ret2
    exact ⟨rfl, B3.out⟩
end Go.Proofs.Yteigdjocjcjkiaa
