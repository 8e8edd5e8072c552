/- The proof's own lemmas, part 5: FlEt FlSz DrW NwF DrD DrB. -/
import Derived.Test.YteigdjocjcjkiaaProg
import Derived.Test.YteigdjocjcjkiaaMg3
import Derived.Test.YteigdjocjcjkiaaMg2
import Derived.Test.YteigdjocjcjkiaaMg1
import Derived.Deep.RegionHeld3
import Derived.Deep.CutRange
import Derived.Deep.RegionLaw
import Derived.Deep.OwnRows
import Derived.Maps.AppendAt
import Derived.Deep.DeepCutAuto
import Derived.Deep.CutBlock
/- EraseBlock, the model's: the contract. -/
namespace Go.Proofs.Yteigdjocjcjkiaa
open Go.RowKit
set_option linter.unusedVariables false
set_option maxHeartbeats 4000000 in
theorem specEra_any (v : Value) (block : Int) (F G : Fl) (c : Int) (w : World) (lo hi : Nat) (h : FlIn w lo hi v F) (hh : hi ≤ w.heap.size) (hG : EraEnds F block G c) (hl : FlLen F) :
    Calls Try.prog 110 #[v, .int .i64 block] w (FlPost G c w) := by
  obtain ⟨r, hr⟩ := prop_dec (FlOk F)
  obtain ⟨u, rfl, hb⟩ := h
  have hv : ∀ W : World, BksIn W lo hi u F.bs → FlIn W lo hi (.agg (flc F u)) F := fun W a => ⟨u, rfl, a⟩
  have HV := Lib.hid (fun (W : World) (a : BksIn W lo hi u F.bs) (c : hi ≤ W.heap.size) => specValid_any (.agg (flc F u)) F r W lo hi (hv W a) c hr hl)
  have HO := Lib.hid (fun (hok : FlOk F) (W : World) (a : BksIn W lo hi u F.bs) (c : hi ≤ W.heap.size) => l06Own_any (.agg (flc F u)) F W lo hi (hv W a) c (by have := hok.len; omega) (fun i hi => by have := hok.plen hi; omega))
  have HPG := Lib.hid (fun (hok : FlOk F) (k : Nat) (hk : k < F.bs.length) (h1 : (F.blk k).bad = false) (h2 : (F.blk k).er ≠ 1000) (W : World) (u2 : Value) (lo hi g : Nat) (a : Rw W g 31 (flc F u2)) (b : BksOwn W lo hi u2 F.bs) (c1 : hi ≤ g) (c2 : lo ≤ hi) => spErase_any W lo hi g F u2 k a b c1 c2 hok hk h1 h2)
  have HPB := Lib.hid (fun (hok : FlOk F) (k : Nat) (hk : k < F.bs.length) (h1 : (F.blk k).bad = true ∨ (F.blk k).er = 1000) (W : World) (u2 : Value) (lo hi g : Nat) (a : Rw W g 31 (flc F u2)) (b : BksOwn W lo hi u2 F.bs) => spErase_bad W g F lo hi u2 k a b hok hk h1)
  have H := Lib.hid hb
  have hbb := hb
  obtain ⟨Au, nu, cu, rfl, hu1, hu2, hu3, hu4⟩ := hb
  clear hbb hv hl hu4
  have hFl : flc F (.slice Au nu cu) = #[.int .i64 F.d, .int .i64 F.b, .int .i64 F.p, .slice Au nu cu, .int .i64 F.fu, .int .i64 F.ke, .bool F.off, .int .i64 F.op] := rfl
  have hFo : ∀ u, flc F u = #[.int .i64 F.d, .int .i64 F.b, .int .i64 F.p, u, .int .i64 F.fu, .int .i64 F.ke, .bool F.off, .int .i64 F.op] := fun u => rfl
  rw [hFl] at HV HO ⊢
  have HFO := Lib.hid hFo
  clear hFl hFo
  have HPgs := Lib.hid (fun (r : Bool) (hn : nu ≤ 1000) (hr : r = true ↔ (0 ≤ block ∧ block < (nu : Int))) (W : World) => spBlock_any F.d F.b F.p F.fu F.ke F.op F.off Au nu cu block r W hn hr)
  have HOFF : Hid (∀ b : Bool, F.off = b → F.off = b) := Lib.hid fun _ h => h
  have HP1 := Lib.hid (fun (hok : FlOk F) => hok.1.p16)
  have HL1 := Lib.hid (fun (hok : FlOk F) => hok.len)
  have HGG := Lib.hid hG
  clear hG
  have HPF : Hid (∀ q : Int, q < F.p → q < F.p) := Lib.hid fun _ h => h
  generalize hd : F.d = d at *
  generalize hbn : F.b = b at *
  generalize hp : F.p = p at *
  generalize hfu : F.fu = fu at *
  generalize hke : F.ke = ke at *
  generalize hoff : F.off = off at *
  generalize hop : F.op = op at *
  have HEQ := Lib.hid (And.intro hp hoff)
  clear hd hbn hp hfu hke hoff hop
  obtain ⟨r0, r1, b0⟩ := Rw.two_new w 31 31 #[.int .i64 d, .int .i64 b, .int .i64 p, .slice Au nu cu, .int .i64 fu, .int .i64 ke, .bool off, .int .i64 op]
    #[.int .i64 0, .int .i64 0, .int .i64 0, .slice none 0 0, .int .i64 0, .int .i64 0, .bool false, .int .i64 0]
  have R0 := Lib.hid r0
  have R1 := Lib.hid r1
  have B0 := Lib.hid b0
  clear r0 r1 b0
  go_enter Try.func110, Try.ntmps110
  go_wp2_with fail
  refine (HV.out _ (H.out.same (sm B0.out lo hh)) (by simp; omega)).mono ?_
  rintro e w1 ⟨rfl, b1⟩
  have S0 := Lib.hid (R0.out.below b1 (by simp; omega))
  have S1 := Lib.hid (R1.out.below b1 (by simp))
  have B1 := Lib.hid (B0.out.trans (b1.mono (by simp; omega)))
  have hsz1 := b1.size
  simp only [World.size_alloc] at hsz1
  clear b1
  have ZEROS : Hid (∀ (wz : World) (c : Int), Rw wz (w.heap.size + 1) 31 #[.int .i64 0, .int .i64 0, .int .i64 0, .slice none 0 0, .int .i64 0, .int .i64 0, .bool false, .int .i64 0] → Below w.heap.size w wz → FlPost Fl.zero c w (.returned (.tuple #[.agg #[.int .i64 0, .int .i64 0, .int .i64 0, .slice none 0 0, .int .i64 0, .int .i64 0, .bool false, .int .i64 0], .int .i64 c])) ((((((((wz.setCell ⟨w.heap.size + 1, 0, none⟩ (.int .i64 0)).setCell ⟨w.heap.size + 1, 1, none⟩ (.int .i64 0)).setCell ⟨w.heap.size + 1, 2, none⟩ (.int .i64 0)).setCell ⟨w.heap.size + 1, 3, none⟩ (.slice none 0 0)).setCell ⟨w.heap.size + 1, 4, none⟩ (.int .i64 0)).setCell ⟨w.heap.size + 1, 5, none⟩ (.int .i64 0)).setCell ⟨w.heap.size + 1, 6, none⟩ (.bool false)).setCell ⟨w.heap.size + 1, 7, none⟩ (.int .i64 0))) := Lib.hid (fun wz c hz bz => by
    refine ⟨_, rfl, zeroOwn _ _ _, ?_⟩
    repeat refine bset ?_ (by omega) _
    exact bz)
  rcases HGG.out with hno | ⟨hok, h1⟩ | ⟨hok, h1, h2⟩ | ⟨hok, h1, k, rfl, hkl, h2⟩ | ⟨hok, h1, k, rfl, hkl, h2, h3⟩
  · obtain ⟨z0, z1, z2, z3, z4, z5, z6, z7⟩ := S1.out.eight
    obtain ⟨fz0, fz1, fz2, fz3, fz4, fz5, fz6, fz7⟩ := S1.out.frees
    obtain rfl : r = false := (bool_of r hr).2 hno
    clear hr hno HO HPG HPB HPgs
    go_wp2
    exact bodyPost_ret (results_row_tmp Try.results110 _ _ _ _ #[.int .i64 0, .int .i64 0, .int .i64 0, .slice none 0 0, .int .i64 0, .int .i64 0, .bool false, .int .i64 0] _ _ rfl
      (S1.out.put8 _ _ _ _ _ _ _ _) Try.underlying31 rfl infoFl8) rfl (ZEROS.out _ 1 S1.out B1.out)
  all_goals
    obtain rfl : r = true := hr.2 hok
    rw [HEQ.out.2] at h1
    subst h1
    clear hr
  · have HO2 := Lib.hid (HO.out hok)
    obtain ⟨a0, a1, a2, a3, a4, a5, a6, a7⟩ := S0.out.eight
    clear HO HPG HPB HPgs hok
    go_wp2_with fail
    refine (HO2.out _ (H.out.same (sm B1.out lo hh)) (by omega)).mono ?_
    rintro e w2 ⟨u2, rfl, ho, b2⟩
    obtain ⟨uu, rfl, ho⟩ := ho
    obtain ⟨A2, n2, c2, rfl⟩ := ho.slice
    have T1 := Lib.hid (S1.out.below b2 (by omega))
    have B2 := Lib.hid (B1.out.trans (b2.mono (by omega)))
    have HO3 := Lib.hid ho
    have hsz2 := b2.size
    rw [HFO.out]
    clear a0 a1 a2 a3 a4 a5 a6 a7 b2 ho HO2
    obtain ⟨z0, z1, z2, z3, z4, z5, z6, z7⟩ := T1.out.eight
    obtain ⟨fz0, fz1, fz2, fz3, fz4, fz5, fz6, fz7⟩ := T1.out.frees
    go_wp2
    refine bodyPost_ret (results_row_tmp Try.results110 _ _ _ _ #[.int .i64 d, .int .i64 b, .int .i64 p, .slice A2 n2 c2, .int .i64 fu, .int .i64 ke, .bool true, .int .i64 op] _ _ rfl
      (T1.out.put8 _ _ _ _ _ _ _ _) Try.underlying31 rfl infoFl8) rfl ?_
    refine ⟨_, rfl, ⟨_, by rw [HFO.out], (HO3.out.same ?_).wide (by omega) (by simp)⟩, ?_⟩
    · repeat refine sset ?_ (.inl (by omega)) _
      exact Same.refl _ _ _
    · repeat refine bset ?_ (by omega) _
      exact B2.out
  · have HPF := Lib.hid (HPgs.out false (by have := HL1.out hok; omega) (by
      rw [hu3] at h2
      simp only [Bool.false_eq_true, false_iff]
      exact h2))
    obtain ⟨a0, a1, a2, a3, a4, a5, a6, a7⟩ := S0.out.eight
    clear HO HPG HPB HPgs hok h2
    go_wp2_with fail
    refine (HPF.out _).mono ?_
    rintro e w2 ⟨rfl, b2⟩
    have T1 := Lib.hid (S1.out.below b2 (by omega))
    have B2 := Lib.hid (B1.out.trans (b2.mono (by omega)))
    clear a0 a1 a2 a3 a4 a5 a6 a7 b2
    obtain ⟨z0, z1, z2, z3, z4, z5, z6, z7⟩ := T1.out.eight
    obtain ⟨fz0, fz1, fz2, fz3, fz4, fz5, fz6, fz7⟩ := T1.out.frees
    go_wp2
    exact bodyPost_ret (results_row_tmp Try.results110 _ _ _ _ #[.int .i64 0, .int .i64 0, .int .i64 0, .slice none 0 0, .int .i64 0, .int .i64 0, .bool false, .int .i64 0] _ _ rfl
      (T1.out.put8 _ _ _ _ _ _ _ _) Try.underlying31 rfl infoFl8) rfl (ZEROS.out _ 2 T1.out B2.out)
  · have HPF := Lib.hid (HPgs.out true (by have := HL1.out hok; omega) (by simp; omega))
    obtain ⟨a0, a1, a2, a3, a4, a5, a6, a7⟩ := S0.out.eight
    have HO2 := Lib.hid (HO.out hok)
    have HPB2 := Lib.hid (HPB.out hok k hkl h2)
    clear HO HPG HPB HPgs hok h2
    go_wp2_with fail
    refine (HPF.out _).mono ?_
    rintro e w2 ⟨rfl, b2⟩
    have T0 := Lib.hid (S0.out.below b2 (by omega))
    have T1 := Lib.hid (S1.out.below b2 (by omega))
    have B2 := Lib.hid (B1.out.trans (b2.mono (by omega)))
    have hsz2 := b2.size
    clear a0 a1 a2 a3 a4 a5 a6 a7 b2
    obtain ⟨a0, a1, a2, a3, a4, a5, a6, a7⟩ := T0.out.eight
    go_wp2_with fail
    refine (HO2.out _ (H.out.same (sm B2.out lo hh)) (by omega)).mono ?_
    rintro e w3 ⟨u2, rfl, ho, b3⟩
    obtain ⟨uu, rfl, ho⟩ := ho
    obtain ⟨A2, n2, c2, rfl⟩ := ho.slice
    have V1 := Lib.hid (T1.out.below b3 (by omega))
    have B3 := Lib.hid (B2.out.trans (b3.mono (by omega)))
    have HO3 := Lib.hid ho
    have hsz3 := b3.size
    rw [HFO.out]
    have L3 := Lib.hid (Rw.new w3 31 #[.int .i64 d, .int .i64 b, .int .i64 p, .slice A2 n2 c2, .int .i64 fu, .int .i64 ke, .bool false, .int .i64 op])
    have AL := Lib.hid ((Below.refl w3.heap.size w3).alloc (Nat.le_refl _) (.cells #[.int .i64 d, .int .i64 b, .int .i64 p, .slice A2 n2 c2, .int .i64 fu, .int .i64 ke, .bool false, .int .i64 op] 31))
    clear a0 a1 a2 a3 a4 a5 a6 a7 b3 ho
    go_wp2_with fail
    refine (HPB2.out _ (.slice A2 n2 c2) w2.heap.size w3.heap.size w3.heap.size (by rw [HFO.out]; exact L3.out) (HO3.out.same (sm AL.out _ (Nat.le_refl _)))).mono ?_
    rintro e w4 ⟨rfl, rfl⟩
    have T4 := Lib.hid (V1.out.below AL.out (by omega))
    have B4 := Lib.hid (B3.out.trans (AL.out.mono (by omega)))
    obtain ⟨z0, z1, z2, z3, z4, z5, z6, z7⟩ := T4.out.eight
    obtain ⟨fz0, fz1, fz2, fz3, fz4, fz5, fz6, fz7⟩ := T4.out.frees
    go_wp2
    exact bodyPost_ret (results_row_tmp Try.results110 _ _ _ _ #[.int .i64 0, .int .i64 0, .int .i64 0, .slice none 0 0, .int .i64 0, .int .i64 0, .bool false, .int .i64 0] _ _ rfl
      (T4.out.put8 _ _ _ _ _ _ _ _) Try.underlying31 rfl infoFl8) rfl (ZEROS.out _ 7 T4.out B4.out)
  · have HPF := Lib.hid (HPgs.out true (by have := HL1.out hok; omega) (by simp; omega))
    obtain ⟨a0, a1, a2, a3, a4, a5, a6, a7⟩ := S0.out.eight
    have HO2 := Lib.hid (HO.out hok)
    have HPG2 := Lib.hid (HPG.out hok k hkl h2 h3)
    have hcc := F.code_of
    generalize F.erase k = G' at *
    generalize F.code = co at *
    clear HO HPG HPB HPgs hok h2 h3
    go_wp2_with fail
    refine (HPF.out _).mono ?_
    rintro e w2 ⟨rfl, b2⟩
    have T0 := Lib.hid (S0.out.below b2 (by omega))
    have T1 := Lib.hid (S1.out.below b2 (by omega))
    have B2 := Lib.hid (B1.out.trans (b2.mono (by omega)))
    have hsz2 := b2.size
    clear a0 a1 a2 a3 a4 a5 a6 a7 b2
    obtain ⟨a0, a1, a2, a3, a4, a5, a6, a7⟩ := T0.out.eight
    go_wp2_with fail
    refine (HO2.out _ (H.out.same (sm B2.out lo hh)) (by omega)).mono ?_
    rintro e w3 ⟨u2, rfl, ho, b3⟩
    obtain ⟨uu, rfl, ho⟩ := ho
    obtain ⟨A2, n2, c2, rfl⟩ := ho.slice
    have V1 := Lib.hid (T1.out.below b3 (by omega))
    have B3 := Lib.hid (B2.out.trans (b3.mono (by omega)))
    have HO3 := Lib.hid ho
    have hsz3 := b3.size
    rw [HFO.out]
    have L3 := Lib.hid (Rw.new w3 31 #[.int .i64 d, .int .i64 b, .int .i64 p, .slice A2 n2 c2, .int .i64 fu, .int .i64 ke, .bool false, .int .i64 op])
    have AL := Lib.hid ((Below.refl w3.heap.size w3).alloc (Nat.le_refl _) (.cells #[.int .i64 d, .int .i64 b, .int .i64 p, .slice A2 n2 c2, .int .i64 fu, .int .i64 ke, .bool false, .int .i64 op] 31))
    clear a0 a1 a2 a3 a4 a5 a6 a7 b3 ho
    go_wp2_with fail
    refine (HPG2.out _ (.slice A2 n2 c2) w2.heap.size w3.heap.size w3.heap.size (by rw [HFO.out]; exact L3.out) (HO3.out.same (sm AL.out _ (Nat.le_refl _))) (Nat.le_refl _) hsz3).mono ?_
    rintro e w4 ⟨rfl, b4, hx4⟩
    obtain ⟨hr4, ho4⟩ := hx4 hcc
    have b4' : Below w2.heap.size w3 w4 := (AL.out.mono hsz3).trans b4
    have T4 := Lib.hid (V1.out.below b4' (by omega))
    have B4 := Lib.hid (B3.out.trans (b4'.mono (by omega)))
    have s4 := b4.size
    simp only [World.size_alloc] at s4
    have HO4 := Lib.hid ho4
    obtain ⟨gd, gb2, gp, gbs, gfu, gke, goff, gop⟩ := G'
    unfold flc at hr4
    simp only at hr4
    obtain ⟨a0, a1, a2, a3, a4, a5, a6, a7⟩ := hr4.eight
    clear b4 b4' hx4 hr4 ho4 AL L3
    obtain ⟨z0, z1, z2, z3, z4, z5, z6, z7⟩ := T4.out.eight
    obtain ⟨fz0, fz1, fz2, fz3, fz4, fz5, fz6, fz7⟩ := T4.out.frees
    rcases hcc with rfl | rfl
    · go_wp2
      refine bodyPost_ret (results_row_tmp Try.results110 _ _ _ _ #[.int .i64 gd, .int .i64 gb2, .int .i64 gp, .slice A2 n2 c2, .int .i64 gfu, .int .i64 gke, .bool goff, .int .i64 gop] _ _ rfl
        (T4.out.put8 _ _ _ _ _ _ _ _) Try.underlying31 rfl infoFl8) rfl ?_
      refine ⟨_, rfl, ⟨_, rfl, (HO4.out.same ?_).wide (by omega) (by simp; omega)⟩, ?_⟩
      · repeat refine sset ?_ (.inl (by omega)) _
        exact Same.refl _ _ _
      · repeat refine bset ?_ (by omega) _
        exact B4.out
    · go_wp2
      refine bodyPost_ret (results_row_tmp Try.results110 _ _ _ _ #[.int .i64 gd, .int .i64 gb2, .int .i64 gp, .slice A2 n2 c2, .int .i64 gfu, .int .i64 gke, .bool goff, .int .i64 gop] _ _ rfl
        (T4.out.put8 _ _ _ _ _ _ _ _) Try.underlying31 rfl infoFl8) rfl ?_
      refine ⟨_, rfl, ⟨_, rfl, (HO4.out.same ?_).wide (by omega) (by simp; omega)⟩, ?_⟩
      · repeat refine sset ?_ (.inl (by omega)) _
        exact Same.refl _ _ _
      · repeat refine bset ?_ (by omega) _
        exact B4.out
end Go.Proofs.Yteigdjocjcjkiaa
/- An array that fits has not too many blocks and pages. -/
namespace Go.Proofs.Yteigdjocjcjkiaa
open Go.RowKit
theorem FlIn.agg8 {w : World} {lo hi : Nat} {v : Value} {F : Fl} (h : FlIn w lo hi v F) : ∃ (d b p : Int) (A : Option Addr) (n c : Nat) (fu ke : Int) (off : Bool) (op : Int), v = .agg #[.int .i64 d, .int .i64 b, .int .i64 p, .slice A n c, .int .i64 fu, .int .i64 ke, .bool off, .int .i64 op] := by
  obtain ⟨u, rfl, A, n, c, rfl, _⟩ := h; exact ⟨_, _, _, _, _, _, _, _, _, _, rfl⟩
theorem FlOwn.agg8 {w : World} {lo hi : Nat} {v : Value} {F : Fl} (h : FlOwn w lo hi v F) : ∃ (d b p : Int) (A : Option Addr) (n c : Nat) (fu ke : Int) (off : Bool) (op : Int), v = .agg #[.int .i64 d, .int .i64 b, .int .i64 p, .slice A n c, .int .i64 fu, .int .i64 ke, .bool off, .int .i64 op] := h.reads.agg8
theorem FlSz.lens {F : Fl} (h : FlSz F) : FlLen F := ⟨by unfold FlSz at h; omega, fun i hi => (h.pages hi).1⟩
end Go.Proofs.Yteigdjocjcjkiaa
/- Chapter 6's generator of operations on an array: the contract. Only that it returns an array of the same shape is said. -/
namespace Go.Proofs.Yteigdjocjcjkiaa
open Go.RowKit
set_option linter.unusedVariables false
theorem l06Keep_any (B g n : Nat) (w : World) (h : Src w B g n) (hn : n ≤ 800000000000) :
    Calls Try.prog 100 #[.pointer (some ⟨g, 0, none⟩)] w (Chose (IntIn 0 91) B g (n + 4) w) := by
  have hlt := h.lt
  have HP : Hid (pickMax 92 = 91) := by show _ = _; decide
  go_enter Try.func100, Try.ntmps100
  go_wp2_with fail
  refine (pick_any B g n 92 _ h (by omega) (by omega) (by omega)).mono ?_
  rintro e w1 ⟨v1, rfl, ⟨x, rfl, hx0, hx1⟩, hS1, hg1⟩
  rw [HP.out] at hx1
  clear h
  have hz1 := hg1.size
  have hne : w1.heap.size ≠ g := by omega
  go_wp2_with fail
  refine (among_any (fun x => 0 ≤ x ∧ x ≤ 91) B g (n + 2) w1.heap.size 9 9 _ ?_ (by omega) (by omega) (by omega) hne ?_).mono ?_
  · exact hS1.keep ((Below.refl _ _).alloc (Nat.le_refl _) _)
  · refine newCells _ _ _ 9 rfl ?_
    intro v hv
    simp only [List.mem_cons, List.not_mem_nil, or_false] at hv
    rcases hv with rfl | rfl | rfl | rfl | rfl | rfl | rfl | rfl | rfl <;> exact ⟨_, rfl, by constructor <;> omega⟩
  rintro e w2 ⟨v2, rfl, ⟨y, rfl, hy0, hy1⟩, hS2, hg2⟩
  go_wp2
  go_ret
  exact ⟨_, rfl, ⟨y, rfl, hy0, hy1⟩, hS2, grown_trans hg1 (grown_trans (World.grownBy_alloc w1 _ _) hg2)⟩
/-- What a generator of arrays does. -/
def DrewFl (K lo B g n : Nat) (w : World) (e : Ending) (w' : World) : Prop := ∃ (v : Value) (F : Fl), e = .returned v ∧ FlOwn w' lo w'.heap.size v F ∧ Shape F K ∧ Src w' B g n ∧ w.grownBy w' (some g)
/-- What l06Work does: the array that it returns lies where the given one did, or in new blocks. -/
def WorkFl (K lo hi B g n : Nat) (w : World) (e : Ending) (w' : World) : Prop := ∃ (v : Value) (F : Fl) (lo' hi' : Nat), e = .returned v ∧ FlOwn w' lo' hi' v F ∧ (lo ≤ lo' ∧ hi' ≤ w'.heap.size ∧ (hi' ≤ hi ∨ w.heap.size + 2 ≤ lo')) ∧ Shape F K ∧ Src w' B g n ∧ w.grownBy w' (some g)
set_option maxHeartbeats 4000000 in
set_option maxRecDepth 100000 in
theorem l06Work_any (B g n lo hi M : Nat) (v : Value) (F : Fl) (w : World) (h : Src w B g n) (hn : n ≤ 500000000000) (hF : FlOwn w lo hi v F) (hlo : g < lo) (hlw : lo ≤ w.heap.size) (hhi : hi ≤ w.heap.size) (hS : Shape F M) (hM : M ≤ 1000) :
    Calls Try.prog 101 #[.pointer (some ⟨g, 0, none⟩), v, .int .i64 8] w (WorkFl (M + 8) lo hi B g (n + 100000) w) := by
  obtain ⟨u, rfl, hb⟩ := hF
  obtain ⟨A, nb, cb, rfl⟩ := hb.slice
  have hlt := h.lt
  obtain ⟨r0, r1, b0⟩ := Rw.two_new w 31 31 (flc F (.slice A nb cb)) #[.int .i64 0, .int .i64 0, .int .i64 0, .slice none 0 0, .int .i64 0, .int .i64 0, .bool false, .int .i64 0]
  have R0 := Lib.hid r0
  have R1 := Lib.hid r1
  have OWN := Lib.hid (hb.same (sm b0 lo hhi))
  have hg0 : w.grownBy ((w.alloc (.cells (flc F (.slice A nb cb)) 31)).alloc (.cells #[.int .i64 0, .int .i64 0, .int .i64 0, .slice none 0 0, .int .i64 0, .int .i64 0, .bool false, .int .i64 0] 31)) (some g) := grown_below (grown_refl w (some g)) b0
  have G0 := Lib.hid hg0
  have S0 := Lib.hid (h.keep b0)
  have P8 : Hid (pickMax 9 = 8) := by show _ = _; decide
  have P4 : Hid (pickMax 4 = 3) := by show _ = _; decide
  unfold flc at R0 OWN G0 S0 ⊢
  clear r0 r1 b0 h hb hg0
  go_enter Try.func101, Try.ntmps101
  go_wp2_with fail
  refine (pick_any B g n 9 _ S0.out (by omega) (by omega) (by omega)).mono ?_
  rintro e w1 ⟨v1, rfl, ⟨x, rfl, hx0, hx1⟩, hS1, hg1⟩
  rw [P8.out] at hx1
  obtain ⟨C, rfl⟩ := Int.eq_ofNat_of_zero_le hx0
  have HC := Lib.hid (show C ≤ 8 by omega)
  have Q0 := Lib.hid (R0.out.grown hg1 (by omega))
  have Q1 := Lib.hid (R1.out.grown hg1 (by omega))
  have QO := Lib.hid (OWN.out.same (same_above hg1 hlo (by simp; omega)))
  have QG := Lib.hid (grown_trans G0.out hg1)
  have QS := Lib.hid hS1
  have QH := Lib.hid hS
  clear R0 R1 OWN G0 S0 hg1 hS1 hx0 hx1 hS
  go_wp2
  go_loopw [7] (fun i wr => ∃ (k : Nat) (F : Fl) (A : Option Addr) (nb cb lo' hi' : Nat), k ≤ C ∧ i = .int .i64 k ∧ Hid (Rw wr w.heap.size 31 #[.int .i64 F.d, .int .i64 F.b, .int .i64 F.p, .slice A nb cb, .int .i64 F.fu, .int .i64 F.ke, .bool F.off, .int .i64 F.op]) ∧
      Hid (Rw wr (w.heap.size + 1) 31 #[.int .i64 0, .int .i64 0, .int .i64 0, .slice none 0 0, .int .i64 0, .int .i64 0, .bool false, .int .i64 0]) ∧ Hid (BksOwn wr lo' hi' (.slice A nb cb) F.bs) ∧ Hid (lo ≤ lo' ∧ hi' ≤ wr.heap.size ∧ (hi' ≤ hi ∨ w.heap.size + 2 ≤ lo')) ∧ Hid (Shape F (M + (C - k))) ∧
      Hid (Src wr B g (n + 2 + 10000 * (C - k))) ∧ Hid (w.grownBy wr (some g))) (fun i _ => (intOf i).toNat)
  case atStart => exact ⟨C, F, A, nb, cb, lo, hi, by omega, rfl, Q0, Q1, QO, Lib.hid ⟨Nat.le_refl _, Nat.le_trans hhi QG.out.size, .inl (Nat.le_refl _)⟩, Lib.hid (QH.out.more (by omega)), Lib.hid (QS.out.more (by omega)), QG⟩
  case round =>
    clear Q0 Q1 QO QG QS QH
    obtain ⟨k, F, A, nb, cb, lo', hi', hk, rfl, Q0, Q1, QO, QR, QH, QS, QG⟩ := hrel
    have hC8 := HC.out
    have hzg := QG.out.size
    obtain ⟨c0, c1, c2, c3, c4, c5, c6, c7⟩ := Q0.out.eight
    by_cases hk0 : 0 < k
    · have hki : (0 : Int) < (k : Int) := by omega
      have hlen := QH.out.len
      have hnb : F.bs.length = nb := by obtain ⟨_, _, _, e, _, _, h, _⟩ := QO.out; injection e with _ e _; omega
      rw [hnb] at hlen
      have hm4 : min 4 (nb : Int) = 4 := by omega
      have HMIN := Lib.hid (fun (W : World) => (show Calls Try.prog 81 #[.int .i64 4, .int .i64 (nb : Int)] W fun e w' => e = .returned (.int .i64 4) ∧ W = w' from by have := minr_any 4 (nb : Int) W; rw [hm4] at this; exact this))
      have hd : F.d = 2 ∨ F.d = 3 := by have := QH.out.1.1; omega
      obtain ⟨q, hq, hq1, hq2⟩ : ∃ q : Int, max 1 (F.d - 1) = q ∧ 1 ≤ q ∧ q ≤ 2 := ⟨max 1 (F.d - 1), rfl, by omega, by omega⟩
      have HMAX := Lib.hid (fun (W : World) => (show Calls Try.prog 80 #[.int .i64 1, .int .i64 (F.d - 1)] W fun e w' => e = .returned (.int .i64 q) ∧ W = w' from by have := maxr_any 1 (F.d - 1) W; rw [hq] at this; exact this))
      obtain ⟨hd2, hd3⟩ : 2 ≤ F.d ∧ F.d ≤ 3 := QH.out.1.1
      have hb3 : (nb : Int) ≤ 36 := by omega
      have hgw : w.heap.size ≠ g := by omega
      clear hq hm4 hd
      go_wp2_with fail
      have hwd : IntKind.i64.wrap (F.d - 1) = F.d - 1 := IntWalk.i64_in _ (by omega)
      refine wp_region_held_drew (S := fun W => Rw W w.heap.size 31 #[.int .i64 F.d, .int .i64 F.b, .int .i64 F.p, .slice A nb cb, .int .i64 F.fu, .int .i64 F.ke, .bool F.off, .int .i64 F.op]) (by kernel_rfl) (show Rw wr.drew _ _ _ from Q0.out) (fun hHeld => ?_)
      refine wpAnyH_take (i := 0) (oi := _) (v := .pointer (some ⟨g, 0, none⟩)) rfl (by kernel_rfl) (by kernel_rfl) (by kernel_rfl) (fun _ _ _ h => h) (Or.inl ⟨by rfl, fun W hSw => by go_simp⟩) hHeld ?_
      refine wpAnyH_take (i := 1) (oi := _) (v := .pointer (some ⟨w.heap.size, 3, none⟩)) rfl (by kernel_rfl) (by kernel_rfl) (by kernel_rfl) (fun _ _ _ h => h) (Or.inl ⟨by rfl, fun W hSw => by go_simp⟩) hHeld ?_
      refine wpAnyH_take (i := 2) (oi := _) (v := .slice A nb cb) rfl (by kernel_rfl) (by kernel_rfl) (by kernel_rfl) (fun _ _ _ h => h) (Or.inl ⟨by rfl, fun W hSw => by obtain ⟨q0, q1, q2, q3, q4, q5, q6, q7⟩ := hSw.eight; go_simp⟩) hHeld ?_
      refine wpAnyH_take (i := 3) (oi := _) (v := .int .i64 (nb : Int)) rfl (by kernel_rfl) (by kernel_rfl) (by kernel_rfl) (fun _ _ _ h => h) (Or.inl ⟨by rfl, fun W hSw => by go_simp⟩) hHeld ?_
      refine wpAnyH_take (i := 6) (oi := _) (v := .pointer (some ⟨w.heap.size, 0, none⟩)) rfl (by kernel_rfl) (by kernel_rfl) (by kernel_rfl) (fun _ _ _ h => h) (Or.inl ⟨by rfl, fun W hSw => by go_simp⟩) hHeld ?_
      refine wpAnyH_take (i := 7) (oi := _) (v := .pointer (some ⟨w.heap.size, 0, none⟩)) rfl (by kernel_rfl) (by kernel_rfl) (by kernel_rfl) (fun _ _ _ h => h) (Or.inl ⟨by rfl, fun W hSw => by go_simp⟩) hHeld ?_
      refine wpAnyH_take (i := 8) (oi := _) (v := .int .i64 F.d) rfl (by kernel_rfl) (by kernel_rfl) (by kernel_rfl) (fun _ _ _ h => h) (Or.inl ⟨by rfl, fun W hSw => by obtain ⟨q0, q1, q2, q3, q4, q5, q6, q7⟩ := hSw.eight; go_simp⟩) hHeld ?_
      refine wpAnyH_take (i := 9) (oi := _) (v := .int .i64 (F.d - 1)) rfl (by kernel_rfl) (by kernel_rfl) (by kernel_rfl) (fun _ _ _ h => h) (Or.inl ⟨by rfl, fun W hSw => by go_simp⟩) hHeld ?_
      refine wpAnyH_ready (rs := [4]) (by kernel_rfl) (by simp) ?_
      refine AllReadyH.cons (o := _) rfl (fun K hK => ?_) AllReadyH.nil
      go_simp
      refine (HMIN.out _).mono ?_
      rintro e w' ⟨rfl, rfl⟩
      refine hK.out _ _ (show Rw wr.drew _ _ _ from Q0.out) (fun hHeld => ?_)
      clear hK K
      refine wpAnyH_ready (rs := [5]) (by kernel_rfl) (by simp) ?_
      refine AllReadyH.cons (o := _) rfl (fun K hK => ?_) AllReadyH.nil
      go_simp
      refine (pick_any B g _ 4 wr.drew QS.out (by omega) (by omega) (by omega)).mono ?_
      rintro e w6 ⟨v6, rfl, ⟨z, rfl, hz0, hz1⟩, hS6, hg6⟩
      rw [P4.out] at hz1
      have hg6 := grown_drewL hg6
      have Q06 := Lib.hid (Q0.out.grown hg6 hgw)
      refine hK.out _ _ Q06.out (fun hHeld => ?_)
      clear hK K
      refine wpAnyH_ready (rs := [10]) (by kernel_rfl) (by simp) ?_
      refine AllReadyH.cons (o := _) rfl (fun K hK => ?_) AllReadyH.nil
      go_simp
      refine (HMAX.out _).mono ?_
      rintro e w' ⟨rfl, rfl⟩
      refine hK.out _ _ Q06.out (fun hHeld => ?_)
      clear hK K
      obtain ⟨bk, hbk, hbl⟩ : ∃ bk : Nat, z * q = (bk : Int) ∧ bk < nb := by
        have hcase : q = 1 ∨ q = 2 := by omega
        rcases hcase with h | h <;> subst h
        · exact ⟨z.toNat, by omega, by omega⟩
        · exact ⟨(z * 2).toNat, by omega, by omega⟩
      have hwb : IntKind.i64.wrap (bk : Int) = bk := IntWalk.i64_in _ (by omega)
      refine wpAnyH_ready (rs := [11]) (by kernel_rfl) (by simp) ?_
      refine AllReadyH.cons (o := _) rfl (fun K hK => ?_) AllReadyH.nil
      go_simp
      refine hK.out _ _ Q06.out (fun hHeld => ?_)
      clear hK K
      refine wpAnyH_ready (rs := [12]) (by kernel_rfl) (by simp) ?_
      refine AllReadyH.cons (o := _) rfl (fun K hK => ?_) AllReadyH.nil
      go_simp
      refine hK.out _ _ Q06.out (fun hHeld => ?_)
      clear hK K
      refine wpAnyH_done (by kernel_rfl) ?_ _
      clear hHeld hbk hz0 hz1 hwd hwb c0 c1 c2 c3 c4 c5 c6 c7 HMIN HMAX hq1 hq2
      have hR := QR.out
      have Q16 := Lib.hid (Q1.out.grown hg6 (by omega))
      have QO6 := Lib.hid (QO.out.same (same_above hg6 (by omega) hR.2.1))
      have QG6 := Lib.hid (grown_trans QG.out hg6)
      have QS6 := Lib.hid hS6
      have hsz6 := hg6.size
      clear Q0 Q1 QO QG QS hg6 hS6
      obtain ⟨d0, d1, d2, d3, d4, d5, d6, d7⟩ := Q06.out.eight
      obtain ⟨A1, n1, c1, ea, hn1, hn2, hn3, hbo⟩ := QO6.out
      injection ea with ea1 ea2 ea3
      subst ea1 ea2 ea3
      obtain ⟨g1, pv, rfl, hBO⟩ := hbo (by omega)
      obtain ⟨x0, x1, x2, x3⟩ := hBO.row bk (by omega)
      generalize hnx : (F.bs.getD bk Blk.zero).nx = nx at x1
      have hbki : (bk : Int) < (nb : Int) := by omega
      have hbkn : (bk : Int) ≤ 36 := by omega
      clear hbo hBO x0 x2 x3
      go_wp2_with fail
-- GEN
      have Q0 := Lib.hid (Q06.out.alloc (.cells #[.int .i64 0, .int .i64 0, .int .i64 0, .slice none 0 0, .int .i64 0, .int .i64 0, .bool false, .int .i64 0] 31))
      have Q1 := Lib.hid (Q16.out.alloc (.cells #[.int .i64 0, .int .i64 0, .int .i64 0, .slice none 0 0, .int .i64 0, .int .i64 0, .bool false, .int .i64 0] 31))
      have RX := Lib.hid (Rw.new w6 31 #[.int .i64 0, .int .i64 0, .int .i64 0, .slice none 0 0, .int .i64 0, .int .i64 0, .bool false, .int .i64 0])
      have ba := (Below.refl w6.heap.size w6).alloc (Nat.le_refl _) (.cells #[.int .i64 0, .int .i64 0, .int .i64 0, .slice none 0 0, .int .i64 0, .int .i64 0, .bool false, .int .i64 0] 31)
      have QO := Lib.hid (QO6.out.same (sm ba _ (by have := QR.out; omega)))
      have QG := Lib.hid (grown_below QG6.out (ba.mono QG6.out.size))
      have QS := Lib.hid (QS6.out.keep ba)
      have sza := ba.size
      simp only [World.size_alloc] at sza
      have hszw : w.heap.size + 2 ≤ w6.heap.size := by have := Q16.out.lt; omega
      clear ba Q06 Q16 QO6 QG6 QS6 d0 d1 d2 d3 d4 d5 d6 d7 x1 hnx
      refine (one_any B g _ 7 _ QS.out (by omega) (by omega) (by omega)).mono ?_
      rintro e w7 ⟨v7, rfl, ⟨bb, rfl⟩, hS7, hg7⟩
      have sz_a : w6.heap.size + 1 ≤ w7.heap.size := by have := hg7.size; simpa using this
      have Q0 := Lib.hid (Q0.out.grown hg7 (by omega))
      have Q1 := Lib.hid (Q1.out.grown hg7 (by omega))
      have RX := Lib.hid (RX.out.grown hg7 (by omega))
      have QO := Lib.hid (QO.out.same (same_above hg7 (by have := QR.out; omega) (by have := QR.out; simp; omega)))
      have QG := Lib.hid (grown_trans QG.out hg7)
      have QS := Lib.hid hS7
      clear hg7 hS7
      obtain ⟨d0, d1, d2, d3, d4, d5, d6, d7⟩ := Q0.out.eight
      cases bb
      case' true =>
        clear d0 d1 d2 d3 d4 d5 d6 d7
        obtain ⟨G, c, hG⟩ := eraEnds F (bk : Int)
        obtain ⟨d0, d1, d2, d3, d4, d5, d6, d7⟩ := Q0.out.eight
        go_wp2_with fail
        refine (specEra_any _ _ F G c w7 lo' hi' ⟨_, rfl, QO.out.reads⟩ (by have := QR.out; omega) hG QH.out.lens).mono ?_
        rintro e w9 ⟨u, rfl, ho, b9⟩
        clear d0 d1 d2 d3 d4 d5 d6 d7
        have sz_b9 := b9.size
        have Q0 := Lib.hid (Q0.out.below b9 Q0.out.lt)
        have Q1 := Lib.hid (Q1.out.below b9 Q1.out.lt)
        have RX := Lib.hid (RX.out.below b9 RX.out.lt)
        have QO := Lib.hid (QO.out.same (sm b9 _ (by have := QR.out; omega)))
        have QG := Lib.hid (grown_below QG.out (b9.mono QG.out.size))
        have QS := Lib.hid (QS.out.keep b9)
        clear b9
        obtain ⟨uo, rfl, hown⟩ := ho
        obtain ⟨ga, gn, gc, rfl⟩ := hown.slice
        unfold flc
        have HOWN := Lib.hid hown
        clear hown
        obtain ⟨a0, a1, a2, a3, a4, a5, a6, a7⟩ := RX.out.eight
        obtain ⟨f0, f1, f2, f3, f4, f5, f6, f7⟩ := RX.out.frees
        go_upto_region 12 with fail
        clear a0 a1 a2 a3 a4 a5 a6 a7 f0 f1 f2 f3 f4 f5 f6 f7
        have RX2 := Lib.hid (show Rw ((((((((w9.setCell ⟨w6.heap.size, 0, none⟩ (.int .i64 G.d)).setCell ⟨w6.heap.size, 1, none⟩ (.int .i64 G.b)).setCell ⟨w6.heap.size, 2, none⟩ (.int .i64 G.p)).setCell ⟨w6.heap.size, 3, none⟩ (.slice ga gn gc)).setCell ⟨w6.heap.size, 4, none⟩ (.int .i64 G.fu)).setCell ⟨w6.heap.size, 5, none⟩ (.int .i64 G.ke)).setCell ⟨w6.heap.size, 6, none⟩ (.bool G.off)).setCell ⟨w6.heap.size, 7, none⟩ (.int .i64 G.op)) w6.heap.size _ _ from RX.out.put8 (.int .i64 G.d) (.int .i64 G.b) (.int .i64 G.p) (.slice ga gn gc) (.int .i64 G.fu) (.int .i64 G.ke) (.bool G.off) (.int .i64 G.op))
        have Q02 := Lib.hid (show Rw ((((((((w9.setCell ⟨w6.heap.size, 0, none⟩ (.int .i64 G.d)).setCell ⟨w6.heap.size, 1, none⟩ (.int .i64 G.b)).setCell ⟨w6.heap.size, 2, none⟩ (.int .i64 G.p)).setCell ⟨w6.heap.size, 3, none⟩ (.slice ga gn gc)).setCell ⟨w6.heap.size, 4, none⟩ (.int .i64 G.fu)).setCell ⟨w6.heap.size, 5, none⟩ (.int .i64 G.ke)).setCell ⟨w6.heap.size, 6, none⟩ (.bool G.off)).setCell ⟨w6.heap.size, 7, none⟩ (.int .i64 G.op)) w.heap.size _ _ from ((((((((Q0.out).farA (by omega) _).farA (by omega) _).farA (by omega) _).farA (by omega) _).farA (by omega) _).farA (by omega) _).farA (by omega) _).farA (by omega) _)
        have Q12 := Lib.hid (show Rw ((((((((w9.setCell ⟨w6.heap.size, 0, none⟩ (.int .i64 G.d)).setCell ⟨w6.heap.size, 1, none⟩ (.int .i64 G.b)).setCell ⟨w6.heap.size, 2, none⟩ (.int .i64 G.p)).setCell ⟨w6.heap.size, 3, none⟩ (.slice ga gn gc)).setCell ⟨w6.heap.size, 4, none⟩ (.int .i64 G.fu)).setCell ⟨w6.heap.size, 5, none⟩ (.int .i64 G.ke)).setCell ⟨w6.heap.size, 6, none⟩ (.bool G.off)).setCell ⟨w6.heap.size, 7, none⟩ (.int .i64 G.op)) (w.heap.size + 1) _ _ from ((((((((Q1.out).farA (by omega) _).farA (by omega) _).farA (by omega) _).farA (by omega) _).farA (by omega) _).farA (by omega) _).farA (by omega) _).farA (by omega) _)
        have QO2 := Lib.hid (QO.out.same (w' := ((((((((w9.setCell ⟨w6.heap.size, 0, none⟩ (.int .i64 G.d)).setCell ⟨w6.heap.size, 1, none⟩ (.int .i64 G.b)).setCell ⟨w6.heap.size, 2, none⟩ (.int .i64 G.p)).setCell ⟨w6.heap.size, 3, none⟩ (.slice ga gn gc)).setCell ⟨w6.heap.size, 4, none⟩ (.int .i64 G.fu)).setCell ⟨w6.heap.size, 5, none⟩ (.int .i64 G.ke)).setCell ⟨w6.heap.size, 6, none⟩ (.bool G.off)).setCell ⟨w6.heap.size, 7, none⟩ (.int .i64 G.op))) (by (repeat refine sset ?_ (.inr (by have := QR.out; omega)) _); exact Same.refl _ _ _))
        have HOWN2 := Lib.hid (HOWN.out.same (w' := ((((((((w9.setCell ⟨w6.heap.size, 0, none⟩ (.int .i64 G.d)).setCell ⟨w6.heap.size, 1, none⟩ (.int .i64 G.b)).setCell ⟨w6.heap.size, 2, none⟩ (.int .i64 G.p)).setCell ⟨w6.heap.size, 3, none⟩ (.slice ga gn gc)).setCell ⟨w6.heap.size, 4, none⟩ (.int .i64 G.fu)).setCell ⟨w6.heap.size, 5, none⟩ (.int .i64 G.ke)).setCell ⟨w6.heap.size, 6, none⟩ (.bool G.off)).setCell ⟨w6.heap.size, 7, none⟩ (.int .i64 G.op))) (by (repeat refine sset ?_ (.inl (by omega)) _); exact Same.refl _ _ _))
        have QS2 := Lib.hid (QS.out.keepS (w' := ((((((((w9.setCell ⟨w6.heap.size, 0, none⟩ (.int .i64 G.d)).setCell ⟨w6.heap.size, 1, none⟩ (.int .i64 G.b)).setCell ⟨w6.heap.size, 2, none⟩ (.int .i64 G.p)).setCell ⟨w6.heap.size, 3, none⟩ (.slice ga gn gc)).setCell ⟨w6.heap.size, 4, none⟩ (.int .i64 G.fu)).setCell ⟨w6.heap.size, 5, none⟩ (.int .i64 G.ke)).setCell ⟨w6.heap.size, 6, none⟩ (.bool G.off)).setCell ⟨w6.heap.size, 7, none⟩ (.int .i64 G.op))) (by (repeat refine sset ?_ (.inr (by omega)) _); exact Same.refl _ _ _) (by simp))
        have QG2 : Hid (w.grownBy ((((((((w9.setCell ⟨w6.heap.size, 0, none⟩ (.int .i64 G.d)).setCell ⟨w6.heap.size, 1, none⟩ (.int .i64 G.b)).setCell ⟨w6.heap.size, 2, none⟩ (.int .i64 G.p)).setCell ⟨w6.heap.size, 3, none⟩ (.slice ga gn gc)).setCell ⟨w6.heap.size, 4, none⟩ (.int .i64 G.fu)).setCell ⟨w6.heap.size, 5, none⟩ (.int .i64 G.ke)).setCell ⟨w6.heap.size, 6, none⟩ (.bool G.off)).setCell ⟨w6.heap.size, 7, none⟩ (.int .i64 G.op)) (some g)) := Lib.hid (by
          repeat refine grown_out ?_ (by omega) _
          exact QG.out)
        have szW : ((((((((w9.setCell ⟨w6.heap.size, 0, none⟩ (.int .i64 G.d)).setCell ⟨w6.heap.size, 1, none⟩ (.int .i64 G.b)).setCell ⟨w6.heap.size, 2, none⟩ (.int .i64 G.p)).setCell ⟨w6.heap.size, 3, none⟩ (.slice ga gn gc)).setCell ⟨w6.heap.size, 4, none⟩ (.int .i64 G.fu)).setCell ⟨w6.heap.size, 5, none⟩ (.int .i64 G.ke)).setCell ⟨w6.heap.size, 6, none⟩ (.bool G.off)).setCell ⟨w6.heap.size, 7, none⟩ (.int .i64 G.op)).heap.size = w9.heap.size := by simp
        obtain ⟨w10, hw10⟩ : ∃ x, x = ((((((((w9.setCell ⟨w6.heap.size, 0, none⟩ (.int .i64 G.d)).setCell ⟨w6.heap.size, 1, none⟩ (.int .i64 G.b)).setCell ⟨w6.heap.size, 2, none⟩ (.int .i64 G.p)).setCell ⟨w6.heap.size, 3, none⟩ (.slice ga gn gc)).setCell ⟨w6.heap.size, 4, none⟩ (.int .i64 G.fu)).setCell ⟨w6.heap.size, 5, none⟩ (.int .i64 G.ke)).setCell ⟨w6.heap.size, 6, none⟩ (.bool G.off)).setCell ⟨w6.heap.size, 7, none⟩ (.int .i64 G.op)) := ⟨_, rfl⟩
        rw [← hw10] at RX2 Q02 Q12 QO2 HOWN2 QS2 QG2 szW ⊢
        clear hw10 RX Q0 Q1 QO HOWN QS QG
        by_cases hc : c = 0 ∨ c = 8
        · have HSH := Lib.hid (QH.out.erase (by omega) hG hc)
          obtain ⟨n0, n1, n2, n3, n4, n5, n6, n7⟩ := RX2.out.eight
          obtain ⟨m0, m1, m2, m3, m4, m5, m6, m7⟩ := Q02.out.eight
          obtain ⟨fm0, fm1, fm2, fm3, fm4, fm5, fm6, fm7⟩ := Q02.out.frees
          clear hG
          rcases hc with rfl | rfl
          · go_wp2
            go_roundw
            case rel =>
              have own2 := HOWN2.out.same (w' := ((((((((w10.setCell ⟨w.heap.size, 0, none⟩ (.int .i64 G.d)).setCell ⟨w.heap.size, 1, none⟩ (.int .i64 G.b)).setCell ⟨w.heap.size, 2, none⟩ (.int .i64 G.p)).setCell ⟨w.heap.size, 3, none⟩ (.slice ga gn gc)).setCell ⟨w.heap.size, 4, none⟩ (.int .i64 G.fu)).setCell ⟨w.heap.size, 5, none⟩ (.int .i64 G.ke)).setCell ⟨w.heap.size, 6, none⟩ (.bool G.off)).setCell ⟨w.heap.size, 7, none⟩ (.int .i64 G.op))) (by (repeat refine sset ?_ (.inl (by omega)) _); exact Same.refl _ _ _)
              have one2 : Rw ((((((((w10.setCell ⟨w.heap.size, 0, none⟩ (.int .i64 G.d)).setCell ⟨w.heap.size, 1, none⟩ (.int .i64 G.b)).setCell ⟨w.heap.size, 2, none⟩ (.int .i64 G.p)).setCell ⟨w.heap.size, 3, none⟩ (.slice ga gn gc)).setCell ⟨w.heap.size, 4, none⟩ (.int .i64 G.fu)).setCell ⟨w.heap.size, 5, none⟩ (.int .i64 G.ke)).setCell ⟨w.heap.size, 6, none⟩ (.bool G.off)).setCell ⟨w.heap.size, 7, none⟩ (.int .i64 G.op)) (w.heap.size + 1) _ _ := ((((((((Q12.out).farA (g' := w.heap.size) (by omega) _).farA (g' := w.heap.size) (by omega) _).farA (g' := w.heap.size) (by omega) _).farA (g' := w.heap.size) (by omega) _).farA (g' := w.heap.size) (by omega) _).farA (g' := w.heap.size) (by omega) _).farA (g' := w.heap.size) (by omega) _).farA (g' := w.heap.size) (by omega) _
              have src2 := QS2.out.keepS (w' := ((((((((w10.setCell ⟨w.heap.size, 0, none⟩ (.int .i64 G.d)).setCell ⟨w.heap.size, 1, none⟩ (.int .i64 G.b)).setCell ⟨w.heap.size, 2, none⟩ (.int .i64 G.p)).setCell ⟨w.heap.size, 3, none⟩ (.slice ga gn gc)).setCell ⟨w.heap.size, 4, none⟩ (.int .i64 G.fu)).setCell ⟨w.heap.size, 5, none⟩ (.int .i64 G.ke)).setCell ⟨w.heap.size, 6, none⟩ (.bool G.off)).setCell ⟨w.heap.size, 7, none⟩ (.int .i64 G.op))) (by (repeat refine sset ?_ (.inr (by omega)) _); exact Same.refl _ _ _) (by simp)
              have gr2 : w.grownBy ((((((((w10.setCell ⟨w.heap.size, 0, none⟩ (.int .i64 G.d)).setCell ⟨w.heap.size, 1, none⟩ (.int .i64 G.b)).setCell ⟨w.heap.size, 2, none⟩ (.int .i64 G.p)).setCell ⟨w.heap.size, 3, none⟩ (.slice ga gn gc)).setCell ⟨w.heap.size, 4, none⟩ (.int .i64 G.fu)).setCell ⟨w.heap.size, 5, none⟩ (.int .i64 G.ke)).setCell ⟨w.heap.size, 6, none⟩ (.bool G.off)).setCell ⟨w.heap.size, 7, none⟩ (.int .i64 G.op)) (some g) := by
                repeat refine grown_out ?_ (by omega) _
                exact QG2.out
              exact ⟨k - 1, G, _, _, _, _, _, by omega, by go_num, Lib.hid (Q02.out.put8 _ _ _ _ _ _ _ _), Lib.hid one2, Lib.hid own2, Lib.hid (by have := QR.out; simp; omega), Lib.hid (HSH.out.more (by omega)), Lib.hid (src2.more (by omega)), Lib.hid gr2⟩
            case measure => simp [intOf]; omega
          · go_wp2
            go_roundw
            case rel =>
              have own2 := HOWN2.out.same (w' := ((((((((w10.setCell ⟨w.heap.size, 0, none⟩ (.int .i64 G.d)).setCell ⟨w.heap.size, 1, none⟩ (.int .i64 G.b)).setCell ⟨w.heap.size, 2, none⟩ (.int .i64 G.p)).setCell ⟨w.heap.size, 3, none⟩ (.slice ga gn gc)).setCell ⟨w.heap.size, 4, none⟩ (.int .i64 G.fu)).setCell ⟨w.heap.size, 5, none⟩ (.int .i64 G.ke)).setCell ⟨w.heap.size, 6, none⟩ (.bool G.off)).setCell ⟨w.heap.size, 7, none⟩ (.int .i64 G.op))) (by (repeat refine sset ?_ (.inl (by omega)) _); exact Same.refl _ _ _)
              have one2 : Rw ((((((((w10.setCell ⟨w.heap.size, 0, none⟩ (.int .i64 G.d)).setCell ⟨w.heap.size, 1, none⟩ (.int .i64 G.b)).setCell ⟨w.heap.size, 2, none⟩ (.int .i64 G.p)).setCell ⟨w.heap.size, 3, none⟩ (.slice ga gn gc)).setCell ⟨w.heap.size, 4, none⟩ (.int .i64 G.fu)).setCell ⟨w.heap.size, 5, none⟩ (.int .i64 G.ke)).setCell ⟨w.heap.size, 6, none⟩ (.bool G.off)).setCell ⟨w.heap.size, 7, none⟩ (.int .i64 G.op)) (w.heap.size + 1) _ _ := ((((((((Q12.out).farA (g' := w.heap.size) (by omega) _).farA (g' := w.heap.size) (by omega) _).farA (g' := w.heap.size) (by omega) _).farA (g' := w.heap.size) (by omega) _).farA (g' := w.heap.size) (by omega) _).farA (g' := w.heap.size) (by omega) _).farA (g' := w.heap.size) (by omega) _).farA (g' := w.heap.size) (by omega) _
              have src2 := QS2.out.keepS (w' := ((((((((w10.setCell ⟨w.heap.size, 0, none⟩ (.int .i64 G.d)).setCell ⟨w.heap.size, 1, none⟩ (.int .i64 G.b)).setCell ⟨w.heap.size, 2, none⟩ (.int .i64 G.p)).setCell ⟨w.heap.size, 3, none⟩ (.slice ga gn gc)).setCell ⟨w.heap.size, 4, none⟩ (.int .i64 G.fu)).setCell ⟨w.heap.size, 5, none⟩ (.int .i64 G.ke)).setCell ⟨w.heap.size, 6, none⟩ (.bool G.off)).setCell ⟨w.heap.size, 7, none⟩ (.int .i64 G.op))) (by (repeat refine sset ?_ (.inr (by omega)) _); exact Same.refl _ _ _) (by simp)
              have gr2 : w.grownBy ((((((((w10.setCell ⟨w.heap.size, 0, none⟩ (.int .i64 G.d)).setCell ⟨w.heap.size, 1, none⟩ (.int .i64 G.b)).setCell ⟨w.heap.size, 2, none⟩ (.int .i64 G.p)).setCell ⟨w.heap.size, 3, none⟩ (.slice ga gn gc)).setCell ⟨w.heap.size, 4, none⟩ (.int .i64 G.fu)).setCell ⟨w.heap.size, 5, none⟩ (.int .i64 G.ke)).setCell ⟨w.heap.size, 6, none⟩ (.bool G.off)).setCell ⟨w.heap.size, 7, none⟩ (.int .i64 G.op)) (some g) := by
                repeat refine grown_out ?_ (by omega) _
                exact QG2.out
              exact ⟨k - 1, G, _, _, _, _, _, by omega, by go_num, Lib.hid (Q02.out.put8 _ _ _ _ _ _ _ _), Lib.hid one2, Lib.hid own2, Lib.hid (by have := QR.out; simp; omega), Lib.hid (HSH.out.more (by omega)), Lib.hid (src2.more (by omega)), Lib.hid gr2⟩
            case measure => simp [intOf]; omega
        · have hc0 : (c == 0) = false := by simp; omega
          have hc8 : (c == 8) = false := by simp; omega
          clear hG
          go_wp2
          go_roundw
          case rel => exact ⟨k - 1, F, _, _, _, _, _, by omega, by go_num, Q02, Q12, QO2, Lib.hid (by have := QR.out; omega), Lib.hid (QH.out.more (by omega)), Lib.hid (QS2.out.more (by omega)), QG2⟩
          case measure => simp [intOf]; omega
      case' false =>
        by_cases hge : F.p ≤ nx
        · have hgeb : decide (nx ≥ F.p) = true := by simp; omega
          clear d0 d1 d3 d4 d5 d6 d7
          obtain ⟨G, c, hG⟩ := eraEnds F (bk : Int)
          obtain ⟨d0, d1, d2, d3, d4, d5, d6, d7⟩ := Q0.out.eight
          go_wp2_with fail
          refine (specEra_any _ _ F G c w7 lo' hi' ⟨_, rfl, QO.out.reads⟩ (by have := QR.out; omega) hG QH.out.lens).mono ?_
          rintro e w9 ⟨u, rfl, ho, b9⟩
          clear d0 d1 d2 d3 d4 d5 d6 d7
          have sz_b9 := b9.size
          have Q0 := Lib.hid (Q0.out.below b9 Q0.out.lt)
          have Q1 := Lib.hid (Q1.out.below b9 Q1.out.lt)
          have RX := Lib.hid (RX.out.below b9 RX.out.lt)
          have QO := Lib.hid (QO.out.same (sm b9 _ (by have := QR.out; omega)))
          have QG := Lib.hid (grown_below QG.out (b9.mono QG.out.size))
          have QS := Lib.hid (QS.out.keep b9)
          clear b9
          obtain ⟨uo, rfl, hown⟩ := ho
          obtain ⟨ga, gn, gc, rfl⟩ := hown.slice
          unfold flc
          have HOWN := Lib.hid hown
          clear hown
          obtain ⟨a0, a1, a2, a3, a4, a5, a6, a7⟩ := RX.out.eight
          obtain ⟨f0, f1, f2, f3, f4, f5, f6, f7⟩ := RX.out.frees
          go_upto_region 12 with fail
          clear a0 a1 a2 a3 a4 a5 a6 a7 f0 f1 f2 f3 f4 f5 f6 f7
          have RX2 := Lib.hid (show Rw ((((((((w9.setCell ⟨w6.heap.size, 0, none⟩ (.int .i64 G.d)).setCell ⟨w6.heap.size, 1, none⟩ (.int .i64 G.b)).setCell ⟨w6.heap.size, 2, none⟩ (.int .i64 G.p)).setCell ⟨w6.heap.size, 3, none⟩ (.slice ga gn gc)).setCell ⟨w6.heap.size, 4, none⟩ (.int .i64 G.fu)).setCell ⟨w6.heap.size, 5, none⟩ (.int .i64 G.ke)).setCell ⟨w6.heap.size, 6, none⟩ (.bool G.off)).setCell ⟨w6.heap.size, 7, none⟩ (.int .i64 G.op)) w6.heap.size _ _ from RX.out.put8 (.int .i64 G.d) (.int .i64 G.b) (.int .i64 G.p) (.slice ga gn gc) (.int .i64 G.fu) (.int .i64 G.ke) (.bool G.off) (.int .i64 G.op))
          have Q02 := Lib.hid (show Rw ((((((((w9.setCell ⟨w6.heap.size, 0, none⟩ (.int .i64 G.d)).setCell ⟨w6.heap.size, 1, none⟩ (.int .i64 G.b)).setCell ⟨w6.heap.size, 2, none⟩ (.int .i64 G.p)).setCell ⟨w6.heap.size, 3, none⟩ (.slice ga gn gc)).setCell ⟨w6.heap.size, 4, none⟩ (.int .i64 G.fu)).setCell ⟨w6.heap.size, 5, none⟩ (.int .i64 G.ke)).setCell ⟨w6.heap.size, 6, none⟩ (.bool G.off)).setCell ⟨w6.heap.size, 7, none⟩ (.int .i64 G.op)) w.heap.size _ _ from ((((((((Q0.out).farA (by omega) _).farA (by omega) _).farA (by omega) _).farA (by omega) _).farA (by omega) _).farA (by omega) _).farA (by omega) _).farA (by omega) _)
          have Q12 := Lib.hid (show Rw ((((((((w9.setCell ⟨w6.heap.size, 0, none⟩ (.int .i64 G.d)).setCell ⟨w6.heap.size, 1, none⟩ (.int .i64 G.b)).setCell ⟨w6.heap.size, 2, none⟩ (.int .i64 G.p)).setCell ⟨w6.heap.size, 3, none⟩ (.slice ga gn gc)).setCell ⟨w6.heap.size, 4, none⟩ (.int .i64 G.fu)).setCell ⟨w6.heap.size, 5, none⟩ (.int .i64 G.ke)).setCell ⟨w6.heap.size, 6, none⟩ (.bool G.off)).setCell ⟨w6.heap.size, 7, none⟩ (.int .i64 G.op)) (w.heap.size + 1) _ _ from ((((((((Q1.out).farA (by omega) _).farA (by omega) _).farA (by omega) _).farA (by omega) _).farA (by omega) _).farA (by omega) _).farA (by omega) _).farA (by omega) _)
          have QO2 := Lib.hid (QO.out.same (w' := ((((((((w9.setCell ⟨w6.heap.size, 0, none⟩ (.int .i64 G.d)).setCell ⟨w6.heap.size, 1, none⟩ (.int .i64 G.b)).setCell ⟨w6.heap.size, 2, none⟩ (.int .i64 G.p)).setCell ⟨w6.heap.size, 3, none⟩ (.slice ga gn gc)).setCell ⟨w6.heap.size, 4, none⟩ (.int .i64 G.fu)).setCell ⟨w6.heap.size, 5, none⟩ (.int .i64 G.ke)).setCell ⟨w6.heap.size, 6, none⟩ (.bool G.off)).setCell ⟨w6.heap.size, 7, none⟩ (.int .i64 G.op))) (by (repeat refine sset ?_ (.inr (by have := QR.out; omega)) _); exact Same.refl _ _ _))
          have HOWN2 := Lib.hid (HOWN.out.same (w' := ((((((((w9.setCell ⟨w6.heap.size, 0, none⟩ (.int .i64 G.d)).setCell ⟨w6.heap.size, 1, none⟩ (.int .i64 G.b)).setCell ⟨w6.heap.size, 2, none⟩ (.int .i64 G.p)).setCell ⟨w6.heap.size, 3, none⟩ (.slice ga gn gc)).setCell ⟨w6.heap.size, 4, none⟩ (.int .i64 G.fu)).setCell ⟨w6.heap.size, 5, none⟩ (.int .i64 G.ke)).setCell ⟨w6.heap.size, 6, none⟩ (.bool G.off)).setCell ⟨w6.heap.size, 7, none⟩ (.int .i64 G.op))) (by (repeat refine sset ?_ (.inl (by omega)) _); exact Same.refl _ _ _))
          have QS2 := Lib.hid (QS.out.keepS (w' := ((((((((w9.setCell ⟨w6.heap.size, 0, none⟩ (.int .i64 G.d)).setCell ⟨w6.heap.size, 1, none⟩ (.int .i64 G.b)).setCell ⟨w6.heap.size, 2, none⟩ (.int .i64 G.p)).setCell ⟨w6.heap.size, 3, none⟩ (.slice ga gn gc)).setCell ⟨w6.heap.size, 4, none⟩ (.int .i64 G.fu)).setCell ⟨w6.heap.size, 5, none⟩ (.int .i64 G.ke)).setCell ⟨w6.heap.size, 6, none⟩ (.bool G.off)).setCell ⟨w6.heap.size, 7, none⟩ (.int .i64 G.op))) (by (repeat refine sset ?_ (.inr (by omega)) _); exact Same.refl _ _ _) (by simp))
          have QG2 : Hid (w.grownBy ((((((((w9.setCell ⟨w6.heap.size, 0, none⟩ (.int .i64 G.d)).setCell ⟨w6.heap.size, 1, none⟩ (.int .i64 G.b)).setCell ⟨w6.heap.size, 2, none⟩ (.int .i64 G.p)).setCell ⟨w6.heap.size, 3, none⟩ (.slice ga gn gc)).setCell ⟨w6.heap.size, 4, none⟩ (.int .i64 G.fu)).setCell ⟨w6.heap.size, 5, none⟩ (.int .i64 G.ke)).setCell ⟨w6.heap.size, 6, none⟩ (.bool G.off)).setCell ⟨w6.heap.size, 7, none⟩ (.int .i64 G.op)) (some g)) := Lib.hid (by
            repeat refine grown_out ?_ (by omega) _
            exact QG.out)
          have szW : ((((((((w9.setCell ⟨w6.heap.size, 0, none⟩ (.int .i64 G.d)).setCell ⟨w6.heap.size, 1, none⟩ (.int .i64 G.b)).setCell ⟨w6.heap.size, 2, none⟩ (.int .i64 G.p)).setCell ⟨w6.heap.size, 3, none⟩ (.slice ga gn gc)).setCell ⟨w6.heap.size, 4, none⟩ (.int .i64 G.fu)).setCell ⟨w6.heap.size, 5, none⟩ (.int .i64 G.ke)).setCell ⟨w6.heap.size, 6, none⟩ (.bool G.off)).setCell ⟨w6.heap.size, 7, none⟩ (.int .i64 G.op)).heap.size = w9.heap.size := by simp
          obtain ⟨w10, hw10⟩ : ∃ x, x = ((((((((w9.setCell ⟨w6.heap.size, 0, none⟩ (.int .i64 G.d)).setCell ⟨w6.heap.size, 1, none⟩ (.int .i64 G.b)).setCell ⟨w6.heap.size, 2, none⟩ (.int .i64 G.p)).setCell ⟨w6.heap.size, 3, none⟩ (.slice ga gn gc)).setCell ⟨w6.heap.size, 4, none⟩ (.int .i64 G.fu)).setCell ⟨w6.heap.size, 5, none⟩ (.int .i64 G.ke)).setCell ⟨w6.heap.size, 6, none⟩ (.bool G.off)).setCell ⟨w6.heap.size, 7, none⟩ (.int .i64 G.op)) := ⟨_, rfl⟩
          rw [← hw10] at RX2 Q02 Q12 QO2 HOWN2 QS2 QG2 szW ⊢
          clear hw10 RX Q0 Q1 QO HOWN QS QG
          by_cases hc : c = 0 ∨ c = 8
          · have HSH := Lib.hid (QH.out.erase (by omega) hG hc)
            obtain ⟨n0, n1, n2, n3, n4, n5, n6, n7⟩ := RX2.out.eight
            obtain ⟨m0, m1, m2, m3, m4, m5, m6, m7⟩ := Q02.out.eight
            obtain ⟨fm0, fm1, fm2, fm3, fm4, fm5, fm6, fm7⟩ := Q02.out.frees
            clear hG
            rcases hc with rfl | rfl
            · go_wp2
              go_roundw
              case rel =>
                have own2 := HOWN2.out.same (w' := ((((((((w10.setCell ⟨w.heap.size, 0, none⟩ (.int .i64 G.d)).setCell ⟨w.heap.size, 1, none⟩ (.int .i64 G.b)).setCell ⟨w.heap.size, 2, none⟩ (.int .i64 G.p)).setCell ⟨w.heap.size, 3, none⟩ (.slice ga gn gc)).setCell ⟨w.heap.size, 4, none⟩ (.int .i64 G.fu)).setCell ⟨w.heap.size, 5, none⟩ (.int .i64 G.ke)).setCell ⟨w.heap.size, 6, none⟩ (.bool G.off)).setCell ⟨w.heap.size, 7, none⟩ (.int .i64 G.op))) (by (repeat refine sset ?_ (.inl (by omega)) _); exact Same.refl _ _ _)
                have one2 : Rw ((((((((w10.setCell ⟨w.heap.size, 0, none⟩ (.int .i64 G.d)).setCell ⟨w.heap.size, 1, none⟩ (.int .i64 G.b)).setCell ⟨w.heap.size, 2, none⟩ (.int .i64 G.p)).setCell ⟨w.heap.size, 3, none⟩ (.slice ga gn gc)).setCell ⟨w.heap.size, 4, none⟩ (.int .i64 G.fu)).setCell ⟨w.heap.size, 5, none⟩ (.int .i64 G.ke)).setCell ⟨w.heap.size, 6, none⟩ (.bool G.off)).setCell ⟨w.heap.size, 7, none⟩ (.int .i64 G.op)) (w.heap.size + 1) _ _ := ((((((((Q12.out).farA (g' := w.heap.size) (by omega) _).farA (g' := w.heap.size) (by omega) _).farA (g' := w.heap.size) (by omega) _).farA (g' := w.heap.size) (by omega) _).farA (g' := w.heap.size) (by omega) _).farA (g' := w.heap.size) (by omega) _).farA (g' := w.heap.size) (by omega) _).farA (g' := w.heap.size) (by omega) _
                have src2 := QS2.out.keepS (w' := ((((((((w10.setCell ⟨w.heap.size, 0, none⟩ (.int .i64 G.d)).setCell ⟨w.heap.size, 1, none⟩ (.int .i64 G.b)).setCell ⟨w.heap.size, 2, none⟩ (.int .i64 G.p)).setCell ⟨w.heap.size, 3, none⟩ (.slice ga gn gc)).setCell ⟨w.heap.size, 4, none⟩ (.int .i64 G.fu)).setCell ⟨w.heap.size, 5, none⟩ (.int .i64 G.ke)).setCell ⟨w.heap.size, 6, none⟩ (.bool G.off)).setCell ⟨w.heap.size, 7, none⟩ (.int .i64 G.op))) (by (repeat refine sset ?_ (.inr (by omega)) _); exact Same.refl _ _ _) (by simp)
                have gr2 : w.grownBy ((((((((w10.setCell ⟨w.heap.size, 0, none⟩ (.int .i64 G.d)).setCell ⟨w.heap.size, 1, none⟩ (.int .i64 G.b)).setCell ⟨w.heap.size, 2, none⟩ (.int .i64 G.p)).setCell ⟨w.heap.size, 3, none⟩ (.slice ga gn gc)).setCell ⟨w.heap.size, 4, none⟩ (.int .i64 G.fu)).setCell ⟨w.heap.size, 5, none⟩ (.int .i64 G.ke)).setCell ⟨w.heap.size, 6, none⟩ (.bool G.off)).setCell ⟨w.heap.size, 7, none⟩ (.int .i64 G.op)) (some g) := by
                  repeat refine grown_out ?_ (by omega) _
                  exact QG2.out
                exact ⟨k - 1, G, _, _, _, _, _, by omega, by go_num, Lib.hid (Q02.out.put8 _ _ _ _ _ _ _ _), Lib.hid one2, Lib.hid own2, Lib.hid (by have := QR.out; simp; omega), Lib.hid (HSH.out.more (by omega)), Lib.hid (src2.more (by omega)), Lib.hid gr2⟩
              case measure => simp [intOf]; omega
            · go_wp2
              go_roundw
              case rel =>
                have own2 := HOWN2.out.same (w' := ((((((((w10.setCell ⟨w.heap.size, 0, none⟩ (.int .i64 G.d)).setCell ⟨w.heap.size, 1, none⟩ (.int .i64 G.b)).setCell ⟨w.heap.size, 2, none⟩ (.int .i64 G.p)).setCell ⟨w.heap.size, 3, none⟩ (.slice ga gn gc)).setCell ⟨w.heap.size, 4, none⟩ (.int .i64 G.fu)).setCell ⟨w.heap.size, 5, none⟩ (.int .i64 G.ke)).setCell ⟨w.heap.size, 6, none⟩ (.bool G.off)).setCell ⟨w.heap.size, 7, none⟩ (.int .i64 G.op))) (by (repeat refine sset ?_ (.inl (by omega)) _); exact Same.refl _ _ _)
                have one2 : Rw ((((((((w10.setCell ⟨w.heap.size, 0, none⟩ (.int .i64 G.d)).setCell ⟨w.heap.size, 1, none⟩ (.int .i64 G.b)).setCell ⟨w.heap.size, 2, none⟩ (.int .i64 G.p)).setCell ⟨w.heap.size, 3, none⟩ (.slice ga gn gc)).setCell ⟨w.heap.size, 4, none⟩ (.int .i64 G.fu)).setCell ⟨w.heap.size, 5, none⟩ (.int .i64 G.ke)).setCell ⟨w.heap.size, 6, none⟩ (.bool G.off)).setCell ⟨w.heap.size, 7, none⟩ (.int .i64 G.op)) (w.heap.size + 1) _ _ := ((((((((Q12.out).farA (g' := w.heap.size) (by omega) _).farA (g' := w.heap.size) (by omega) _).farA (g' := w.heap.size) (by omega) _).farA (g' := w.heap.size) (by omega) _).farA (g' := w.heap.size) (by omega) _).farA (g' := w.heap.size) (by omega) _).farA (g' := w.heap.size) (by omega) _).farA (g' := w.heap.size) (by omega) _
                have src2 := QS2.out.keepS (w' := ((((((((w10.setCell ⟨w.heap.size, 0, none⟩ (.int .i64 G.d)).setCell ⟨w.heap.size, 1, none⟩ (.int .i64 G.b)).setCell ⟨w.heap.size, 2, none⟩ (.int .i64 G.p)).setCell ⟨w.heap.size, 3, none⟩ (.slice ga gn gc)).setCell ⟨w.heap.size, 4, none⟩ (.int .i64 G.fu)).setCell ⟨w.heap.size, 5, none⟩ (.int .i64 G.ke)).setCell ⟨w.heap.size, 6, none⟩ (.bool G.off)).setCell ⟨w.heap.size, 7, none⟩ (.int .i64 G.op))) (by (repeat refine sset ?_ (.inr (by omega)) _); exact Same.refl _ _ _) (by simp)
                have gr2 : w.grownBy ((((((((w10.setCell ⟨w.heap.size, 0, none⟩ (.int .i64 G.d)).setCell ⟨w.heap.size, 1, none⟩ (.int .i64 G.b)).setCell ⟨w.heap.size, 2, none⟩ (.int .i64 G.p)).setCell ⟨w.heap.size, 3, none⟩ (.slice ga gn gc)).setCell ⟨w.heap.size, 4, none⟩ (.int .i64 G.fu)).setCell ⟨w.heap.size, 5, none⟩ (.int .i64 G.ke)).setCell ⟨w.heap.size, 6, none⟩ (.bool G.off)).setCell ⟨w.heap.size, 7, none⟩ (.int .i64 G.op)) (some g) := by
                  repeat refine grown_out ?_ (by omega) _
                  exact QG2.out
                exact ⟨k - 1, G, _, _, _, _, _, by omega, by go_num, Lib.hid (Q02.out.put8 _ _ _ _ _ _ _ _), Lib.hid one2, Lib.hid own2, Lib.hid (by have := QR.out; simp; omega), Lib.hid (HSH.out.more (by omega)), Lib.hid (src2.more (by omega)), Lib.hid gr2⟩
              case measure => simp [intOf]; omega
          · have hc0 : (c == 0) = false := by simp; omega
            have hc8 : (c == 8) = false := by simp; omega
            clear hG
            go_wp2
            go_roundw
            case rel => exact ⟨k - 1, F, _, _, _, _, _, by omega, by go_num, Q02, Q12, QO2, Lib.hid (by have := QR.out; omega), Lib.hid (QH.out.more (by omega)), Lib.hid (QS2.out.more (by omega)), QG2⟩
            case measure => simp [intOf]; omega
        · have hgeb : decide (nx ≥ F.p) = false := by simp; omega
          go_wp2_with fail
          refine (l05Raw_any B g _ w7 QS.out (by omega)).mono ?_
          rintro e w8 ⟨v8, rfl, ⟨s, pg, rfl, hs, _, _⟩, hS8, hg8⟩
          clear d0 d1 d2 d3 d4 d5 d6 d7
          have sz_hg8 := hg8.size
          have Q0 := Lib.hid (Q0.out.grown hg8 (by omega))
          have Q1 := Lib.hid (Q1.out.grown hg8 (by omega))
          have RX := Lib.hid (RX.out.grown hg8 (by omega))
          have QO := Lib.hid (QO.out.same (same_above hg8 (by have := QR.out; omega) (by have := QR.out; omega)))
          have QG := Lib.hid (grown_trans QG.out hg8)
          have QS := Lib.hid hS8
          clear hg8 hS8
          by_cases h91 : s.size = 91
          · have h9 : ((s.size : Int) == 91) = true := by rw [h91]; rfl
            obtain ⟨G, c, hG⟩ := progEnds F (bk : Int) nx s
            obtain ⟨d0, d1, d2, d3, d4, d5, d6, d7⟩ := Q0.out.eight
            go_wp2_with fail
            refine (specProg_any _ _ _ _ F G c w8 lo' hi' ⟨_, rfl, QO.out.reads⟩ (by have := QR.out; omega) hG QH.out.lens (by omega)).mono ?_
            rintro e w9 ⟨u, rfl, ho, b9⟩
            clear d0 d1 d2 d3 d4 d5 d6 d7
            have sz_b9 := b9.size
            have Q0 := Lib.hid (Q0.out.below b9 Q0.out.lt)
            have Q1 := Lib.hid (Q1.out.below b9 Q1.out.lt)
            have RX := Lib.hid (RX.out.below b9 RX.out.lt)
            have QO := Lib.hid (QO.out.same (sm b9 _ (by have := QR.out; omega)))
            have QG := Lib.hid (grown_below QG.out (b9.mono QG.out.size))
            have QS := Lib.hid (QS.out.keep b9)
            clear b9
            obtain ⟨uo, rfl, hown⟩ := ho
            obtain ⟨ga, gn, gc, rfl⟩ := hown.slice
            unfold flc
            have HOWN := Lib.hid hown
            clear hown
            obtain ⟨a0, a1, a2, a3, a4, a5, a6, a7⟩ := RX.out.eight
            obtain ⟨f0, f1, f2, f3, f4, f5, f6, f7⟩ := RX.out.frees
            go_upto_region 12 with fail
            clear a0 a1 a2 a3 a4 a5 a6 a7 f0 f1 f2 f3 f4 f5 f6 f7
            have RX2 := Lib.hid (show Rw ((((((((w9.setCell ⟨w6.heap.size, 0, none⟩ (.int .i64 G.d)).setCell ⟨w6.heap.size, 1, none⟩ (.int .i64 G.b)).setCell ⟨w6.heap.size, 2, none⟩ (.int .i64 G.p)).setCell ⟨w6.heap.size, 3, none⟩ (.slice ga gn gc)).setCell ⟨w6.heap.size, 4, none⟩ (.int .i64 G.fu)).setCell ⟨w6.heap.size, 5, none⟩ (.int .i64 G.ke)).setCell ⟨w6.heap.size, 6, none⟩ (.bool G.off)).setCell ⟨w6.heap.size, 7, none⟩ (.int .i64 G.op)) w6.heap.size _ _ from RX.out.put8 (.int .i64 G.d) (.int .i64 G.b) (.int .i64 G.p) (.slice ga gn gc) (.int .i64 G.fu) (.int .i64 G.ke) (.bool G.off) (.int .i64 G.op))
            have Q02 := Lib.hid (show Rw ((((((((w9.setCell ⟨w6.heap.size, 0, none⟩ (.int .i64 G.d)).setCell ⟨w6.heap.size, 1, none⟩ (.int .i64 G.b)).setCell ⟨w6.heap.size, 2, none⟩ (.int .i64 G.p)).setCell ⟨w6.heap.size, 3, none⟩ (.slice ga gn gc)).setCell ⟨w6.heap.size, 4, none⟩ (.int .i64 G.fu)).setCell ⟨w6.heap.size, 5, none⟩ (.int .i64 G.ke)).setCell ⟨w6.heap.size, 6, none⟩ (.bool G.off)).setCell ⟨w6.heap.size, 7, none⟩ (.int .i64 G.op)) w.heap.size _ _ from ((((((((Q0.out).farA (by omega) _).farA (by omega) _).farA (by omega) _).farA (by omega) _).farA (by omega) _).farA (by omega) _).farA (by omega) _).farA (by omega) _)
            have Q12 := Lib.hid (show Rw ((((((((w9.setCell ⟨w6.heap.size, 0, none⟩ (.int .i64 G.d)).setCell ⟨w6.heap.size, 1, none⟩ (.int .i64 G.b)).setCell ⟨w6.heap.size, 2, none⟩ (.int .i64 G.p)).setCell ⟨w6.heap.size, 3, none⟩ (.slice ga gn gc)).setCell ⟨w6.heap.size, 4, none⟩ (.int .i64 G.fu)).setCell ⟨w6.heap.size, 5, none⟩ (.int .i64 G.ke)).setCell ⟨w6.heap.size, 6, none⟩ (.bool G.off)).setCell ⟨w6.heap.size, 7, none⟩ (.int .i64 G.op)) (w.heap.size + 1) _ _ from ((((((((Q1.out).farA (by omega) _).farA (by omega) _).farA (by omega) _).farA (by omega) _).farA (by omega) _).farA (by omega) _).farA (by omega) _).farA (by omega) _)
            have QO2 := Lib.hid (QO.out.same (w' := ((((((((w9.setCell ⟨w6.heap.size, 0, none⟩ (.int .i64 G.d)).setCell ⟨w6.heap.size, 1, none⟩ (.int .i64 G.b)).setCell ⟨w6.heap.size, 2, none⟩ (.int .i64 G.p)).setCell ⟨w6.heap.size, 3, none⟩ (.slice ga gn gc)).setCell ⟨w6.heap.size, 4, none⟩ (.int .i64 G.fu)).setCell ⟨w6.heap.size, 5, none⟩ (.int .i64 G.ke)).setCell ⟨w6.heap.size, 6, none⟩ (.bool G.off)).setCell ⟨w6.heap.size, 7, none⟩ (.int .i64 G.op))) (by (repeat refine sset ?_ (.inr (by have := QR.out; omega)) _); exact Same.refl _ _ _))
            have HOWN2 := Lib.hid (HOWN.out.same (w' := ((((((((w9.setCell ⟨w6.heap.size, 0, none⟩ (.int .i64 G.d)).setCell ⟨w6.heap.size, 1, none⟩ (.int .i64 G.b)).setCell ⟨w6.heap.size, 2, none⟩ (.int .i64 G.p)).setCell ⟨w6.heap.size, 3, none⟩ (.slice ga gn gc)).setCell ⟨w6.heap.size, 4, none⟩ (.int .i64 G.fu)).setCell ⟨w6.heap.size, 5, none⟩ (.int .i64 G.ke)).setCell ⟨w6.heap.size, 6, none⟩ (.bool G.off)).setCell ⟨w6.heap.size, 7, none⟩ (.int .i64 G.op))) (by (repeat refine sset ?_ (.inl (by omega)) _); exact Same.refl _ _ _))
            have QS2 := Lib.hid (QS.out.keepS (w' := ((((((((w9.setCell ⟨w6.heap.size, 0, none⟩ (.int .i64 G.d)).setCell ⟨w6.heap.size, 1, none⟩ (.int .i64 G.b)).setCell ⟨w6.heap.size, 2, none⟩ (.int .i64 G.p)).setCell ⟨w6.heap.size, 3, none⟩ (.slice ga gn gc)).setCell ⟨w6.heap.size, 4, none⟩ (.int .i64 G.fu)).setCell ⟨w6.heap.size, 5, none⟩ (.int .i64 G.ke)).setCell ⟨w6.heap.size, 6, none⟩ (.bool G.off)).setCell ⟨w6.heap.size, 7, none⟩ (.int .i64 G.op))) (by (repeat refine sset ?_ (.inr (by omega)) _); exact Same.refl _ _ _) (by simp))
            have QG2 : Hid (w.grownBy ((((((((w9.setCell ⟨w6.heap.size, 0, none⟩ (.int .i64 G.d)).setCell ⟨w6.heap.size, 1, none⟩ (.int .i64 G.b)).setCell ⟨w6.heap.size, 2, none⟩ (.int .i64 G.p)).setCell ⟨w6.heap.size, 3, none⟩ (.slice ga gn gc)).setCell ⟨w6.heap.size, 4, none⟩ (.int .i64 G.fu)).setCell ⟨w6.heap.size, 5, none⟩ (.int .i64 G.ke)).setCell ⟨w6.heap.size, 6, none⟩ (.bool G.off)).setCell ⟨w6.heap.size, 7, none⟩ (.int .i64 G.op)) (some g)) := Lib.hid (by
              repeat refine grown_out ?_ (by omega) _
              exact QG.out)
            have szW : ((((((((w9.setCell ⟨w6.heap.size, 0, none⟩ (.int .i64 G.d)).setCell ⟨w6.heap.size, 1, none⟩ (.int .i64 G.b)).setCell ⟨w6.heap.size, 2, none⟩ (.int .i64 G.p)).setCell ⟨w6.heap.size, 3, none⟩ (.slice ga gn gc)).setCell ⟨w6.heap.size, 4, none⟩ (.int .i64 G.fu)).setCell ⟨w6.heap.size, 5, none⟩ (.int .i64 G.ke)).setCell ⟨w6.heap.size, 6, none⟩ (.bool G.off)).setCell ⟨w6.heap.size, 7, none⟩ (.int .i64 G.op)).heap.size = w9.heap.size := by simp
            obtain ⟨w10, hw10⟩ : ∃ x, x = ((((((((w9.setCell ⟨w6.heap.size, 0, none⟩ (.int .i64 G.d)).setCell ⟨w6.heap.size, 1, none⟩ (.int .i64 G.b)).setCell ⟨w6.heap.size, 2, none⟩ (.int .i64 G.p)).setCell ⟨w6.heap.size, 3, none⟩ (.slice ga gn gc)).setCell ⟨w6.heap.size, 4, none⟩ (.int .i64 G.fu)).setCell ⟨w6.heap.size, 5, none⟩ (.int .i64 G.ke)).setCell ⟨w6.heap.size, 6, none⟩ (.bool G.off)).setCell ⟨w6.heap.size, 7, none⟩ (.int .i64 G.op)) := ⟨_, rfl⟩
            rw [← hw10] at RX2 Q02 Q12 QO2 HOWN2 QS2 QG2 szW ⊢
            clear hw10 RX Q0 Q1 QO HOWN QS QG
            by_cases hc : c = 0 ∨ c = 8
            · have HSH := Lib.hid (QH.out.prog (by omega) hG hc)
              obtain ⟨n0, n1, n2, n3, n4, n5, n6, n7⟩ := RX2.out.eight
              obtain ⟨m0, m1, m2, m3, m4, m5, m6, m7⟩ := Q02.out.eight
              obtain ⟨fm0, fm1, fm2, fm3, fm4, fm5, fm6, fm7⟩ := Q02.out.frees
              clear hG
              rcases hc with rfl | rfl
              · go_wp2
                go_roundw
                case rel =>
                  have own2 := HOWN2.out.same (w' := ((((((((w10.setCell ⟨w.heap.size, 0, none⟩ (.int .i64 G.d)).setCell ⟨w.heap.size, 1, none⟩ (.int .i64 G.b)).setCell ⟨w.heap.size, 2, none⟩ (.int .i64 G.p)).setCell ⟨w.heap.size, 3, none⟩ (.slice ga gn gc)).setCell ⟨w.heap.size, 4, none⟩ (.int .i64 G.fu)).setCell ⟨w.heap.size, 5, none⟩ (.int .i64 G.ke)).setCell ⟨w.heap.size, 6, none⟩ (.bool G.off)).setCell ⟨w.heap.size, 7, none⟩ (.int .i64 G.op))) (by (repeat refine sset ?_ (.inl (by omega)) _); exact Same.refl _ _ _)
                  have one2 : Rw ((((((((w10.setCell ⟨w.heap.size, 0, none⟩ (.int .i64 G.d)).setCell ⟨w.heap.size, 1, none⟩ (.int .i64 G.b)).setCell ⟨w.heap.size, 2, none⟩ (.int .i64 G.p)).setCell ⟨w.heap.size, 3, none⟩ (.slice ga gn gc)).setCell ⟨w.heap.size, 4, none⟩ (.int .i64 G.fu)).setCell ⟨w.heap.size, 5, none⟩ (.int .i64 G.ke)).setCell ⟨w.heap.size, 6, none⟩ (.bool G.off)).setCell ⟨w.heap.size, 7, none⟩ (.int .i64 G.op)) (w.heap.size + 1) _ _ := ((((((((Q12.out).farA (g' := w.heap.size) (by omega) _).farA (g' := w.heap.size) (by omega) _).farA (g' := w.heap.size) (by omega) _).farA (g' := w.heap.size) (by omega) _).farA (g' := w.heap.size) (by omega) _).farA (g' := w.heap.size) (by omega) _).farA (g' := w.heap.size) (by omega) _).farA (g' := w.heap.size) (by omega) _
                  have src2 := QS2.out.keepS (w' := ((((((((w10.setCell ⟨w.heap.size, 0, none⟩ (.int .i64 G.d)).setCell ⟨w.heap.size, 1, none⟩ (.int .i64 G.b)).setCell ⟨w.heap.size, 2, none⟩ (.int .i64 G.p)).setCell ⟨w.heap.size, 3, none⟩ (.slice ga gn gc)).setCell ⟨w.heap.size, 4, none⟩ (.int .i64 G.fu)).setCell ⟨w.heap.size, 5, none⟩ (.int .i64 G.ke)).setCell ⟨w.heap.size, 6, none⟩ (.bool G.off)).setCell ⟨w.heap.size, 7, none⟩ (.int .i64 G.op))) (by (repeat refine sset ?_ (.inr (by omega)) _); exact Same.refl _ _ _) (by simp)
                  have gr2 : w.grownBy ((((((((w10.setCell ⟨w.heap.size, 0, none⟩ (.int .i64 G.d)).setCell ⟨w.heap.size, 1, none⟩ (.int .i64 G.b)).setCell ⟨w.heap.size, 2, none⟩ (.int .i64 G.p)).setCell ⟨w.heap.size, 3, none⟩ (.slice ga gn gc)).setCell ⟨w.heap.size, 4, none⟩ (.int .i64 G.fu)).setCell ⟨w.heap.size, 5, none⟩ (.int .i64 G.ke)).setCell ⟨w.heap.size, 6, none⟩ (.bool G.off)).setCell ⟨w.heap.size, 7, none⟩ (.int .i64 G.op)) (some g) := by
                    repeat refine grown_out ?_ (by omega) _
                    exact QG2.out
                  exact ⟨k - 1, G, _, _, _, _, _, by omega, by go_num, Lib.hid (Q02.out.put8 _ _ _ _ _ _ _ _), Lib.hid one2, Lib.hid own2, Lib.hid (by have := QR.out; simp; omega), Lib.hid (HSH.out.more (by omega)), Lib.hid (src2.more (by omega)), Lib.hid gr2⟩
                case measure => simp [intOf]; omega
              · go_wp2
                go_roundw
                case rel =>
                  have own2 := HOWN2.out.same (w' := ((((((((w10.setCell ⟨w.heap.size, 0, none⟩ (.int .i64 G.d)).setCell ⟨w.heap.size, 1, none⟩ (.int .i64 G.b)).setCell ⟨w.heap.size, 2, none⟩ (.int .i64 G.p)).setCell ⟨w.heap.size, 3, none⟩ (.slice ga gn gc)).setCell ⟨w.heap.size, 4, none⟩ (.int .i64 G.fu)).setCell ⟨w.heap.size, 5, none⟩ (.int .i64 G.ke)).setCell ⟨w.heap.size, 6, none⟩ (.bool G.off)).setCell ⟨w.heap.size, 7, none⟩ (.int .i64 G.op))) (by (repeat refine sset ?_ (.inl (by omega)) _); exact Same.refl _ _ _)
                  have one2 : Rw ((((((((w10.setCell ⟨w.heap.size, 0, none⟩ (.int .i64 G.d)).setCell ⟨w.heap.size, 1, none⟩ (.int .i64 G.b)).setCell ⟨w.heap.size, 2, none⟩ (.int .i64 G.p)).setCell ⟨w.heap.size, 3, none⟩ (.slice ga gn gc)).setCell ⟨w.heap.size, 4, none⟩ (.int .i64 G.fu)).setCell ⟨w.heap.size, 5, none⟩ (.int .i64 G.ke)).setCell ⟨w.heap.size, 6, none⟩ (.bool G.off)).setCell ⟨w.heap.size, 7, none⟩ (.int .i64 G.op)) (w.heap.size + 1) _ _ := ((((((((Q12.out).farA (g' := w.heap.size) (by omega) _).farA (g' := w.heap.size) (by omega) _).farA (g' := w.heap.size) (by omega) _).farA (g' := w.heap.size) (by omega) _).farA (g' := w.heap.size) (by omega) _).farA (g' := w.heap.size) (by omega) _).farA (g' := w.heap.size) (by omega) _).farA (g' := w.heap.size) (by omega) _
                  have src2 := QS2.out.keepS (w' := ((((((((w10.setCell ⟨w.heap.size, 0, none⟩ (.int .i64 G.d)).setCell ⟨w.heap.size, 1, none⟩ (.int .i64 G.b)).setCell ⟨w.heap.size, 2, none⟩ (.int .i64 G.p)).setCell ⟨w.heap.size, 3, none⟩ (.slice ga gn gc)).setCell ⟨w.heap.size, 4, none⟩ (.int .i64 G.fu)).setCell ⟨w.heap.size, 5, none⟩ (.int .i64 G.ke)).setCell ⟨w.heap.size, 6, none⟩ (.bool G.off)).setCell ⟨w.heap.size, 7, none⟩ (.int .i64 G.op))) (by (repeat refine sset ?_ (.inr (by omega)) _); exact Same.refl _ _ _) (by simp)
                  have gr2 : w.grownBy ((((((((w10.setCell ⟨w.heap.size, 0, none⟩ (.int .i64 G.d)).setCell ⟨w.heap.size, 1, none⟩ (.int .i64 G.b)).setCell ⟨w.heap.size, 2, none⟩ (.int .i64 G.p)).setCell ⟨w.heap.size, 3, none⟩ (.slice ga gn gc)).setCell ⟨w.heap.size, 4, none⟩ (.int .i64 G.fu)).setCell ⟨w.heap.size, 5, none⟩ (.int .i64 G.ke)).setCell ⟨w.heap.size, 6, none⟩ (.bool G.off)).setCell ⟨w.heap.size, 7, none⟩ (.int .i64 G.op)) (some g) := by
                    repeat refine grown_out ?_ (by omega) _
                    exact QG2.out
                  exact ⟨k - 1, G, _, _, _, _, _, by omega, by go_num, Lib.hid (Q02.out.put8 _ _ _ _ _ _ _ _), Lib.hid one2, Lib.hid own2, Lib.hid (by have := QR.out; simp; omega), Lib.hid (HSH.out.more (by omega)), Lib.hid (src2.more (by omega)), Lib.hid gr2⟩
                case measure => simp [intOf]; omega
            · have hc0 : (c == 0) = false := by simp; omega
              have hc8 : (c == 8) = false := by simp; omega
              clear hG
              go_wp2
              go_roundw
              case rel => exact ⟨k - 1, F, _, _, _, _, _, by omega, by go_num, Q02, Q12, QO2, Lib.hid (by have := QR.out; omega), Lib.hid (QH.out.more (by omega)), Lib.hid (QS2.out.more (by omega)), QG2⟩
              case measure => simp [intOf]; omega
          · have h9 : ((s.size : Int) == 91) = false := by simp; omega
            go_wp2
            go_roundw
            case rel => exact ⟨k - 1, F, some ⟨g1, 0, none⟩, nb, cb, lo', hi', by omega, by go_num, Lib.hid Q0.out, Lib.hid Q1.out, Lib.hid QO.out, Lib.hid (by have := QR.out; omega), Lib.hid (QH.out.more (by omega)), Lib.hid (QS.out.more (by omega)), Lib.hid QG.out⟩
            case measure => simp [intOf]; omega
-- NEG
    · have hk1 : k = 0 := by omega
      subst hk1
      obtain ⟨x0, x1, x2, x3, x4, x5, x6, x7⟩ := Q1.out.eight
      obtain ⟨fx0, fx1, fx2, fx3, fx4, fx5, fx6, fx7⟩ := Q1.out.frees
      go_wp2
      have own2 := QO.out.same (w' := ((((((((wr.setCell ⟨w.heap.size + 1, 0, none⟩ (.int .i64 F.d)).setCell ⟨w.heap.size + 1, 1, none⟩ (.int .i64 F.b)).setCell ⟨w.heap.size + 1, 2, none⟩ (.int .i64 F.p)).setCell ⟨w.heap.size + 1, 3, none⟩ (.slice A nb cb)).setCell ⟨w.heap.size + 1, 4, none⟩ (.int .i64 F.fu)).setCell ⟨w.heap.size + 1, 5, none⟩ (.int .i64 F.ke)).setCell ⟨w.heap.size + 1, 6, none⟩ (.bool F.off)).setCell ⟨w.heap.size + 1, 7, none⟩ (.int .i64 F.op))) (by (repeat refine sset ?_ (by have := QR.out; show _ ∨ _; omega) _); exact Same.refl _ _ _)
      have src2 := QS.out.keepS (w' := ((((((((wr.setCell ⟨w.heap.size + 1, 0, none⟩ (.int .i64 F.d)).setCell ⟨w.heap.size + 1, 1, none⟩ (.int .i64 F.b)).setCell ⟨w.heap.size + 1, 2, none⟩ (.int .i64 F.p)).setCell ⟨w.heap.size + 1, 3, none⟩ (.slice A nb cb)).setCell ⟨w.heap.size + 1, 4, none⟩ (.int .i64 F.fu)).setCell ⟨w.heap.size + 1, 5, none⟩ (.int .i64 F.ke)).setCell ⟨w.heap.size + 1, 6, none⟩ (.bool F.off)).setCell ⟨w.heap.size + 1, 7, none⟩ (.int .i64 F.op))) (by (repeat refine sset ?_ (.inr (by omega)) _); exact Same.refl _ _ _) (by simp)
      have gr2 : w.grownBy ((((((((wr.setCell ⟨w.heap.size + 1, 0, none⟩ (.int .i64 F.d)).setCell ⟨w.heap.size + 1, 1, none⟩ (.int .i64 F.b)).setCell ⟨w.heap.size + 1, 2, none⟩ (.int .i64 F.p)).setCell ⟨w.heap.size + 1, 3, none⟩ (.slice A nb cb)).setCell ⟨w.heap.size + 1, 4, none⟩ (.int .i64 F.fu)).setCell ⟨w.heap.size + 1, 5, none⟩ (.int .i64 F.ke)).setCell ⟨w.heap.size + 1, 6, none⟩ (.bool F.off)).setCell ⟨w.heap.size + 1, 7, none⟩ (.int .i64 F.op)) (some g) := by
        repeat refine grown_out ?_ (by omega) _
        exact QG.out
      refine bodyPost_ret (results_cell_row Try.results101 _ _ _ _ _ _ _ rfl (Q1.out.put8 _ _ _ _ _ _ _ _) Try.underlying31 rfl infoFl8) rfl ⟨_, F, lo', hi', rfl, ⟨_, rfl, own2⟩, (by have := QR.out; simp; omega), QH.out.more (by omega), src2.more (by omega), gr2⟩
end Go.Proofs.Yteigdjocjcjkiaa
/- A new array, in the model and in the program: the contracts. -/
namespace Go.Proofs.Yteigdjocjcjkiaa
open Go.RowKit
set_option linter.unusedVariables false
/-- A block without programmed pages. -/
def newBlk (p : Int) : Blk := ⟨0, 0, false, List.replicate p.toNat ByteArray.empty⟩
theorem made_at (m i : Nat) (h : i < m) : (madeCells #[Value.string ByteArray.empty] m)[i]? = some (.string ByteArray.empty) := by
  have e : (madeCells #[Value.string ByteArray.empty] m).toList = List.replicate m (.string ByteArray.empty) := by rw [toList_madeCells_one]
  rw [← Array.getElem?_toList, e, List.getElem?_replicate, if_pos h]
theorem PgOwn.made (w : World) (m g : Nat) (hm : m ≤ 1000) (hg : g ≠ w.heap.size) (t : TypeId) :
    PgOwn (w.alloc (.cells (madeCells #[.string ByteArray.empty] m) t)) w.heap.size (w.heap.size + 1) g (.slice (some ⟨w.heap.size, 0, none⟩) m m) (List.replicate m ByteArray.empty) := by
  have hr := Rw.new w t (madeCells #[.string ByteArray.empty] m)
  have hx : ∀ i, (List.replicate m ByteArray.empty).getD i ByteArray.empty = ByteArray.empty := fun i => by
    rw [List.getD_eq_getElem?_getD, List.getElem?_replicate]; split <;> rfl
  refine ⟨_, _, _, rfl, Nat.le_refl _, by omega, by simp, fun i hi => by rw [hx]; exact Nat.zero_le _, fun _ => ⟨w.heap.size, 0, rfl, Nat.le_refl _, by omega, fun e => hg e.symm, fun k => hr.free k, fun i hi => ?_⟩⟩
  rw [hx, Nat.zero_add, hr.cell i]
  exact made_at m i hi
theorem infoBkN : (Try.prog.info? 51).map (fun i => (i.zero, i.size, i.bytes)) = some (some (.agg #[.int .i64 0, .int .i64 0, .bool false, .slice none 0 0]), 4, 48) := by kernel_rfl
theorem infoFl8N : (Try.prog.info? 31).map (·.size) = some 8 := by kernel_rfl
theorem infoSt : (Try.prog.info? 9).map (fun i => (i.zero, i.size, i.bytes)) = some (some (.string ByteArray.empty), 1, 16) := by kernel_rfl
theorem step_append_block {Q : Exit → Act → World → Prop} {K : Act → World → Prop} {E : Prop} {ops : Array Oper} {o : Oper} {a : Act} {w : World} {B : Nat} (hgd : o.guard = none) (s x : Operand)
    (ho : o.op = .call { callee := .builtin .append, args := #[s, x], argTypes := #[29, 29] })
    (v : Value) (L : List Blk) (pv : Nat → Value) (hs : a.eval s = v) (hown : w.ownsRow B 51 4 v L.length (rowC L pv)) (hB : B ≤ w.heap.size)
    (y : Blk) (u : Value) (hu : u.oneCell' = true) (g c : Nat) (hx : a.eval x = .slice (some ⟨g, 0, none⟩) 1 c) (hc : ∀ j t, (bkCells y u)[j]? = some t → w.cell? ⟨g, j, none⟩ = some t) (hl : L.length + 1 ≤ 1000000)
    (h : ∀ v' w', w'.ownsRow B 51 4 v' (L.length + 1) (rowC L pv ++ bkCells y u) → w.grownBy w' v.ownBlock → (v'.ownBlock = v.ownBlock ∨ v'.ownBlock = some w.heap.size) → K (a.put o.dst v') w') :
    if Region.wanted o (yielded ops a.tmps) = true then Oper.wp Try.prog o a w K Q else E := by
  have hw : Region.wanted o (yielded ops a.tmps) = true := by simp [Region.wanted, hgd]
  rw [if_pos hw]
  obtain ⟨i0, hi, hz0, hz1, hz2⟩ := info_parts infoBkN
  obtain ⟨v', w', hr, h2, h3, h4, h5⟩ := run_append_own_at (P := Try.prog) w B 29 o.type 51 i0 (.agg #[.int .i64 0, .int .i64 0, .bool false, .slice none 0 0]) 4 48 Try.underlying29 hi hz0 hz1 hz2 rfl (by decide) v L.length (rowC L pv) hown ⟨g, 0, none⟩ 1 c (bkCells y u) rfl
    (fun j t hj => by rw [Addr.add_lit, Nat.zero_add]; exact hc j t hj) (by
      intro t ht
      simp [bkCells] at ht
      rcases ht with rfl | rfl | rfl | rfl
      · rfl
      · rfl
      · rfl
      · exact hu) (by unfold maxLen; omega) (by omega) hB
  unfold Oper.wp execOp
  simp only [ho, resolve, invoke, builtin, Sem.run_bind, Sem.run_pure, Result.andThen_ok, List.map_toArray, List.map_cons, List.map_nil, hs, hx, hr]
  exact h v' w' h2 h3 h5
set_option maxHeartbeats 4000000 in
theorem l06New_any (d b p : Int) (w : World) (hg : GeoOk d b p) :
    Calls Try.prog 99 #[.agg #[.int .i64 d, .int .i64 b, .int .i64 p]] w fun e w' => ∃ u, e = .returned u ∧ FlOwn w' w.heap.size w'.heap.size u (newFl d b p) ∧ Below w.heap.size w w' := by
  obtain ⟨n, hn, hn1, hn2⟩ : ∃ n : Nat, d * b = (n : Int) ∧ 8 ≤ n ∧ n ≤ 36 := by have := hg.mul; exact ⟨(d * b).toNat, by omega, by omega, by omega⟩
  obtain ⟨m, rfl, hm1, hm2⟩ : ∃ m : Nat, p = (m : Int) ∧ 8 ≤ m ∧ m ≤ 16 := by have := hg.p16; exact ⟨p.toNat, by omega, by omega, by omega⟩
  have hdb : (2 ≤ d ∧ d ≤ 3) ∧ (4 ≤ b ∧ b ≤ 12) := ⟨hg.1, hg.2.1⟩
  clear hg
  go_enter Try.func99, Try.ntmps99
  go_wp2_with fail
  obtain ⟨r0, r1, r2, b0⟩ := Rw.three_new w 28 31 31 #[.int .i64 d, .int .i64 b, .int .i64 m]
    #[.int .i64 0, .int .i64 0, .int .i64 0, .slice none 0 0, .int .i64 0, .int .i64 0, .bool false, .int .i64 0] #[.int .i64 d, .int .i64 b, .int .i64 m, .slice none 0 0, .int .i64 (-1), .int .i64 0, .bool false, .int .i64 0]
  have R0 := Lib.hid r0
  have R1 := Lib.hid r1
  have R2 := Lib.hid r2
  have HB0 := Lib.hid b0
  have G0 := Lib.hid (Grow.nil (((w.alloc (.cells #[.int .i64 d, .int .i64 b, .int .i64 m] 28)).alloc (.cells #[.int .i64 0, .int .i64 0, .int .i64 0, .slice none 0 0, .int .i64 0, .int .i64 0, .bool false, .int .i64 0] 31)).alloc (.cells #[.int .i64 d, .int .i64 b, .int .i64 m, .slice none 0 0, .int .i64 (-1), .int .i64 0, .bool false, .int .i64 0] 31)) (w.heap.size + 3) (fun _ => .slice none 0 0))
  have hz0 : w.heap.size + 3 ≤ (((w.alloc (.cells #[.int .i64 d, .int .i64 b, .int .i64 m] 28)).alloc (.cells #[.int .i64 0, .int .i64 0, .int .i64 0, .slice none 0 0, .int .i64 0, .int .i64 0, .bool false, .int .i64 0] 31)).alloc (.cells #[.int .i64 d, .int .i64 b, .int .i64 m, .slice none 0 0, .int .i64 (-1), .int .i64 0, .bool false, .int .i64 0] 31)).heap.size := by simp
  have hmk := fun W : World => run_make_row' (P := Try.prog) 49 9 (.string ByteArray.empty) 16 Try.underlying49 infoSt rfl .i64 .i64 m (by omega) (by omega) W
  clear r0 r1 r2 b0
  go_loopw [4] (fun i wr => ∃ (k : Nat) (pv : Nat → Value) (A : Option Addr) (cv : Nat), k ≤ n ∧ i = .int .i64 k ∧ Hid (Grow wr (w.heap.size + 3) (.slice A k cv) (List.replicate k (newBlk m)) pv) ∧ Hid (Rw wr w.heap.size 28 #[.int .i64 d, .int .i64 b, .int .i64 m]) ∧
      Hid (Rw wr (w.heap.size + 1) 31 #[.int .i64 0, .int .i64 0, .int .i64 0, .slice none 0 0, .int .i64 0, .int .i64 0, .bool false, .int .i64 0]) ∧ Hid (Rw wr (w.heap.size + 1 + 1) 31 #[.int .i64 d, .int .i64 b, .int .i64 m, .slice A k cv, .int .i64 (-1), .int .i64 0, .bool false, .int .i64 0]) ∧
      Hid (Below w.heap.size w wr) ∧ w.heap.size + 3 ≤ wr.heap.size) (fun i _ => n - (intOf i).toNat)
  case atStart => exact ⟨0, _, none, 0, by omega, rfl, G0, R0, R1, R2, HB0, hz0⟩
  case round =>
    clear R0 R1 R2 HB0 G0 hz0
    obtain ⟨k, pv, A, cv, hk, rfl, GG, R0, R1, R2, HB, hz⟩ := hrel
    obtain ⟨a0, a1, a2⟩ := R0.out.three
    obtain ⟨z0, z1, z2, z3, z4, z5, z6, z7⟩ := R1.out.eight
    obtain ⟨o0, o1, o2, o3, o4, o5, o6, o7⟩ := R2.out.eight
    by_cases hlt : k < n
    · have hki : (k : Int) < (n : Int) := by omega
      have hrl : (List.replicate k (newBlk m)).length = k := List.length_replicate
      have hown := GG.out.own
      rw [hrl] at hown
      have hr2 := Rw.new (wr.alloc (.cells (madeCells #[.string ByteArray.empty] m) 9)) 51 #[.int .i64 0, .int .i64 0, .bool false, .slice (some ⟨wr.heap.size, 0, none⟩) m m]
      simp only [World.size_alloc] at hr2
      have bb := ((Below.refl wr.heap.size wr).alloc (Nat.le_refl _) (.cells (madeCells #[.string ByteArray.empty] m) 9)).alloc (by simp) (.cells #[.int .i64 0, .int .i64 0, .bool false, .slice (some ⟨wr.heap.size, 0, none⟩) m m] 51)
      have OW := Lib.hid (show World.ownsRow ((wr.alloc (.cells (madeCells #[.string ByteArray.empty] m) 9)).alloc (.cells #[.int .i64 0, .int .i64 0, .bool false, .slice (some ⟨wr.heap.size, 0, none⟩) m m] 51)).drew (w.heap.size + 3) 51 4 (.slice A k cv) (List.replicate k (newBlk m)).length (rowC (List.replicate k (newBlk m)) pv) from by rw [hrl]; exact ((World.ownsRow.alloc (World.ownsRow.alloc hown _) _).drew))
      have HR2 := Lib.hid (show ∀ j t, (bkCells (newBlk m) (.slice (some ⟨wr.heap.size, 0, none⟩) m m))[j]? = some t → ((wr.alloc (.cells (madeCells #[.string ByteArray.empty] m) 9)).alloc (.cells #[.int .i64 0, .int .i64 0, .bool false, .slice (some ⟨wr.heap.size, 0, none⟩) m m] 51)).drew.cell? ⟨wr.heap.size + 1, j, none⟩ = some t from fun j t hj => by
        refine (hr2.cell j).trans ?_
        rw [← hj]; simp [bkCells, newBlk])
      have pg0 := PgOwn.made wr m (wr.heap.size + 1 + 1) (by omega) (by omega) 9
      have PG := Lib.hid (show PgOwn ((wr.alloc (.cells (madeCells #[.string ByteArray.empty] m) 9)).alloc (.cells #[.int .i64 0, .int .i64 0, .bool false, .slice (some ⟨wr.heap.size, 0, none⟩) m m] 51)).drew wr.heap.size (wr.heap.size + 1 + 1) (wr.heap.size + 1 + 1) (.slice (some ⟨wr.heap.size, 0, none⟩) m m) (newBlk m).pg from by
        have e : (newBlk m).pg = List.replicate m ByteArray.empty := by simp [newBlk]
        rw [e]
        exact (pg0.same (sm ((Below.refl (wr.heap.size + 1) (wr.alloc (.cells (madeCells #[.string ByteArray.empty] m) 9))).alloc (by simp) _) _ (Nat.le_refl _))).wide (Nat.le_refl _) (by omega))
      have BBW := Lib.hid (show Below wr.heap.size wr ((wr.alloc (.cells (madeCells #[.string ByteArray.empty] m) 9)).alloc (.cells #[.int .i64 0, .int .i64 0, .bool false, .slice (some ⟨wr.heap.size, 0, none⟩) m m] 51)).drew from bb.drew)
      have hwz : ((wr.alloc (.cells (madeCells #[.string ByteArray.empty] m) 9)).alloc (.cells #[.int .i64 0, .int .i64 0, .bool false, .slice (some ⟨wr.heap.size, 0, none⟩) m m] 51)).drew.heap.size = wr.heap.size + 1 + 1 := by simp
      have HWZ := Lib.hid hwz
      have HRL := Lib.hid hrl
      clear hrl
      have cA : ∀ o, (wr.alloc o).cell? ⟨w.heap.size + 1 + 1, 3, none⟩ = some (.slice A k cv) := fun o => (R2.out.alloc o).cell 3
      have cB : ∀ o o', ((wr.alloc o).alloc o').cell? ⟨w.heap.size + 1 + 1, 3, none⟩ = some (.slice A k cv) := fun o o' => ((R2.out.alloc o).alloc o').cell 3
      clear hown hr2 bb pg0 hwz
      go_wp2_with fail
      go_region_law (
        refine step_append_block rfl (.tmp 17) (.tmp 22) rfl (.slice A k cv) (List.replicate k (newBlk m)) pv (by simp [Act.eval]) OW.out (by rw [HWZ.out]; omega) (newBlk m) (.slice (some ⟨wr.heap.size, 0, none⟩) m m) rfl (wr.heap.size + 1) 1 (by simp [Act.eval]) HR2.out (by simp; omega) ?_
        intro v2 w2 own2 gr2 hat2
        rw [HWZ.out] at hat2
        obtain ⟨A2, c2, hv2⟩ := owns_slice own2
        rw [HRL.out] at hv2
        subst hv2
        have G2 := Lib.hid (GG.out.push BBW.out (x := newBlk m) (by rw [HWZ.out]; exact PG.out) own2 gr2 (by rw [HWZ.out]; exact hat2) (by omega))
        have low : ∀ j, j < w.heap.size + 3 → w2.heap[j]? = wr.heap[j]? := fun j hj =>
          (gr2.block j (by rw [HWZ.out]; omega) fun e => by have := (GG.out.rowLt (k := j) e.symm).1; omega).trans (BBW.out.block j (by omega))
        have T0 := Lib.hid (show Rw w2 w.heap.size _ _ from (low _ (by omega)).trans R0.out)
        have T1 := Lib.hid (show Rw w2 (w.heap.size + 1) _ _ from (low _ (by omega)).trans R1.out)
        have T2 := Lib.hid (show Rw w2 (w.heap.size + 1 + 1) _ _ from (low _ (by omega)).trans R2.out)
        obtain ⟨n0, n1, n2, n3, n4, n5, n6, n7⟩ := T2.out.eight
        obtain ⟨fn0, fn1, fn2, fn3, fn4, fn5, fn6, fn7⟩ := T2.out.frees
        have B2 := Lib.hid ((HB.out.trans (BBW.out.mono (by omega))).grown gr2 (by rw [HWZ.out]; omega) fun j hj => by have := (GG.out.rowLt hj).1; omega)
        have hsz2 := gr2.size
        rw [HWZ.out] at hsz2
        clear own2 gr2 hat2 low)
      all_goals
        go_wp2
        go_roundw
        case rel =>
          have g3 := G2.out.same (w1 := w2.setCell ⟨w.heap.size + 1 + 1, 3, none⟩ (.slice A2 (k + 1) c2)) (fun j a b => Below.heap_setCell w2 _ _ j (by show j ≠ w.heap.size + 1 + 1; omega)) (by simp)
          rw [show List.replicate k (newBlk m) ++ [newBlk m] = List.replicate (k + 1) (newBlk m) from by rw [← List.replicate_succ']] at g3
          exact ⟨k + 1, _, A2, c2, by omega, by go_num, Lib.hid g3, Lib.hid (T0.out.farA (by omega) _), Lib.hid (T1.out.farA (by omega) _), Lib.hid (T2.out.set_ 3 _), Lib.hid (bset B2.out (by omega) _), by simp; omega⟩
        case measure => simp [intOf]; omega
    · obtain rfl : k = n := by omega
      obtain ⟨fo0, fo1, fo2, fo3, fo4, fo5, fo6, fo7⟩ := R1.out.frees
      have GO := Lib.hid GG.out.owns
      clear GG
      go_wp2
      refine bodyPost_ret (results_cell_row Try.results99 _ _ _ _ #[.int .i64 d, .int .i64 b, .int .i64 m, .slice A k cv, .int .i64 (-1), .int .i64 0, .bool false, .int .i64 0] _ _ rfl
        ((((((((R1.out.set_ 0 _).set_ 1 _).set_ 2 _).set_ 3 _).set_ 4 _).set_ 5 _).set_ 6 _).set_ 7 _) Try.underlying31 rfl infoFl8N) rfl ?_
      refine ⟨_, rfl, ⟨_, rfl, ?_⟩, ?_⟩
      · have hgo := GO.out
        rw [show List.replicate k (newBlk m) = (newFl d b m).bs from by simp only [newFl, hn, Int.toNat_natCast]; rfl] at hgo
        refine (hgo.same ?_).wide (by omega) (by simp)
        repeat refine sset ?_ (.inl (by omega)) _
        exact Same.refl _ _ _
      · repeat refine bset ?_ (by omega) _
        exact HB.out
end Go.Proofs.Yteigdjocjcjkiaa
/- Chapter 6's generator of arrays: the contract. -/
namespace Go.Proofs.Yteigdjocjcjkiaa
open Go.RowKit
set_option linter.unusedVariables false
theorem BksOwn.lohi {w : World} {lo hi : Nat} {v : Value} {L : List Blk} (h : BksOwn w lo hi v L) (hl : 0 < L.length) : lo < hi := by
  obtain ⟨A, len, cap, e, h1, h2, h3, hc⟩ := h
  obtain ⟨g, pv, e, hb⟩ := hc (by omega)
  exact Nat.lt_of_le_of_lt hb.low hb.high
/-- The state between two statements of l06Draw: its result's block r (zeros), its variable's block f (an array of the shape), the array's blocks, the source. -/
def DrSt (B g n : Nat) (w : World) (r f M : Nat) (wx : World) : Prop := ∃ (F : Fl) (A : Option Addr) (nb cb lo hi : Nat), Rw wx r 31 #[.int .i64 0, .int .i64 0, .int .i64 0, .slice none 0 0, .int .i64 0, .int .i64 0, .bool false, .int .i64 0] ∧
  Rw wx f 31 #[.int .i64 F.d, .int .i64 F.b, .int .i64 F.p, .slice A nb cb, .int .i64 F.fu, .int .i64 F.ke, .bool F.off, .int .i64 F.op] ∧ BksOwn wx lo hi (.slice A nb cb) F.bs ∧
  (g < w.heap.size ∧ w.heap.size ≤ r ∧ r < f ∧ r < lo ∧ (lo ≤ wx.heap.size ∧ hi ≤ wx.heap.size) ∧ (hi ≤ f ∨ f + 1 ≤ lo)) ∧ Shape F M ∧ Src wx B g n ∧ w.grownBy wx (some g)
section
variable {B g n m r f M : Nat} {w wx wy : World}
theorem DrSt.pass (h : DrSt B g n w r f M wx) (hg : wx.grownBy wy (some g)) (hs : Src wy B g m) : DrSt B g m w r f M wy := by
  obtain ⟨F, A, nb, cb, lo, hi, h1, h2, h3, h4, h5, h6, h7⟩ := h
  have := hg.size
  exact ⟨F, A, nb, cb, lo, hi, h1.grown hg (by omega), h2.grown hg (by omega), h3.same (same_above hg (by omega) h4.2.2.2.2.1.2), ⟨h4.1, h4.2.1, h4.2.2.1, h4.2.2.2.1, by omega, h4.2.2.2.2.2⟩, h5, hs, grown_trans h7 hg⟩
theorem DrSt.more (h : DrSt B g n w r f M wx) (hn : n ≤ m) : DrSt B g m w r f M wx := by
  obtain ⟨F, A, nb, cb, lo, hi, h1, h2, h3, h4, h5, h6, h7⟩ := h
  exact ⟨F, A, nb, cb, lo, hi, h1, h2, h3, h4, h5, h6.more hn, h7⟩
theorem DrSt.src (h : DrSt B g n w r f M wx) : Src wx B g n := by
  obtain ⟨F, A, nb, cb, lo, hi, h1, h2, h3, h4, h5, h6, h7⟩ := h
  exact h6
theorem DrSt.frees (h : DrSt B g n w r f M wx) : ∃ c0 c1 c2 c3 c4 c5 c6 c7, Rw wx f 31 #[c0, c1, c2, c3, c4, c5, c6, c7] := by
  obtain ⟨F, A, nb, cb, lo, hi, h1, h2, h3, h4, h5, h6, h7⟩ := h
  exact ⟨_, _, _, _, _, _, _, _, h2⟩
/-- A store into a cell of the variable. -/
theorem DrSt.put (h : DrSt B g n w r f M wx) (j : Nat) (u : Value) (hj : (j = 4 ∧ ∃ x, u = .int .i64 x) ∨ (j = 5 ∧ ∃ x, u = .int .i64 x) ∨ (j = 6 ∧ ∃ x, u = .bool x)) : DrSt B g n w r f M (wx.setCell ⟨f, j, none⟩ u) := by
  obtain ⟨F, A, nb, cb, lo, hi, h1, h2, h3, h4, h5, h6, h7⟩ := h
  have o := h3.same (sset (Same.refl lo hi wx) (g := f) (k := j) (by omega) u)
  have s := h6.keepS (sset (Same.refl 0 (g + 1) wx) (g := f) (k := j) (.inr (by omega)) u) (by simp)
  have gr := grown_out (k := j) h7 (show w.heap.size ≤ f by omega) u
  have sz : (wx.setCell ⟨f, j, none⟩ u).heap.size = wx.heap.size := by simp
  rcases hj with ⟨rfl, x, rfl⟩ | ⟨rfl, x, rfl⟩ | ⟨rfl, x, rfl⟩
  · exact ⟨{ F with fu := x }, A, nb, cb, lo, hi, h1.farA (by omega) _, h2.set_ 4 _, o, by rw [sz]; exact h4, h5, s, gr⟩
  · exact ⟨{ F with ke := x }, A, nb, cb, lo, hi, h1.farA (by omega) _, h2.set_ 5 _, o, by rw [sz]; exact h4, h5, s, gr⟩
  · exact ⟨{ F with off := x }, A, nb, cb, lo, hi, h1.farA (by omega) _, h2.set_ 6 _, o, by rw [sz]; exact h4, h5, s, gr⟩
/-- The variable stored whole. -/
theorem DrSt.all {F : Fl} {A : Option Addr} {nb cb lo hi : Nat} {c0 c1 c2 c3 c4 c5 c6 c7 : Value} (h1 : Rw wx r 31 #[.int .i64 0, .int .i64 0, .int .i64 0, .slice none 0 0, .int .i64 0, .int .i64 0, .bool false, .int .i64 0]) (h2 : Rw wx f 31 #[c0, c1, c2, c3, c4, c5, c6, c7]) (h3 : BksOwn wx lo hi (.slice A nb cb) F.bs)
    (h4 : g < w.heap.size ∧ w.heap.size ≤ r ∧ r < f ∧ r < lo ∧ (lo ≤ wx.heap.size ∧ hi ≤ wx.heap.size) ∧ (hi ≤ f ∨ f + 1 ≤ lo)) (h5 : Shape F M) (h6 : Src wx B g n) (h7 : w.grownBy wx (some g)) :
    DrSt B g n w r f M ((((((((wx.setCell ⟨f, 0, none⟩ (.int .i64 F.d)).setCell ⟨f, 1, none⟩ (.int .i64 F.b)).setCell ⟨f, 2, none⟩ (.int .i64 F.p)).setCell ⟨f, 3, none⟩ (.slice A nb cb)).setCell ⟨f, 4, none⟩ (.int .i64 F.fu)).setCell ⟨f, 5, none⟩ (.int .i64 F.ke)).setCell ⟨f, 6, none⟩ (.bool F.off)).setCell ⟨f, 7, none⟩ (.int .i64 F.op)) := by
  refine ⟨F, A, nb, cb, lo, hi, ((((((((h1).farA (g' := f) (by omega) _).farA (g' := f) (by omega) _).farA (g' := f) (by omega) _).farA (g' := f) (by omega) _).farA (g' := f) (by omega) _).farA (g' := f) (by omega) _).farA (g' := f) (by omega) _).farA (g' := f) (by omega) _, h2.put8 _ _ _ _ _ _ _ _, h3.same (by (repeat refine sset ?_ (by omega) _); exact Same.refl _ _ _), ?_, h5, h6.keepS (by (repeat refine sset ?_ (.inr (by omega)) _); exact Same.refl _ _ _) (by simp), ?_⟩
  · simp only [World.size_setCell]
    exact h4
  · repeat refine grown_out ?_ (by omega) _
    exact h7
/-- A store into a cell of a block. -/
theorem DrSt.blk {F : Fl} {gb nb cb lo hi k c : Nat} {pv : Nat → Value} {u : Value} (h1 : Rw wx r 31 #[.int .i64 0, .int .i64 0, .int .i64 0, .slice none 0 0, .int .i64 0, .int .i64 0, .bool false, .int .i64 0]) (h2 : Rw wx f 31 #[.int .i64 F.d, .int .i64 F.b, .int .i64 F.p, .slice (some ⟨gb, 0, none⟩) nb cb, .int .i64 F.fu, .int .i64 F.ke, .bool F.off, .int .i64 F.op]) (h3 : BO wx lo hi gb pv F.bs) (hl1 : nb ≤ cb) (hl2 : cb ≤ 9223372036854775807) (hl3 : F.bs.length = nb)
    (h4 : g < w.heap.size ∧ w.heap.size ≤ r ∧ r < f ∧ r < lo ∧ (lo ≤ wx.heap.size ∧ hi ≤ wx.heap.size) ∧ (hi ≤ f ∨ f + 1 ≤ lo)) (h5 : Shape F M) (h6 : Src wx B g n) (h7 : w.grownBy wx (some g)) (hk : k < nb) (hc : (c = 0 ∧ ∃ n, u = .int .i64 n) ∨ (c = 1 ∧ ∃ n, u = .int .i64 n) ∨ (c = 2 ∧ ∃ b, u = .bool b)) :
    DrSt B g n w r f M (wx.setCell ⟨gb, k * 4 + c, none⟩ u) := by
  have lo1 := h3.low
  have hi1 := h3.high
  have bo := h3.store (k := k) (c := c) (by omega) u hc
  refine ⟨{ F with bs := F.bs.set k ((F.bs.getD k Blk.zero).put c u) }, some ⟨gb, 0, none⟩, nb, cb, lo, hi, h1.farA (by omega) _, h2.farA (by omega) _, ⟨_, _, _, rfl, hl1, hl2, by simpa using hl3, fun _ => ⟨gb, pv, rfl, bo⟩⟩, ?_, h5.set k _ ?_ rfl rfl rfl rfl h5.2.2.2, h6.keepS (sset (Same.refl _ _ _) (.inr (by omega)) _) (by simp), grown_out h7 (by omega) _⟩
  · simp only [World.size_setCell]
    exact h4
  · rcases hc with ⟨rfl, x, rfl⟩ | ⟨rfl, x, rfl⟩ | ⟨rfl, x, rfl⟩ <;> rfl
end
set_option maxHeartbeats 4000000 in
set_option maxRecDepth 100000 in
theorem l06Draw_any (B g n : Nat) (w : World) (h : Src w B g n) (hn : n ≤ 400000000000) :
    Calls Try.prog 78 #[.pointer (some ⟨g, 0, none⟩)] w (DrewFl 8 w.heap.size B g (n + 200000) w) := by
  have hlt := h.lt
  have b0 := (Below.refl w.heap.size w).alloc (Nat.le_refl _) (.cells #[.int .i64 0, .int .i64 0, .int .i64 0, .slice none 0 0, .int .i64 0, .int .i64 0, .bool false, .int .i64 0] 31)
  have R0 := Lib.hid (Rw.new w 31 #[.int .i64 0, .int .i64 0, .int .i64 0, .slice none 0 0, .int .i64 0, .int .i64 0, .bool false, .int .i64 0])
  have S0 := Lib.hid (h.keep b0)
  have G0 := Lib.hid (grown_below (grown_refl w (some g)) b0)
  have P2 : Hid (pickMax 2 = 1) := by show _ = _; decide
  have P3 : Hid (pickMax 3 = 2) := by show _ = _; decide
  have P4 : Hid (pickMax 4 = 3) := by show _ = _; decide
  have P8 : Hid (pickMax 8 = 7) := by show _ = _; decide
  clear b0 h
  go_enter Try.func78, Try.ntmps78
  go_wp2_with fail
  refine (pick_any B g n 2 _ S0.out (by omega) (by omega) (by omega)).mono ?_
  rintro e w1 ⟨v1, rfl, ⟨d, rfl, hd0, hd1⟩, hS1, hg1⟩
  rw [P2.out] at hd1
  have hz1 := hg1.size
  simp only [World.size_alloc] at hz1
  have R1 := Lib.hid (R0.out.grown hg1 (by omega))
  have G1 := Lib.hid (grown_trans G0.out hg1)
  have S1 := Lib.hid hS1
  clear R0 G0 S0 hg1 hS1
  go_wp2_with fail
  obtain ⟨t0, t1, t2⟩ := Rw.two_new w1 28 2 #[.int .i64 (2 + d), .int .i64 0, .int .i64 0] #[.int .i64 4, .int .i64 4, .int .i64 5]
  have T0 := Lib.hid t0
  have R2 := Lib.hid (R1.out.below t2 (by omega))
  have G2 := Lib.hid (grown_below G1.out (t2.mono (by omega)))
  have S2 := Lib.hid (S1.out.keep t2)
  clear t0 t2 R1 G1 S1
  refine (among_any (fun x => 4 ≤ x ∧ x ≤ 5) B g _ (w1.heap.size + 1) 3 3 _ S2.out (by omega) (by omega) (by omega) (by omega) ?_).mono ?_
  · intro i hi
    rw [t1.cell]
    rcases i with _ | _ | _ | i <;> first | exact ⟨_, rfl, by omega⟩ | omega
  clear t1
  rintro e w2 ⟨v2, rfl, ⟨b, rfl, hb0, hb1⟩, hS2, hg2⟩
  have hz2 := hg2.size
  simp only [World.size_alloc] at hz2
  have R3 := Lib.hid (R2.out.grown hg2 (by omega))
  have G3 := Lib.hid (grown_trans G2.out hg2)
  have S3 := Lib.hid hS2
  have T1 := Lib.hid (T0.out.grown hg2 (by omega))
  clear R2 G2 S2 hg2 hS2 T0
  obtain ⟨a0, a1, a2⟩ := T1.out.three
  obtain ⟨f0, f1, f2, f3, f4, f5, f6, f7⟩ := T1.out.frees
  go_wp2_with fail
  clear a0 a1 a2 f0 f1 f2 f3 f4 f5 f6 f7
  have T2 := Lib.hid ((T1.out.set_ 1 (.int .i64 b)).alloc (.cells #[.int .i64 8, .int .i64 8, .int .i64 16] 2))
  have R4 := Lib.hid ((R3.out.farA (g' := w1.heap.size) (k := 1) (by omega) (.int .i64 b)).alloc (.cells #[.int .i64 8, .int .i64 8, .int .i64 16] 2))
  have G4 := Lib.hid (grown_trans (grown_out (k := 1) G3.out (show w.heap.size ≤ w1.heap.size by omega) (.int .i64 b)) (World.grownBy_alloc _ (.cells #[.int .i64 8, .int .i64 8, .int .i64 16] 2) _))
  have S4 := Lib.hid ((S3.out.keepS (sset (Same.refl _ _ _) (k := 1) (.inr (show g + 1 ≤ w1.heap.size by omega)) (.int .i64 b)) (by simp)).keep ((Below.refl _ _).alloc (Nat.le_refl _) (.cells #[.int .i64 8, .int .i64 8, .int .i64 16] 2)))
  have N4 := Rw.new (w2.setCell ⟨w1.heap.size, 1, none⟩ (.int .i64 b)) 2 #[.int .i64 8, .int .i64 8, .int .i64 16]
  have hz3 : ((w2.setCell ⟨w1.heap.size, 1, none⟩ (.int .i64 b)).alloc (.cells #[.int .i64 8, .int .i64 8, .int .i64 16] 2)).heap.size = w2.heap.size + 1 := by simp
  simp only [World.size_setCell] at N4
  clear T1 R3 G3 S3
  refine (among_any (fun x => x = 8 ∨ x = 16) B g _ w2.heap.size 3 3 _ S4.out (by omega) (by omega) (by omega) (by omega) ?_).mono ?_
  · intro i hi
    rw [N4.cell]
    rcases i with _ | _ | _ | i <;> first | exact ⟨_, rfl, by omega⟩ | omega
  clear N4
  rintro e w3 ⟨v3, rfl, ⟨p, rfl, hp⟩, hS3, hg3⟩
  have hz4 := hg3.size
  rw [hz3] at hz4
  have R5 := Lib.hid (R4.out.grown hg3 (by omega))
  have G5 := Lib.hid (grown_trans G4.out hg3)
  have S5 := Lib.hid hS3
  have T3 := Lib.hid (show Rw w3 w1.heap.size 28 #[.int .i64 (2 + d), .int .i64 b, .int .i64 0] from T2.out.grown hg3 (by omega))
  clear R4 G4 S4 hg3 hS3 T2 hz3
  have hgeo : (2 ≤ 2 + d ∧ 2 + d ≤ 3) ∧ (4 ≤ b ∧ b ≤ 5) ∧ (p = 8 ∨ p = 16) := ⟨by omega, by omega, hp⟩
  have HGEO := Lib.hid hgeo
  have HP := Lib.hid hp
  clear hgeo hp
  obtain ⟨a0, a1, a2⟩ := T3.out.three
  obtain ⟨f0, f1, f2, f3, f4, f5, f6, f7⟩ := T3.out.frees
  go_wp2_with fail
  clear a0 a1 a2 f0 f1 f2 f3 f4 f5 f6 f7
  have S5k := Shape.new HGEO.out
  have R5b := Lib.hid (R5.out.farA (g' := w1.heap.size) (k := 2) (by omega) (.int .i64 p))
  have G5b := Lib.hid (grown_out (k := 2) G5.out (show w.heap.size ≤ w1.heap.size by omega) (.int .i64 p))
  have S5b := Lib.hid (S5.out.keepS (sset (Same.refl _ _ _) (k := 2) (.inr (show g + 1 ≤ w1.heap.size by omega)) (.int .i64 p)) (by simp))
  have hz5b : (w3.setCell ⟨w1.heap.size, 2, none⟩ (.int .i64 p)).heap.size = w3.heap.size := by simp
  clear R5 G5 S5
  refine (l06New_any (2 + d) b p _ S5k.geo).mono ?_
  rintro e w4 ⟨u, rfl, ho, b4⟩
  have H0 := Lib.hid S5k
  have hz5 := b4.size
  have R6 := Lib.hid (R5b.out.below b4 (by omega))
  have G6 := Lib.hid (grown_below G5b.out (b4.mono (by omega)))
  have S6 := Lib.hid (S5b.out.keep b4)
  obtain ⟨ub, rfl, hb⟩ := ho
  obtain ⟨A, nb, cb, rfl⟩ := hb.slice
  obtain ⟨F, hF⟩ : ∃ F, F = newFl (2 + d) b p := ⟨_, rfl⟩
  rw [← hF] at hb H0 ⊢
  have O0 := Lib.hid hb
  clear R5b G5b S5b b4 S5k hF hb T3 HGEO HP
  unfold flc
  have R7 := Lib.hid (R6.out.alloc (.cells #[.int .i64 F.d, .int .i64 F.b, .int .i64 F.p, .slice A nb cb, .int .i64 F.fu, .int .i64 F.ke, .bool F.off, .int .i64 F.op] 31))
  have Q7 := Lib.hid (Rw.new w4 31 #[.int .i64 F.d, .int .i64 F.b, .int .i64 F.p, .slice A nb cb, .int .i64 F.fu, .int .i64 F.ke, .bool F.off, .int .i64 F.op])
  have G7 := Lib.hid (grown_trans G6.out (World.grownBy_alloc _ (.cells #[.int .i64 F.d, .int .i64 F.b, .int .i64 F.p, .slice A nb cb, .int .i64 F.fu, .int .i64 F.ke, .bool F.off, .int .i64 F.op] 31) _))
  have S7 := Lib.hid (S6.out.keep ((Below.refl _ _).alloc (Nat.le_refl _) (.cells #[.int .i64 F.d, .int .i64 F.b, .int .i64 F.p, .slice A nb cb, .int .i64 F.fu, .int .i64 F.ke, .bool F.off, .int .i64 F.op] 31)))
  have O7 := Lib.hid (O0.out.same (sm ((Below.refl w4.heap.size _).alloc (Nat.le_refl _) (.cells #[.int .i64 F.d, .int .i64 F.b, .int .i64 F.p, .slice A nb cb, .int .i64 F.fu, .int .i64 F.ke, .bool F.off, .int .i64 F.op] 31)) _ (Nat.le_refl _)))
  clear R6 G6 S6 O0
  go_wp2_with fail
  refine (one_any B g _ 3 _ S7.out (by omega) (by omega) (by omega)).mono ?_
  rintro e w5 ⟨v5, rfl, ⟨bb, rfl⟩, hS5, hg5⟩
  have hzf : w.heap.size < w4.heap.size := by simp at hz5; omega
  have D0 := Lib.hid (DrSt.pass (w := w) (r := w.heap.size) (f := w4.heap.size) (M := 0) ⟨F, A, nb, cb, _, _, R7.out, Q7.out, O7.out, ⟨hlt, Nat.le_refl _, hzf, by simp at hz5 ⊢; omega, ⟨by simp at hz5 ⊢; omega, by simp⟩, .inl (Nat.le_refl _)⟩, H0.out, S7.out, G7.out⟩ hg5 hS5)
  clear R7 Q7 O7 H0 S7 G7 hg5 hS5
  obtain ⟨f, hf⟩ : ∃ f, f = w4.heap.size := ⟨_, rfl⟩
  rw [← hf] at hzf D0 ⊢
  clear hf hz5 hz5b hz4 hz2 hz1
  go_upto_if 21 with fail
  go_cut [] (fun wx => Hid (DrSt B g (n + 100) w w.heap.size f 0 wx))
  case first =>
    cases bb
    case' true =>
      go_wp2_with fail
      refine (pick_any B g _ 8 _ D0.out.src (by omega) (by omega) (by omega)).mono ?_
      rintro e w6 ⟨v6, rfl, ⟨x, rfl, hx0, hx1⟩, hS6, hg6⟩
      have D1 := Lib.hid (D0.out.pass hg6 hS6)
      clear D0 hg6 hS6 hx0 hx1
      obtain ⟨c0, c1, c2, c3, c4, c5, c6, c7, hr⟩ := D1.out.frees
      obtain ⟨d0, d1, d2, d3, d4, d5, d6, d7⟩ := hr.eight
      obtain ⟨f0, f1, f2, f3, f4, f5, f6, f7⟩ := hr.frees
      clear hr
      go_wp2_with fail
      clear d0 d1 d2 d3 d4 d5 d6 d7 f0 f1 f2 f3 f4 f5 f6 f7 c0 c1 c2 c3 c4 c5 c6 c7
      have D2 := Lib.hid (D1.out.put 4 (.int .i64 x) (.inl ⟨rfl, _, rfl⟩))
      clear D1
      refine (l06Keep_any B g _ _ D2.out.src (by omega)).mono ?_
      rintro e w7 ⟨v7, rfl, ⟨y, rfl, hy0, hy1⟩, hS7, hg7⟩
      have D3 := Lib.hid (D2.out.pass hg7 hS7)
      clear D2 hg7 hS7 hy0 hy1
      obtain ⟨c0, c1, c2, c3, c4, c5, c6, c7, hr⟩ := D3.out.frees
      obtain ⟨d0, d1, d2, d3, d4, d5, d6, d7⟩ := hr.eight
      obtain ⟨f0, f1, f2, f3, f4, f5, f6, f7⟩ := hr.frees
      clear hr
      go_wp2
      go_meet
      case rel => exact Lib.hid ((D3.out.put 5 (.int .i64 y) (.inr (.inl ⟨rfl, _, rfl⟩))).more (by omega))
    case' false =>
      go_wp2
      go_meet
      case rel => exact Lib.hid (D0.out.more (by omega))
  case rest =>
    clear D0
    obtain ⟨F, A, nb, cb, lo, hi, h1, h2, h3, h4, h5, h6, h7⟩ := hcut.out
    have R8 := Lib.hid h1
    have Q8 := Lib.hid h2
    have hfl := h2.lt
    have G8 := Lib.hid h7
    have H4 := Lib.hid h4
    obtain ⟨d0, d1, d2, d3, d4, d5, d6, d7⟩ := h2.eight
    have WORK := Lib.hid (l06Work_any B g (n + 100) lo hi 0 (.agg (flc F (.slice A nb cb))) F wc h6 (by omega) ⟨_, rfl, h3⟩ (by omega) (by have := h7.size; omega) (by omega) h5 (by omega))
    clear hcut h1 h2 h3 h4 h5 h6 h7
    unfold flc at WORK
    go_wp2_with fail
    refine WORK.out.mono ?_
    rintro e w8 ⟨v8, G, lo2, hi2, rfl, ⟨u8, rfl, hown⟩, hbd, hsh, hs8, hg8⟩
    obtain ⟨A2, n2, cc2, rfl⟩ := hown.slice
    unfold flc
    have h4 := H4.out
    have hz8 := hg8.size
    have R9 := Lib.hid (R8.out.grown hg8 (by omega))
    have q9 := Q8.out.grown hg8 (by omega)
    have Q9 := Lib.hid q9
    have G9 := Lib.hid (grown_trans G8.out hg8)
    have S9 := Lib.hid hs8
    have O9 := Lib.hid hown
    have hlh := hown.lohi (by have := hsh.len; omega)
    have B9 := Lib.hid (And.intro hbd hlh)
    have H9 := Lib.hid hsh
    clear d0 d1 d2 d3 d4 d5 d6 d7 WORK R8 Q8 G8 hg8 hs8 hown hbd hlh hsh h4
    obtain ⟨d0, d1, d2, d3, d4, d5, d6, d7⟩ := q9.eight
    obtain ⟨f0, f1, f2, f3, f4, f5, f6, f7⟩ := q9.frees
    clear q9
    go_wp2_with fail
    clear d0 d1 d2 d3 d4 d5 d6 d7 f0 f1 f2 f3 f4 f5 f6 f7
    have D4 := Lib.hid (DrSt.all R9.out Q9.out O9.out (by have := B9.out; have := H4.out; omega) H9.out S9.out G9.out)
    clear R9 Q9 O9 H9 S9 G9 B9 H4
    refine (one_any B g _ 3 _ D4.out.src (by omega) (by omega) (by omega)).mono ?_
    rintro e w9 ⟨v9, rfl, ⟨b2, rfl⟩, hS9, hg9⟩
    have D5 := Lib.hid (D4.out.pass hg9 hS9)
    clear D4 hg9 hS9
    go_upto_if 32 with fail
    go_cut [] (fun wx => Hid (DrSt B g (n + 100200) w w.heap.size f 8 wx))
    case first =>
      cases b2
      case' true =>
        obtain ⟨c0, c1, c2, c3, c4, c5, c6, c7, hr⟩ := D5.out.frees
        obtain ⟨d0, d1, d2, d3, d4, d5, d6, d7⟩ := hr.eight
        obtain ⟨f0, f1, f2, f3, f4, f5, f6, f7⟩ := hr.frees
        clear hr
        go_wp2_with fail
        clear d0 d1 d2 d3 d4 d5 d6 d7 f0 f1 f2 f3 f4 f5 f6 f7 c0 c1 c2 c3 c4 c5 c6 c7
        have D6 := Lib.hid (D5.out.put 6 (.bool false) (.inr (.inr ⟨rfl, _, rfl⟩)))
        clear D5
        refine (pick_any B g _ 3 _ D6.out.src (by omega) (by omega) (by omega)).mono ?_
        rintro e w10 ⟨v10, rfl, ⟨x, rfl, hx0, hx1⟩, hS10, hg10⟩
        rw [P3.out] at hx1
        have D7 := Lib.hid (D6.out.pass hg10 hS10)
        clear D6 hg10 hS10
        obtain ⟨c0, c1, c2, c3, c4, c5, c6, c7, hr⟩ := D7.out.frees
        obtain ⟨d0, d1, d2, d3, d4, d5, d6, d7⟩ := hr.eight
        obtain ⟨f0, f1, f2, f3, f4, f5, f6, f7⟩ := hr.frees
        clear hr
        go_wp2_with fail
        clear d0 d1 d2 d3 d4 d5 d6 d7 f0 f1 f2 f3 f4 f5 f6 f7 c0 c1 c2 c3 c4 c5 c6 c7
        have D8 := Lib.hid (D7.out.put 4 (.int .i64 (x - 1)) (.inl ⟨rfl, _, rfl⟩))
        clear D7
        refine (l06Keep_any B g _ _ D8.out.src (by omega)).mono ?_
        rintro e w11 ⟨v11, rfl, ⟨y, rfl, hy0, hy1⟩, hS11, hg11⟩
        have D9 := Lib.hid (D8.out.pass hg11 hS11)
        clear D8 hg11 hS11 hy0 hy1
        obtain ⟨c0, c1, c2, c3, c4, c5, c6, c7, hr⟩ := D9.out.frees
        obtain ⟨d0, d1, d2, d3, d4, d5, d6, d7⟩ := hr.eight
        obtain ⟨f0, f1, f2, f3, f4, f5, f6, f7⟩ := hr.frees
        clear hr
        go_wp2
        go_meet
        case rel => exact Lib.hid ((D9.out.put 5 (.int .i64 y) (.inr (.inl ⟨rfl, _, rfl⟩))).more (by omega))
      case' false =>
        go_wp2
        go_meet
        case rel => exact Lib.hid (D5.out.more (by omega))
    case rest =>
      clear D5
      obtain ⟨wd, hwd⟩ : ∃ x, x = wc := ⟨_, rfl⟩
      rw [← hwd] at hcut ⊢
      clear hwd
      have D5 := hcut
      clear hcut
      go_wp2_with fail
      refine (one_any B g _ 5 _ D5.out.src (by omega) (by omega) (by omega)).mono ?_
      rintro e w12 ⟨v12, rfl, ⟨b3, rfl⟩, hS12, hg12⟩
      have D6 := Lib.hid (D5.out.pass hg12 hS12)
      clear D5 hg12 hS12
      go_upto_if 42 with fail
      go_cut [] (fun wx => Hid (DrSt B g (n + 100300) w w.heap.size f 8 wx))
      case first =>
        cases b3
        case' true =>
          obtain ⟨F, A, nb, cb, lo, hi, h1, h2, h3, h4, h5, h6, h7⟩ := D6.out
          obtain ⟨A', len, cap, e3, hl1, hl2, hl3, hbz⟩ := h3
          have hlen := h5.len
          obtain ⟨gb, pv, e4, hbo⟩ := hbz (by omega)
          clear hbz
          injection e3 with e3 e5 e6
          subst e3 e4 e5 e6
          have BO6 := Lib.hid (hbo.same (w' := w12.drew) (fun _ _ _ => rfl))
          have R6 := Lib.hid h1
          have Q6 := Lib.hid h2
          have B6 := Lib.hid h4
          have H6 := Lib.hid h5
          have S6 := Lib.hid h6
          have G6 := Lib.hid h7
          have NB := Lib.hid (show F.bs.length = nb from hl3)
          clear D6 h1 h2 h4 h5 h6 h7 hbo hlen hl3
          go_wp2_with fail
          refine wp_region_held_drew (S := fun W => Rw W f 31 #[.int .i64 F.d, .int .i64 F.b, .int .i64 F.p, .slice (some ⟨gb, 0, none⟩) nb cb, .int .i64 F.fu, .int .i64 F.ke, .bool F.off, .int .i64 F.op]) (by kernel_rfl) (show Rw w12.drew _ _ _ from Q6.out) (fun hHeld => ?_)
          refine wpAnyH_take (i := 0) (oi := _) (v := .pointer (some ⟨f, 3, none⟩)) rfl (by kernel_rfl) (by kernel_rfl) (by kernel_rfl) (fun _ _ _ h => h) (Or.inl ⟨by rfl, fun W hSw => by go_simp⟩) hHeld ?_
          refine wpAnyH_take (i := 1) (oi := _) (v := .slice (some ⟨gb, 0, none⟩) nb cb) rfl (by kernel_rfl) (by kernel_rfl) (by kernel_rfl) (fun _ _ _ h => h) (Or.inl ⟨by rfl, fun W hSw => by obtain ⟨q0, q1, q2, q3, q4, q5, q6, q7⟩ := hSw.eight; go_simp⟩) hHeld ?_
          refine wpAnyH_take (i := 2) (oi := _) (v := .pointer (some ⟨g, 0, none⟩)) rfl (by kernel_rfl) (by kernel_rfl) (by kernel_rfl) (fun _ _ _ h => h) (Or.inl ⟨by rfl, fun W hSw => by go_simp⟩) hHeld ?_
          refine wpAnyH_ready (rs := [3]) (by kernel_rfl) (by simp) ?_
          refine AllReadyH.cons (o := _) rfl (fun K hK => ?_) AllReadyH.nil
          go_simp
          refine (pick_any B g _ 4 w12.drew S6.out (by omega) (by omega) (by omega)).mono ?_
          rintro e w13 ⟨v13, rfl, ⟨z, rfl, hz0, hz1⟩, hS13, hg13⟩
          rw [P4.out] at hz1
          have q7 := Q6.out.grown (grown_drewL hg13) (by have := B6.out; omega)
          have Q7 := Lib.hid q7
          refine hK.out _ _ q7 (fun hHeld => ?_)
          clear hK K
          obtain ⟨k, rfl⟩ := Int.eq_ofNat_of_zero_le hz0
          have hlen := H6.out.len
          rw [NB.out] at hlen
          have hkn : k < nb := by omega
          have hk3 : k ≤ 3 := by omega
          have hz14 := hg13.size
          rw [show w12.drew.heap.size = w12.heap.size from rfl] at hz14
          have bo7 := BO6.out.same (same_above hg13 (by have := B6.out; omega) (by have := B6.out; exact this.2.2.2.2.1.2))
          have BO7 := Lib.hid bo7
          have R7 := Lib.hid (show Rw w13 w.heap.size 31 _ from (show Rw w12.drew _ _ _ from R6.out).grown hg13 (by omega))
          have S7 := Lib.hid hS13
          have G7 := Lib.hid (grown_trans G6.out (grown_drewL hg13))
          obtain ⟨r0, r1, r2, r3⟩ := bo7.row k (by rw [NB.out]; exact hkn)
          have fr := bo7.free (k * 4 + 2)
          clear BO6 R6 Q6 S6 G6 hg13 hS13 bo7 hz0 hz1 q7 hlen r0 r1 r3
          refine wpAnyH_ready (rs := [4]) (by kernel_rfl) (by simp) ?_
          refine AllReadyH.cons (o := _) rfl (fun K hK => ?_) AllReadyH.nil
          go_simp
          refine hK.out _ _ Q7.out (fun hHeld => ?_)
          clear hK K
          refine wpAnyH_ready (rs := [5]) (by kernel_rfl) (by simp) ?_
          refine AllReadyH.cons (o := _) rfl (fun K hK => ?_) AllReadyH.nil
          go_simp
          refine hK.out _ _ Q7.out (fun hHeld => ?_)
          clear hK K
          refine wpAnyH_ready (rs := [6]) (by kernel_rfl) (by simp) ?_
          refine AllReadyH.cons (o := _) rfl (fun K hK => ?_) AllReadyH.nil
          go_simp
          refine hK.out _ _ (show Rw (w13.setCell _ _) _ _ _ from Q7.out.farA (by have := BO7.out.low; have := BO7.out.high; have := B6.out; omega) _) (fun hHeld => ?_)
          clear hK K
          refine wpAnyH_done (by kernel_rfl) ?_ _
          go_wp2
          go_meet
          case rel => exact Lib.hid ((DrSt.blk (c := 2) R7.out Q7.out BO7.out hl1 hl2 NB.out (by have := B6.out; omega) H6.out S7.out G7.out hkn (.inr (.inr ⟨rfl, _, rfl⟩))).more (by omega))
        case' false =>
          go_wp2
          go_meet
          case rel => exact Lib.hid (D6.out.more (by omega))
      case rest =>
        obtain ⟨we, hwe⟩ : ∃ x, x = wc := ⟨_, rfl⟩
        rw [← hwe] at hcut ⊢
        clear hwe D6
        have D5 := hcut
        clear hcut
        go_wp2_with fail
        refine (one_any B g _ 8 _ D5.out.src (by omega) (by omega) (by omega)).mono ?_
        rintro e w14 ⟨v14, rfl, ⟨b4, rfl⟩, hS14, hg14⟩
        have D6 := Lib.hid (D5.out.pass hg14 hS14)
        clear D5 hg14 hS14
        go_upto_if 50 with fail
        go_cut [] (fun wx => Hid (DrSt B g (n + 100400) w w.heap.size f 8 wx))
        case first =>
          cases b4
          case' true =>
            go_wp2_with fail
            refine (pick_any B g _ 4 _ D6.out.src (by omega) (by omega) (by omega)).mono ?_
            rintro e w15 ⟨v15, rfl, ⟨z, rfl, hz0, hz1⟩, hS15, hg15⟩
            rw [P4.out] at hz1
            have D7 := Lib.hid (D6.out.pass hg15 hS15)
            clear D6 hg15 hS15
            obtain ⟨k, rfl⟩ := Int.eq_ofNat_of_zero_le hz0
            obtain ⟨F, A, nb, cb, lo, hi, h1, h2, h3, h4, h5, h6, h7⟩ := D7.out
            obtain ⟨A', len, cap, e3, hl1, hl2, hl3, hbz⟩ := h3
            have hlen := h5.len
            obtain ⟨gb, pv, e4, hbo⟩ := hbz (by omega)
            clear hbz
            injection e3 with e3 e5 e6
            subst e3 e4 e5 e6
            have hkn : k < nb := by omega
            have hk3 : k ≤ 3 := by omega
            have BO6 := Lib.hid (hbo.same (w' := w15.drew) (fun _ _ _ => rfl))
            have R6 := Lib.hid h1
            have Q6 := Lib.hid h2
            have B6 := Lib.hid h4
            have H6 := Lib.hid h5
            have S6 := Lib.hid h6
            have G6 := Lib.hid h7
            have NB := Lib.hid (show F.bs.length = nb from hl3)
            clear D7 h1 h2 h4 h5 h6 h7 hbo hlen hl3 hz0 hz1
            go_wp2_with fail
            refine wp_region_held_drew (S := fun W => Rw W f 31 #[.int .i64 F.d, .int .i64 F.b, .int .i64 F.p, .slice (some ⟨gb, 0, none⟩) nb cb, .int .i64 F.fu, .int .i64 F.ke, .bool F.off, .int .i64 F.op]) (by kernel_rfl) (show Rw w15.drew _ _ _ from Q6.out) (fun hHeld => ?_)
            refine wpAnyH_take (i := 0) (oi := _) (v := .pointer (some ⟨f, 3, none⟩)) rfl (by kernel_rfl) (by kernel_rfl) (by kernel_rfl) (fun _ _ _ h => h) (Or.inl ⟨by rfl, fun W hSw => by go_simp⟩) hHeld ?_
            refine wpAnyH_take (i := 1) (oi := _) (v := .slice (some ⟨gb, 0, none⟩) nb cb) rfl (by kernel_rfl) (by kernel_rfl) (by kernel_rfl) (fun _ _ _ h => h) (Or.inl ⟨by rfl, fun W hSw => by obtain ⟨q0, q1, q2, q3, q4, q5, q6, q7⟩ := hSw.eight; go_simp⟩) hHeld ?_
            refine wpAnyH_take (i := 2) (oi := _) (v := .int .i64 (k : Int)) rfl (by kernel_rfl) (by kernel_rfl) (by kernel_rfl) (fun _ _ _ h => h) (Or.inl ⟨by rfl, fun W hSw => by go_simp⟩) hHeld ?_
            refine wpAnyH_take (i := 3) (oi := _) (v := .pointer (some ⟨g, 0, none⟩)) rfl (by kernel_rfl) (by kernel_rfl) (by kernel_rfl) (fun _ _ _ h => h) (Or.inl ⟨by rfl, fun W hSw => by go_simp⟩) hHeld ?_
            refine wpAnyH_ready (rs := [4]) (by kernel_rfl) (by simp) ?_
            refine AllReadyH.cons (o := _) rfl (fun K hK => ?_) AllReadyH.nil
            go_simp
            refine (pick_any B g _ 2 w15.drew S6.out (by omega) (by omega) (by omega)).mono ?_
            rintro e w16 ⟨v16, rfl, ⟨y, rfl, hy0, hy1⟩, hS16, hg16⟩
            rw [P2.out] at hy1
            have q7 := Q6.out.grown (grown_drewL hg16) (by have := B6.out; omega)
            have Q7 := Lib.hid q7
            refine hK.out _ _ q7 (fun hHeld => ?_)
            clear hK K
            have hz16 := hg16.size
            rw [show w15.drew.heap.size = w15.heap.size from rfl] at hz16
            have bo7 := BO6.out.same (same_above hg16 (by have := B6.out; omega) (by have := B6.out; exact this.2.2.2.2.1.2))
            have BO7 := Lib.hid bo7
            have R7 := Lib.hid (show Rw w16 w.heap.size 31 _ from (show Rw w15.drew _ _ _ from R6.out).grown hg16 (by omega))
            have S7 := Lib.hid hS16
            have G7 := Lib.hid (grown_trans G6.out (grown_drewL hg16))
            obtain ⟨r0, r1, r2, r3⟩ := bo7.row k (by rw [NB.out]; exact hkn)
            have fr := bo7.free (k * 4)
            have hwy : IntKind.i64.wrap (999 + y) = 999 + y := IntWalk.i64_in _ (by omega)
            clear BO6 R6 Q6 S6 G6 hg16 hS16 bo7 q7 r1 r2 r3
            refine wpAnyH_ready (rs := [5]) (by kernel_rfl) (by simp) ?_
            refine AllReadyH.cons (o := _) rfl (fun K hK => ?_) AllReadyH.nil
            go_simp
            refine hK.out _ _ Q7.out (fun hHeld => ?_)
            clear hK K
            refine wpAnyH_ready (rs := [6]) (by kernel_rfl) (by simp) ?_
            refine AllReadyH.cons (o := _) rfl (fun K hK => ?_) AllReadyH.nil
            go_simp
            refine hK.out _ _ Q7.out (fun hHeld => ?_)
            clear hK K
            refine wpAnyH_ready (rs := [7]) (by kernel_rfl) (by simp) ?_
            refine AllReadyH.cons (o := _) rfl (fun K hK => ?_) AllReadyH.nil
            go_simp
            refine hK.out _ _ Q7.out (fun hHeld => ?_)
            clear hK K
            refine wpAnyH_ready (rs := [8]) (by kernel_rfl) (by simp) ?_
            refine AllReadyH.cons (o := _) rfl (fun K hK => ?_) AllReadyH.nil
            go_simp
            refine hK.out _ _ (show Rw (w16.setCell _ _) _ _ _ from Q7.out.farA (by have := BO7.out.low; have := BO7.out.high; have := B6.out; omega) _) (fun hHeld => ?_)
            clear hK K
            refine wpAnyH_done (by kernel_rfl) ?_ _
            go_wp2
            go_meet
            case rel => exact Lib.hid ((DrSt.blk (c := 0) R7.out Q7.out BO7.out hl1 hl2 NB.out (by have := B6.out; omega) H6.out S7.out G7.out hkn (.inl ⟨rfl, _, rfl⟩)).more (by omega))
          case' false =>
            go_wp2
            go_meet
            case rel => exact Lib.hid (D6.out.more (by omega))
        case rest =>
          clear D6
          obtain ⟨F, A, nb, cb, lo, hi, h1, h2, h3, h4, h5, h6, h7⟩ := hcut.out
          obtain ⟨d0, d1, d2, d3, d4, d5, d6, d7⟩ := h2.eight
          obtain ⟨r0, r1, r2, r3, r4, r5, r6, r7⟩ := h1.eight
          obtain ⟨f0, f1, f2, f3, f4, f5, f6, f7⟩ := h1.frees
          have R7 := Lib.hid h1
          have O7 := Lib.hid h3
          have B7 := Lib.hid h4
          have H7 := Lib.hid h5
          have S7 := Lib.hid h6
          have G7 := Lib.hid h7
          clear hcut h1 h2 h3 h4 h5 h6 h7
          go_wp2
          have own2 := O7.out.same (w' := ((((((((wc.setCell ⟨w.heap.size, 0, none⟩ (.int .i64 F.d)).setCell ⟨w.heap.size, 1, none⟩ (.int .i64 F.b)).setCell ⟨w.heap.size, 2, none⟩ (.int .i64 F.p)).setCell ⟨w.heap.size, 3, none⟩ (.slice A nb cb)).setCell ⟨w.heap.size, 4, none⟩ (.int .i64 F.fu)).setCell ⟨w.heap.size, 5, none⟩ (.int .i64 F.ke)).setCell ⟨w.heap.size, 6, none⟩ (.bool F.off)).setCell ⟨w.heap.size, 7, none⟩ (.int .i64 F.op))) (by (repeat refine sset ?_ (by have := B7.out; omega) _); exact Same.refl _ _ _)
          have src2 := S7.out.keepS (w' := ((((((((wc.setCell ⟨w.heap.size, 0, none⟩ (.int .i64 F.d)).setCell ⟨w.heap.size, 1, none⟩ (.int .i64 F.b)).setCell ⟨w.heap.size, 2, none⟩ (.int .i64 F.p)).setCell ⟨w.heap.size, 3, none⟩ (.slice A nb cb)).setCell ⟨w.heap.size, 4, none⟩ (.int .i64 F.fu)).setCell ⟨w.heap.size, 5, none⟩ (.int .i64 F.ke)).setCell ⟨w.heap.size, 6, none⟩ (.bool F.off)).setCell ⟨w.heap.size, 7, none⟩ (.int .i64 F.op))) (by (repeat refine sset ?_ (.inr (by omega)) _); exact Same.refl _ _ _) (by simp)
          have gr2 : w.grownBy ((((((((wc.setCell ⟨w.heap.size, 0, none⟩ (.int .i64 F.d)).setCell ⟨w.heap.size, 1, none⟩ (.int .i64 F.b)).setCell ⟨w.heap.size, 2, none⟩ (.int .i64 F.p)).setCell ⟨w.heap.size, 3, none⟩ (.slice A nb cb)).setCell ⟨w.heap.size, 4, none⟩ (.int .i64 F.fu)).setCell ⟨w.heap.size, 5, none⟩ (.int .i64 F.ke)).setCell ⟨w.heap.size, 6, none⟩ (.bool F.off)).setCell ⟨w.heap.size, 7, none⟩ (.int .i64 F.op)) (some g) := by
            repeat refine grown_out ?_ (by omega) _
            exact G7.out
          refine bodyPost_ret (results_cell_row Try.results78 _ _ _ _ _ _ _ rfl (R7.out.put8 _ _ _ _ _ _ _ _) Try.underlying31 rfl infoFl8) rfl ⟨_, F, rfl, ⟨_, rfl, own2.wide (by have := B7.out; omega) (by have := B7.out; simp; omega)⟩, H7.out, src2.more (by omega), gr2⟩
end Go.Proofs.Yteigdjocjcjkiaa
/- Chapter 6's generator of arrays that are sometimes invalid: the contract. -/
namespace Go.Proofs.Yteigdjocjcjkiaa
open Go.RowKit
set_option linter.unusedVariables false
/-- What is said of an array that the generator returns: how many blocks and pages, and how many operations. -/
def Bent (F : Fl) : Prop := F.bs.length ≤ 36 ∧ (∀ i, i < F.bs.length → (F.blk i).pg.length ≤ 16) ∧ (-1 ≤ F.op ∧ F.op ≤ 8)
theorem Shape.bent {F : Fl} (h : Shape F 8) : Bent F := ⟨by have := h.len; omega, fun i hi => by have := h.plen hi; omega, by have := h.2.2.2; omega⟩
theorem Bent.lens {F : Fl} (h : Bent F) : FlLen F := ⟨by have := h.1; omega, fun i hi => by have := h.2.1 i hi; omega⟩
def BentSt (B g n : Nat) (w : World) (r f : Nat) (wx : World) : Prop := ∃ (F : Fl) (A : Option Addr) (nb cb lo hi : Nat), Rw wx r 31 #[.int .i64 0, .int .i64 0, .int .i64 0, .slice none 0 0, .int .i64 0, .int .i64 0, .bool false, .int .i64 0] ∧
  Rw wx f 31 #[.int .i64 F.d, .int .i64 F.b, .int .i64 F.p, .slice A nb cb, .int .i64 F.fu, .int .i64 F.ke, .bool F.off, .int .i64 F.op] ∧ BksIn wx lo hi (.slice A nb cb) F.bs ∧ (g < w.heap.size ∧ w.heap.size ≤ r ∧ r < f ∧ r < lo ∧ (lo ≤ wx.heap.size ∧ hi ≤ wx.heap.size) ∧ (hi ≤ f ∨ f + 1 ≤ lo)) ∧ Bent F ∧ Src wx B g n ∧ w.grownBy wx (some g)
section
variable {B g n m r f : Nat} {w wx : World}
theorem BentSt.more (h : BentSt B g n w r f wx) (hn : n ≤ m) : BentSt B g m w r f wx := by
  obtain ⟨F, A, nb, cb, lo, hi, h1, h2, h3, h4, h5, h6, h7⟩ := h
  exact ⟨F, A, nb, cb, lo, hi, h1, h2, h3, h4, h5, h6.more hn, h7⟩
theorem DrSt.bent (h : DrSt B g n w r f 8 wx) : BentSt B g n w r f wx := by
  obtain ⟨F, A, nb, cb, lo, hi, h1, h2, h3, h4, h5, h6, h7⟩ := h
  exact ⟨F, A, nb, cb, lo, hi, h1, h2, h3.reads, h4, h5.bent, h6, h7⟩
theorem DrSt.geo (h : DrSt B g n w r f 8 wx) (x : Int) : BentSt B g n w r f (wx.setCell ⟨f, 2, none⟩ (.int .i64 x)) := by
  obtain ⟨F, A, nb, cb, lo, hi, h1, h2, h3, h4, h5, h6, h7⟩ := h
  refine ⟨{ F with p := x }, A, nb, cb, lo, hi, h1.farA (by omega) _, h2.set_ 2 _, (h3.same (sset (Same.refl lo hi wx) (by omega) _)).reads, by simp only [World.size_setCell]; exact h4, h5.bent, h6.keepS (sset (Same.refl _ _ _) (.inr (by omega)) _) (by simp), grown_out h7 (by omega) _⟩
theorem DrSt.ops (h : DrSt B g n w r f 8 wx) : BentSt B g n w r f (wx.setCell ⟨f, 7, none⟩ (.int .i64 (-1))) := by
  obtain ⟨F, A, nb, cb, lo, hi, h1, h2, h3, h4, h5, h6, h7⟩ := h
  refine ⟨{ F with op := -1 }, A, nb, cb, lo, hi, h1.farA (by omega) _, h2.set_ 7 _, (h3.same (sset (Same.refl lo hi wx) (by omega) _)).reads, by simp only [World.size_setCell]; exact h4, ⟨h5.bent.1, h5.bent.2.1, by show (-1 : Int) ≤ -1 ∧ (-1 : Int) ≤ 8; omega⟩, h6.keepS (sset (Same.refl _ _ _) (.inr (by omega)) _) (by simp), grown_out h7 (by omega) _⟩
/-- The first block cut off. -/
theorem DrSt.tail {F : Fl} {gb nb cb lo hi : Nat} {pv : Nat → Value} (h1 : Rw wx r 31 #[.int .i64 0, .int .i64 0, .int .i64 0, .slice none 0 0, .int .i64 0, .int .i64 0, .bool false, .int .i64 0]) (h2 : Rw wx f 31 #[.int .i64 F.d, .int .i64 F.b, .int .i64 F.p, .slice (some ⟨gb, 0, none⟩) nb cb, .int .i64 F.fu, .int .i64 F.ke, .bool F.off, .int .i64 F.op]) (h3 : BO wx lo hi gb pv F.bs) (hl1 : nb ≤ cb) (hl2 : cb ≤ 9223372036854775807) (hl3 : F.bs.length = nb)
    (h4 : (g < w.heap.size ∧ w.heap.size ≤ r ∧ r < f ∧ r < lo ∧ (lo ≤ wx.heap.size ∧ hi ≤ wx.heap.size) ∧ (hi ≤ f ∨ f + 1 ≤ lo))) (h5 : Shape F 8) (h6 : Src wx B g n) (h7 : w.grownBy wx (some g)) :
    BentSt B g n w r f (wx.setCell ⟨f, 3, none⟩ (.slice (some ⟨gb, 4, none⟩) (nb - 1) (cb - 1))) := by
  have hl := h5.len
  have bo := (h3.same (sset (Same.refl lo hi wx) (g := f) (k := 3) (by omega) (.slice (some ⟨gb, 4, none⟩) (nb - 1) (cb - 1))))
  have hd : ∀ i, (F.bs.drop 1).getD i Blk.zero = F.bs.getD (1 + i) Blk.zero := fun i => by rw [List.getD_eq_getElem?_getD, List.getD_eq_getElem?_getD, List.getElem?_drop]
  refine ⟨{ F with bs := F.bs.drop 1 }, some ⟨gb, 4, none⟩, nb - 1, cb - 1, lo, hi, h1.farA (by omega) _, h2.set_ 3 _, ⟨_, _, _, rfl, by omega, by omega, by simp; omega, fun _ => ⟨gb, 4, rfl, bo.low, bo.high, fun i hi => ⟨pv (1 + i), ?_, ?_⟩⟩⟩, by simp only [World.size_setCell]; exact h4, ⟨?_, fun i hi => ?_, h5.bent.2.2⟩, h6.keepS (sset (Same.refl _ _ _) (.inr (by omega)) _) (by simp), grown_out h7 (by omega) _⟩
  · have := bo.row (1 + i) (by omega)
    rw [hd, show 4 + i * 4 = (1 + i) * 4 by omega]
    exact this
  · rw [hd]
    exact (bo.pgs (1 + i) (by omega)).reads
  · show (F.bs.drop 1).length ≤ 36
    rw [List.length_drop]; omega
  · have hi2 : i < (F.bs.drop 1).length := hi
    rw [List.length_drop] at hi2
    show ((F.bs.drop 1).getD i Blk.zero).pg.length ≤ 16
    rw [hd]
    exact h5.bent.2.1 (1 + i) (by omega)
/-- A page of a block replaced. -/
theorem DrSt.page {F : Fl} {gb nb cb lo hi k b off np cp : Nat} {pv : Nat → Value} {s : ByteArray} (h1 : Rw wx r 31 #[.int .i64 0, .int .i64 0, .int .i64 0, .slice none 0 0, .int .i64 0, .int .i64 0, .bool false, .int .i64 0]) (h2 : Rw wx f 31 #[.int .i64 F.d, .int .i64 F.b, .int .i64 F.p, .slice (some ⟨gb, 0, none⟩) nb cb, .int .i64 F.fu, .int .i64 F.ke, .bool F.off, .int .i64 F.op]) (h3 : BO wx lo hi gb pv F.bs) (hl1 : nb ≤ cb) (hl2 : cb ≤ 9223372036854775807) (hl3 : F.bs.length = nb)
    (h4 : (g < w.heap.size ∧ w.heap.size ≤ r ∧ r < f ∧ r < lo ∧ (lo ≤ wx.heap.size ∧ hi ≤ wx.heap.size) ∧ (hi ≤ f ∨ f + 1 ≤ lo))) (h5 : Shape F 8) (h6 : Src wx B g n) (h7 : w.grownBy wx (some g)) (hk : k < nb) (hv : pv k = .slice (some ⟨b, off, none⟩) np cp) (hnp : 0 < np) (hs : s.size ≤ 9223372036854775807) :
    BentSt B g n w r f (wx.setCell ⟨b, off, none⟩ (.string s)) := by
  have hp := h3.page (k := k) (by omega) hv hnp
  have bo := h3.storePg (k := k) (n := 0) (by omega) hnp hv s hs
  have hsh := h5.set (G := { F with bs := F.bs.set k { F.bs.getD k Blk.zero with pg := (F.bs.getD k Blk.zero).pg.set 0 s } }) k _ (by simp [Fl.blk]) rfl rfl rfl rfl h5.2.2.2
  exact ⟨{ F with bs := F.bs.set k { F.bs.getD k Blk.zero with pg := (F.bs.getD k Blk.zero).pg.set 0 s } }, some ⟨gb, 0, none⟩, nb, cb, lo, hi, h1.farA (by omega) _, h2.farA (by omega) _, BksOwn.reads ⟨_, _, _, rfl, hl1, hl2, by simpa using hl3, fun _ => ⟨gb, pv, rfl, bo⟩⟩, by simp only [World.size_setCell]; exact h4, hsh.bent, h6.keepS (sset (Same.refl _ _ _) (.inr (by omega)) _) (by simp), grown_out h7 (by omega) _⟩
end
/-- What l06Bent does. -/
def BentFl (B g n : Nat) (w : World) (e : Ending) (w' : World) : Prop := ∃ (v : Value) (F : Fl), e = .returned v ∧ FlIn w' w.heap.size w'.heap.size v F ∧ Bent F ∧ Src w' B g n ∧ w.grownBy w' (some g)
set_option maxHeartbeats 4000000 in
set_option maxRecDepth 100000 in
theorem l06Bent_any (B g n : Nat) (w : World) (h : Src w B g n) (hn : n ≤ 300000000000) :
    Calls Try.prog 49 #[.pointer (some ⟨g, 0, none⟩)] w (BentFl B g (n + 300000) w) := by
  have hlt := h.lt
  have b0 := (Below.refl w.heap.size w).alloc (Nat.le_refl _) (.cells #[.int .i64 0, .int .i64 0, .int .i64 0, .slice none 0 0, .int .i64 0, .int .i64 0, .bool false, .int .i64 0] 31)
  have R0 := Lib.hid (Rw.new w 31 #[.int .i64 0, .int .i64 0, .int .i64 0, .slice none 0 0, .int .i64 0, .int .i64 0, .bool false, .int .i64 0])
  have S0 := Lib.hid (h.keep b0)
  have G0 := Lib.hid (grown_below (grown_refl w (some g)) b0)
  have P4 : Hid (pickMax 4 = 3) := by show _ = _; decide
  have P24 : Hid (pickMax 24 = 23) := by show _ = _; decide
  clear b0 h
  go_enter Try.func49, Try.ntmps49
  go_wp2_with fail
  refine (l06Draw_any B g n _ S0.out (by omega)).mono ?_
  rintro e w1 ⟨v1, F, rfl, ⟨u, rfl, hb⟩, hsh, hS1, hg1⟩
  obtain ⟨A, nb, cb, rfl⟩ := hb.slice
  have hz1 := hg1.size
  simp only [World.size_alloc] at hb hz1
  obtain ⟨f, hf⟩ : ∃ f, f = w1.heap.size := ⟨_, rfl⟩
  have D0 := Lib.hid (show DrSt B g (n + 200000) w w.heap.size w1.heap.size 8 (w1.alloc (.cells #[.int .i64 F.d, .int .i64 F.b, .int .i64 F.p, .slice A nb cb, .int .i64 F.fu, .int .i64 F.ke, .bool F.off, .int .i64 F.op] 31)) from
    ⟨F, A, nb, cb, _, _, (R0.out.grown hg1 (by omega)).alloc _, Rw.new _ _ _, hb.same (sm ((Below.refl w1.heap.size _).alloc (Nat.le_refl _) _) _ (Nat.le_refl _)), ⟨hlt, Nat.le_refl _, by omega, by omega, ⟨by simp; omega, by simp⟩, .inl (Nat.le_refl _)⟩, hsh, hS1.keep ((Below.refl _ _).alloc (Nat.le_refl _) _), grown_trans (grown_trans G0.out hg1) (World.grownBy_alloc _ _ _)⟩)
  clear R0 S0 G0 hb hsh hS1 hg1
  unfold flc
  go_wp2_with fail
  refine (pick_any B g _ 4 _ D0.out.src (by omega) (by omega) (by omega)).mono ?_
  rintro e w2 ⟨v2, rfl, ⟨z, rfl, hz0, hz3⟩, hS2, hg2⟩
  rw [P4.out] at hz3
  have D1 := Lib.hid (D0.out.pass hg2 hS2)
  rw [← hf] at D1 ⊢
  have hff : w.heap.size + 1 ≤ f := by omega
  clear D0 hg2 hS2 hf hz1
  obtain ⟨k, rfl⟩ := Int.eq_ofNat_of_zero_le hz0
  have hk3 : k ≤ 3 := by omega
  clear hz0 hz3
  go_wp2_with fail
  refine (pick_any B g _ 24 _ D1.out.src (by omega) (by omega) (by omega)).mono ?_
  rintro e w3 ⟨v3, rfl, ⟨q, rfl, hq0, hq1⟩, hS3, hg3⟩
  rw [P24.out] at hq1
  have D2 := Lib.hid (D1.out.pass hg3 hS3)
  clear D1 hg3 hS3
  go_upto_block 0 with fail
  go_cut [] (fun wx => Hid (BentSt B g (n + 200100) w w.heap.size f wx))
  case first =>
    have hcases : q = 0 ∨ q = 1 ∨ q = 2 ∨ q = 3 ∨ q = 4 ∨ q = 5 ∨ q = 6 ∨ q = 7 ∨ 8 ≤ q := by omega
    rcases hcases with rfl | rfl | rfl | rfl | rfl | rfl | rfl | rfl | hq8
    · clear hq0 hq1
      obtain ⟨c0, c1, c2, c3, c4, c5, c6, c7, hr⟩ := D2.out.frees
      obtain ⟨d0, d1, d2, d3, d4, d5, d6, d7⟩ := hr.eight
      obtain ⟨f0, f1, f2, f3, f4, f5, f6, f7⟩ := hr.frees
      clear hr
      go_wp2
      go_meet
      case rel => exact Lib.hid ((D2.out.geo 12).more (by omega))
    · clear hq0 hq1
      obtain ⟨F, A, nb, cb, lo, hi, h1, h2, h3, h4, h5, h6, h7⟩ := D2.out
      obtain ⟨A', len, cap, e3, hl1, hl2, hl3, hbz⟩ := h3
      have hlen := h5.len
      obtain ⟨gb, pv, e4, hbo⟩ := hbz (by omega)
      clear hbz
      injection e3 with e3 e5 e6
      subst e3 e4 e5 e6
      have hkn : k < nb := by omega
      have BO6 := Lib.hid (hbo.same (w' := w3.drew) (fun _ _ _ => rfl))
      have R6 := Lib.hid h1
      have Q6 := Lib.hid h2
      have B6 := Lib.hid h4
      have H6 := Lib.hid h5
      have S6 := Lib.hid h6
      have G6 := Lib.hid h7
      have NB := Lib.hid (show F.bs.length = nb from hl3)
      obtain ⟨d0, d1, d2, d3, d4, d5, d6, d7⟩ := h2.eight
      obtain ⟨f0, f1, f2, f3, f4, f5, f6, f7⟩ := h2.frees
      have hbo1 := Lib.hid hbo
      have hnb1 : 8 ≤ nb := by omega
      have hcb1 : 8 ≤ cb := by omega
      clear D2 h1 h2 h4 h5 h6 h7 hbo hlen BO6 hkn
      go_wp2
      go_meet
      case rel => exact Lib.hid ((DrSt.tail R6.out Q6.out hbo1.out hl1 hl2 NB.out B6.out H6.out S6.out G6.out).more (by omega))
    · clear hq0 hq1
      obtain ⟨F, A, nb, cb, lo, hi, h1, h2, h3, h4, h5, h6, h7⟩ := D2.out
      obtain ⟨A', len, cap, e3, hl1, hl2, hl3, hbz⟩ := h3
      have hlen := h5.len
      obtain ⟨gb, pv, e4, hbo⟩ := hbz (by omega)
      clear hbz
      injection e3 with e3 e5 e6
      subst e3 e4 e5 e6
      have hkn : k < nb := by omega
      have BO6 := Lib.hid (hbo.same (w' := w3.drew) (fun _ _ _ => rfl))
      have R6 := Lib.hid h1
      have Q6 := Lib.hid h2
      have B6 := Lib.hid h4
      have H6 := Lib.hid h5
      have S6 := Lib.hid h6
      have G6 := Lib.hid h7
      have NB := Lib.hid (show F.bs.length = nb from hl3)
      clear D2 h1 h2 h4 h5 h6 h7 hbo hlen hl3
      go_wp2_with fail
      refine wp_region_held_drew (S := fun W => Rw W f 31 #[.int .i64 F.d, .int .i64 F.b, .int .i64 F.p, .slice (some ⟨gb, 0, none⟩) nb cb, .int .i64 F.fu, .int .i64 F.ke, .bool F.off, .int .i64 F.op]) (by kernel_rfl) (show Rw w3.drew _ _ _ from Q6.out) (fun hHeld => ?_)
      refine wpAnyH_take (i := 0) (oi := _) (v := .pointer (some ⟨f, 3, none⟩)) rfl (by kernel_rfl) (by kernel_rfl) (by kernel_rfl) (fun _ _ _ h => h) (Or.inl ⟨by rfl, fun W hSw => by go_simp⟩) hHeld ?_
      refine wpAnyH_take (i := 1) (oi := _) (v := .slice (some ⟨gb, 0, none⟩) nb cb) rfl (by kernel_rfl) (by kernel_rfl) (by kernel_rfl) (fun _ _ _ h => h) (Or.inl ⟨by rfl, fun W hSw => by obtain ⟨q0, q1, q2, q3, q4, q5, q6, q7⟩ := hSw.eight; go_simp⟩) hHeld ?_
      refine wpAnyH_take (i := 2) (oi := _) (v := .int .i64 (k : Int)) rfl (by kernel_rfl) (by kernel_rfl) (by kernel_rfl) (fun _ _ _ h => h) (Or.inl ⟨by rfl, fun W hSw => by go_simp⟩) hHeld ?_
      refine wpAnyH_take (i := 3) (oi := _) (v := .pointer (some ⟨g, 0, none⟩)) rfl (by kernel_rfl) (by kernel_rfl) (by kernel_rfl) (fun _ _ _ h => h) (Or.inl ⟨by rfl, fun W hSw => by go_simp⟩) hHeld ?_
      refine wpAnyH_ready (rs := [4]) (by kernel_rfl) (by simp) ?_
      refine AllReadyH.cons (o := _) rfl (fun K hK => ?_) AllReadyH.nil
      go_simp
      have hzd : w3.drew.heap.size = w3.heap.size := rfl
      refine hK.out _ _ (show Rw (w3.drew.alloc _) _ _ _ from (show Rw w3.drew _ _ _ from Q6.out).alloc _) (fun hHeld => ?_)
      clear hK K
      refine wpAnyH_ready (rs := [5]) (by kernel_rfl) (by simp) ?_
      refine AllReadyH.cons (o := _) rfl (fun K hK => ?_) AllReadyH.nil
      go_simp
      have N4 : Rw _ w3.heap.size _ _ := Rw.new w3.drew 2 #[.int .i64 (-1), .int .i64 17, .int .i64 0]
      have ba := (Below.refl w3.heap.size w3.drew).alloc (Nat.le_refl _) (.cells #[.int .i64 (-1), .int .i64 17, .int .i64 0] 2)
      have sa := S6.out.lt
      have S7 := Lib.hid ((show Src w3.drew B g _ from S6.out).keep ba)
      have G7 := Lib.hid (grown_trans G6.out (grown_drewL (World.grownBy_alloc w3.drew (.cells #[.int .i64 (-1), .int .i64 17, .int .i64 0] 2) (some g))))
      have R7 := Lib.hid (show Rw _ w.heap.size 31 _ from (show Rw w3.drew _ _ _ from R6.out).alloc (.cells #[.int .i64 (-1), .int .i64 17, .int .i64 0] 2))
      have Q7 := Lib.hid (show Rw _ f 31 _ from (show Rw w3.drew _ _ _ from Q6.out).alloc (.cells #[.int .i64 (-1), .int .i64 17, .int .i64 0] 2))
      have BO7 := Lib.hid (BO6.out.same (sm ba _ (by have := B6.out; exact this.2.2.2.2.1.2)))
      have hz7 : (w3.drew.alloc (.cells #[.int .i64 (-1), .int .i64 17, .int .i64 0] 2)).heap.size = w3.heap.size + 1 := by simp
      clear ba BO6 R6 Q6 S6 G6
      have hfs := Q7.out.lt
      refine (among_any (fun x => True) B g _ w3.heap.size 3 3 _ S7.out (by omega) (by omega) (by omega) (by omega) ?_).mono ?_
      · intro i hi
        rw [N4.cell]
        rcases i with _ | _ | _ | i <;> first | exact ⟨_, rfl, trivial⟩ | omega
      clear N4
      rintro e w4 ⟨v4, rfl, ⟨y, rfl, _⟩, hS4, hg4⟩
      have hz4 := hg4.size
      rw [hz7] at hz4
      have Q8 := Lib.hid (Q7.out.grown hg4 (by have := B6.out; omega))
      refine hK.out _ _ Q8.out (fun hHeld => ?_)
      clear hK K
      have bo8 := BO7.out.same (same_above hg4 (by have := B6.out; omega) (by rw [hz7]; have := B6.out; omega))
      have BO8 := Lib.hid bo8
      have R8 := Lib.hid (R7.out.grown hg4 (by omega))
      have S8 := Lib.hid hS4
      have G8 := Lib.hid (grown_trans G7.out hg4)
      obtain ⟨r0, r1, r2, r3⟩ := bo8.row k (by rw [NB.out]; exact hkn)
      have fr := bo8.free (k * 4 + 1)
      clear BO7 R7 Q7 S7 G7 hg4 hS4 bo8 r2 r3 hz7 hzd
      refine wpAnyH_ready (rs := [6]) (by kernel_rfl) (by simp) ?_
      refine AllReadyH.cons (o := _) rfl (fun K hK => ?_) AllReadyH.nil
      go_simp
      refine hK.out _ _ Q8.out (fun hHeld => ?_)
      clear hK K
      refine wpAnyH_ready (rs := [7]) (by kernel_rfl) (by simp) ?_
      refine AllReadyH.cons (o := _) rfl (fun K hK => ?_) AllReadyH.nil
      go_simp
      refine hK.out _ _ Q8.out (fun hHeld => ?_)
      clear hK K
      refine wpAnyH_ready (rs := [8]) (by kernel_rfl) (by simp) ?_
      refine AllReadyH.cons (o := _) rfl (fun K hK => ?_) AllReadyH.nil
      go_simp
      refine hK.out _ _ (show Rw (w4.setCell _ _) _ _ _ from Q8.out.farA (by have := BO8.out.low; have := BO8.out.high; have := B6.out; omega) _) (fun hHeld => ?_)
      clear hK K
      refine wpAnyH_done (by kernel_rfl) ?_ _
      go_wp2
      go_meet
      case rel => exact Lib.hid ((DrSt.bent (DrSt.blk (c := 1) R8.out Q8.out BO8.out hl1 hl2 NB.out (by have := B6.out; omega) H6.out S8.out G8.out hkn (.inr (.inl ⟨rfl, _, rfl⟩)))).more (by omega))
    · clear hq0 hq1
      obtain ⟨F, A, nb, cb, lo, hi, h1, h2, h3, h4, h5, h6, h7⟩ := D2.out
      obtain ⟨A', len, cap, e3, hl1, hl2, hl3, hbz⟩ := h3
      have hlen := h5.len
      obtain ⟨gb, pv, e4, hbo⟩ := hbz (by omega)
      clear hbz
      injection e3 with e3 e5 e6
      subst e3 e4 e5 e6
      have hkn : k < nb := by omega
      have BO6 := Lib.hid (hbo.same (w' := w3.drew) (fun _ _ _ => rfl))
      have R6 := Lib.hid h1
      have Q6 := Lib.hid h2
      have B6 := Lib.hid h4
      have H6 := Lib.hid h5
      have S6 := Lib.hid h6
      have G6 := Lib.hid h7
      have NB := Lib.hid (show F.bs.length = nb from hl3)
      obtain ⟨d0, d1, d2, d3, d4, d5, d6, d7⟩ := h2.eight
      obtain ⟨b, off, cp, hv, hcp, hcp2⟩ := hbo.somePg (k := k) (by omega) (by have := h5.plen (i := k) (by omega); unfold Fl.blk at this; omega)
      have hp := hbo.page (t := 0) (by omega) hv (by have := h5.plen (i := k) (by omega); unfold Fl.blk at this; omega)
      have hnp : 0 < (F.bs.getD k Blk.zero).pg.length := by have := h5.plen (i := k) (by omega); unfold Fl.blk at this; omega
      obtain ⟨np, hnpe⟩ : ∃ np, np = (F.bs.getD k Blk.zero).pg.length := ⟨_, rfl⟩
      rw [← hnpe] at hv hcp hnp
      obtain ⟨hpc, hpf, _, _, _⟩ := hp
      obtain ⟨r0, r1, r2, r3⟩ := hbo.row k (by omega)
      rw [hv] at r3
      rw [Nat.add_zero] at hpc hpf
      have hbo1 := Lib.hid hbo
      have HV := Lib.hid hv
      clear D2 h1 h2 h4 h5 h6 h7 hbo hlen BO6 hnpe hv r0 r1 r2
      go_wp2
      go_meet
      case rel => exact Lib.hid ((DrSt.page R6.out Q6.out hbo1.out hl1 hl2 NB.out B6.out H6.out S6.out G6.out hkn HV.out hnp (by decide)).more (by omega))
    · clear hq0 hq1
      go_wp2_with fail
      have N4 := Rw.new w3 2 #[.int .i64 (-2), .int .i64 1000000, .int .i64 1000001]
      have hz7 : (w3.alloc (.cells #[.int .i64 (-2), .int .i64 1000000, .int .i64 1000001] 2)).heap.size = w3.heap.size + 1 := by simp
      have sa := D2.out.src.lt
      have D3 := Lib.hid (D2.out.pass (World.grownBy_alloc _ (.cells #[.int .i64 (-2), .int .i64 1000000, .int .i64 1000001] 2) _) (D2.out.src.keep ((Below.refl _ _).alloc (Nat.le_refl _) (.cells #[.int .i64 (-2), .int .i64 1000000, .int .i64 1000001] 2))))
      clear D2
      refine (among_any (fun x => True) B g _ w3.heap.size 3 3 _ D3.out.src (by omega) (by omega) (by omega) (by omega) ?_).mono ?_
      · intro i hi
        rw [N4.cell]
        rcases i with _ | _ | _ | i <;> first | exact ⟨_, rfl, trivial⟩ | omega
      clear N4 hz7
      rintro e w4 ⟨v4, rfl, ⟨y, rfl, _⟩, hS4, hg4⟩
      have D2 := Lib.hid (D3.out.pass hg4 hS4)
      clear D3 hg4 hS4
      obtain ⟨c0, c1, c2, c3, c4, c5, c6, c7, hr⟩ := D2.out.frees
      obtain ⟨d0, d1, d2, d3, d4, d5, d6, d7⟩ := hr.eight
      obtain ⟨f0, f1, f2, f3, f4, f5, f6, f7⟩ := hr.frees
      clear hr
      go_wp2
      go_meet
      case rel => exact Lib.hid ((D2.out.put 4 (.int .i64 y) (.inl ⟨rfl, _, rfl⟩)).bent.more (by omega))
    · clear hq0 hq1
      go_wp2_with fail
      have N4 := Rw.new w3 2 #[.int .i64 (-1), .int .i64 92]
      have hz7 : (w3.alloc (.cells #[.int .i64 (-1), .int .i64 92] 2)).heap.size = w3.heap.size + 1 := by simp
      have sa := D2.out.src.lt
      have D3 := Lib.hid (D2.out.pass (World.grownBy_alloc _ (.cells #[.int .i64 (-1), .int .i64 92] 2) _) (D2.out.src.keep ((Below.refl _ _).alloc (Nat.le_refl _) (.cells #[.int .i64 (-1), .int .i64 92] 2))))
      clear D2
      refine (among_any (fun x => True) B g _ w3.heap.size 2 2 _ D3.out.src (by omega) (by omega) (by omega) (by omega) ?_).mono ?_
      · intro i hi
        rw [N4.cell]
        rcases i with _ | _ | i <;> first | exact ⟨_, rfl, trivial⟩ | omega
      clear N4 hz7
      rintro e w4 ⟨v4, rfl, ⟨y, rfl, _⟩, hS4, hg4⟩
      have D2 := Lib.hid (D3.out.pass hg4 hS4)
      clear D3 hg4 hS4
      obtain ⟨c0, c1, c2, c3, c4, c5, c6, c7, hr⟩ := D2.out.frees
      obtain ⟨d0, d1, d2, d3, d4, d5, d6, d7⟩ := hr.eight
      obtain ⟨f0, f1, f2, f3, f4, f5, f6, f7⟩ := hr.frees
      clear hr
      go_wp2
      go_meet
      case rel => exact Lib.hid ((D2.out.put 5 (.int .i64 y) (.inr (.inl ⟨rfl, _, rfl⟩))).bent.more (by omega))
    · clear hq0 hq1
      obtain ⟨c0, c1, c2, c3, c4, c5, c6, c7, hr⟩ := D2.out.frees
      obtain ⟨d0, d1, d2, d3, d4, d5, d6, d7⟩ := hr.eight
      obtain ⟨f0, f1, f2, f3, f4, f5, f6, f7⟩ := hr.frees
      clear hr
      go_wp2
      go_meet
      case rel => exact Lib.hid ((D2.out.ops).more (by omega))
    · clear hq0 hq1
      obtain ⟨F, A, nb, cb, lo, hi, h1, h2, h3, h4, h5, h6, h7⟩ := D2.out
      obtain ⟨A', len, cap, e3, hl1, hl2, hl3, hbz⟩ := h3
      have hlen := h5.len
      obtain ⟨gb, pv, e4, hbo⟩ := hbz (by omega)
      clear hbz
      injection e3 with e3 e5 e6
      subst e3 e4 e5 e6
      have hkn : k < nb := by omega
      have BO6 := Lib.hid (hbo.same (w' := w3.drew) (fun _ _ _ => rfl))
      have R6 := Lib.hid h1
      have Q6 := Lib.hid h2
      have B6 := Lib.hid h4
      have H6 := Lib.hid h5
      have S6 := Lib.hid h6
      have G6 := Lib.hid h7
      have NB := Lib.hid (show F.bs.length = nb from hl3)
      clear D2 h1 h2 h4 h5 h6 h7 hbo hlen hl3
      go_wp2_with fail
      refine wp_region_held_drew (S := fun W => Rw W f 31 #[.int .i64 F.d, .int .i64 F.b, .int .i64 F.p, .slice (some ⟨gb, 0, none⟩) nb cb, .int .i64 F.fu, .int .i64 F.ke, .bool F.off, .int .i64 F.op]) (by kernel_rfl) (show Rw w3.drew _ _ _ from Q6.out) (fun hHeld => ?_)
      refine wpAnyH_take (i := 0) (oi := _) (v := .pointer (some ⟨f, 3, none⟩)) rfl (by kernel_rfl) (by kernel_rfl) (by kernel_rfl) (fun _ _ _ h => h) (Or.inl ⟨by rfl, fun W hSw => by go_simp⟩) hHeld ?_
      refine wpAnyH_take (i := 1) (oi := _) (v := .slice (some ⟨gb, 0, none⟩) nb cb) rfl (by kernel_rfl) (by kernel_rfl) (by kernel_rfl) (fun _ _ _ h => h) (Or.inl ⟨by rfl, fun W hSw => by obtain ⟨q0, q1, q2, q3, q4, q5, q6, q7⟩ := hSw.eight; go_simp⟩) hHeld ?_
      refine wpAnyH_take (i := 2) (oi := _) (v := .int .i64 (k : Int)) rfl (by kernel_rfl) (by kernel_rfl) (by kernel_rfl) (fun _ _ _ h => h) (Or.inl ⟨by rfl, fun W hSw => by go_simp⟩) hHeld ?_
      refine wpAnyH_take (i := 3) (oi := _) (v := .pointer (some ⟨g, 0, none⟩)) rfl (by kernel_rfl) (by kernel_rfl) (by kernel_rfl) (fun _ _ _ h => h) (Or.inl ⟨by rfl, fun W hSw => by go_simp⟩) hHeld ?_
      refine wpAnyH_ready (rs := [4]) (by kernel_rfl) (by simp) ?_
      refine AllReadyH.cons (o := _) rfl (fun K hK => ?_) AllReadyH.nil
      go_simp
      have hzd : w3.drew.heap.size = w3.heap.size := rfl
      refine hK.out _ _ (show Rw (w3.drew.alloc _) _ _ _ from (show Rw w3.drew _ _ _ from Q6.out).alloc _) (fun hHeld => ?_)
      clear hK K
      refine wpAnyH_ready (rs := [5]) (by kernel_rfl) (by simp) ?_
      refine AllReadyH.cons (o := _) rfl (fun K hK => ?_) AllReadyH.nil
      go_simp
      have N4 : Rw _ w3.heap.size _ _ := Rw.new w3.drew 2 #[.int .i64 (-1), .int .i64 1000, .int .i64 1001]
      have ba := (Below.refl w3.heap.size w3.drew).alloc (Nat.le_refl _) (.cells #[.int .i64 (-1), .int .i64 1000, .int .i64 1001] 2)
      have sa := S6.out.lt
      have S7 := Lib.hid ((show Src w3.drew B g _ from S6.out).keep ba)
      have G7 := Lib.hid (grown_trans G6.out (grown_drewL (World.grownBy_alloc w3.drew (.cells #[.int .i64 (-1), .int .i64 1000, .int .i64 1001] 2) (some g))))
      have R7 := Lib.hid (show Rw _ w.heap.size 31 _ from (show Rw w3.drew _ _ _ from R6.out).alloc (.cells #[.int .i64 (-1), .int .i64 1000, .int .i64 1001] 2))
      have Q7 := Lib.hid (show Rw _ f 31 _ from (show Rw w3.drew _ _ _ from Q6.out).alloc (.cells #[.int .i64 (-1), .int .i64 1000, .int .i64 1001] 2))
      have BO7 := Lib.hid (BO6.out.same (sm ba _ (by have := B6.out; exact this.2.2.2.2.1.2)))
      have hz7 : (w3.drew.alloc (.cells #[.int .i64 (-1), .int .i64 1000, .int .i64 1001] 2)).heap.size = w3.heap.size + 1 := by simp
      clear ba BO6 R6 Q6 S6 G6
      have hfs := Q7.out.lt
      refine (among_any (fun x => True) B g _ w3.heap.size 3 3 _ S7.out (by omega) (by omega) (by omega) (by omega) ?_).mono ?_
      · intro i hi
        rw [N4.cell]
        rcases i with _ | _ | _ | i <;> first | exact ⟨_, rfl, trivial⟩ | omega
      clear N4
      rintro e w4 ⟨v4, rfl, ⟨y, rfl, _⟩, hS4, hg4⟩
      have hz4 := hg4.size
      rw [hz7] at hz4
      have Q8 := Lib.hid (Q7.out.grown hg4 (by have := B6.out; omega))
      refine hK.out _ _ Q8.out (fun hHeld => ?_)
      clear hK K
      have bo8 := BO7.out.same (same_above hg4 (by have := B6.out; omega) (by rw [hz7]; have := B6.out; omega))
      have BO8 := Lib.hid bo8
      have R8 := Lib.hid (R7.out.grown hg4 (by omega))
      have S8 := Lib.hid hS4
      have G8 := Lib.hid (grown_trans G7.out hg4)
      obtain ⟨r0, r1, r2, r3⟩ := bo8.row k (by rw [NB.out]; exact hkn)
      have fr := bo8.free (k * 4 + 0)
      rw [Nat.add_zero] at fr
      clear BO7 R7 Q7 S7 G7 hg4 hS4 bo8 r2 r3 hz7 hzd
      refine wpAnyH_ready (rs := [6]) (by kernel_rfl) (by simp) ?_
      refine AllReadyH.cons (o := _) rfl (fun K hK => ?_) AllReadyH.nil
      go_simp
      refine hK.out _ _ Q8.out (fun hHeld => ?_)
      clear hK K
      refine wpAnyH_ready (rs := [7]) (by kernel_rfl) (by simp) ?_
      refine AllReadyH.cons (o := _) rfl (fun K hK => ?_) AllReadyH.nil
      go_simp
      refine hK.out _ _ Q8.out (fun hHeld => ?_)
      clear hK K
      refine wpAnyH_ready (rs := [8]) (by kernel_rfl) (by simp) ?_
      refine AllReadyH.cons (o := _) rfl (fun K hK => ?_) AllReadyH.nil
      go_simp
      refine hK.out _ _ (show Rw (w4.setCell _ _) _ _ _ from Q8.out.farA (by have := BO8.out.low; have := BO8.out.high; have := B6.out; omega) _) (fun hHeld => ?_)
      clear hK K
      refine wpAnyH_done (by kernel_rfl) ?_ _
      go_wp2
      go_meet
      case rel => exact Lib.hid ((DrSt.bent (DrSt.blk (c := 0) R8.out Q8.out BO8.out hl1 hl2 NB.out (by have := B6.out; omega) H6.out S8.out G8.out hkn (.inl ⟨rfl, _, rfl⟩))).more (by omega))
    · have e0 : (q == 0) = false := by simp; omega
      have e1 : (q == 1) = false := by simp; omega
      have e2 : (q == 2) = false := by simp; omega
      have e3 : (q == 3) = false := by simp; omega
      have e4 : (q == 4) = false := by simp; omega
      have e5 : (q == 5) = false := by simp; omega
      have e6 : (q == 6) = false := by simp; omega
      have e7 : (q == 7) = false := by simp; omega
      go_wp2
      go_meet
      case rel => exact Lib.hid (D2.out.bent.more (by omega))
  case rest =>
    clear D2 hq0 hq1
    obtain ⟨F, A, nb, cb, lo, hi, h1, h2, h3, h4, h5, h6, h7⟩ := hcut.out
    obtain ⟨d0, d1, d2, d3, d4, d5, d6, d7⟩ := h2.eight
    obtain ⟨r0, r1, r2, r3, r4, r5, r6, r7⟩ := h1.eight
    obtain ⟨f0, f1, f2, f3, f4, f5, f6, f7⟩ := h1.frees
    have R7 := Lib.hid h1
    have O7 := Lib.hid h3
    have B7 := Lib.hid h4
    have H7 := Lib.hid h5
    have S7 := Lib.hid h6
    have G7 := Lib.hid h7
    clear hcut h1 h2 h3 h4 h5 h6 h7
    go_wp2
    have own2 := O7.out.same (w' := ((((((((wc.setCell ⟨w.heap.size, 0, none⟩ (.int .i64 F.d)).setCell ⟨w.heap.size, 1, none⟩ (.int .i64 F.b)).setCell ⟨w.heap.size, 2, none⟩ (.int .i64 F.p)).setCell ⟨w.heap.size, 3, none⟩ (.slice A nb cb)).setCell ⟨w.heap.size, 4, none⟩ (.int .i64 F.fu)).setCell ⟨w.heap.size, 5, none⟩ (.int .i64 F.ke)).setCell ⟨w.heap.size, 6, none⟩ (.bool F.off)).setCell ⟨w.heap.size, 7, none⟩ (.int .i64 F.op))) (by (repeat refine sset ?_ (by have := B7.out; omega) _); exact Same.refl _ _ _)
    have src2 := S7.out.keepS (w' := ((((((((wc.setCell ⟨w.heap.size, 0, none⟩ (.int .i64 F.d)).setCell ⟨w.heap.size, 1, none⟩ (.int .i64 F.b)).setCell ⟨w.heap.size, 2, none⟩ (.int .i64 F.p)).setCell ⟨w.heap.size, 3, none⟩ (.slice A nb cb)).setCell ⟨w.heap.size, 4, none⟩ (.int .i64 F.fu)).setCell ⟨w.heap.size, 5, none⟩ (.int .i64 F.ke)).setCell ⟨w.heap.size, 6, none⟩ (.bool F.off)).setCell ⟨w.heap.size, 7, none⟩ (.int .i64 F.op))) (by (repeat refine sset ?_ (.inr (by omega)) _); exact Same.refl _ _ _) (by simp)
    have gr2 : w.grownBy ((((((((wc.setCell ⟨w.heap.size, 0, none⟩ (.int .i64 F.d)).setCell ⟨w.heap.size, 1, none⟩ (.int .i64 F.b)).setCell ⟨w.heap.size, 2, none⟩ (.int .i64 F.p)).setCell ⟨w.heap.size, 3, none⟩ (.slice A nb cb)).setCell ⟨w.heap.size, 4, none⟩ (.int .i64 F.fu)).setCell ⟨w.heap.size, 5, none⟩ (.int .i64 F.ke)).setCell ⟨w.heap.size, 6, none⟩ (.bool F.off)).setCell ⟨w.heap.size, 7, none⟩ (.int .i64 F.op)) (some g) := by
      repeat refine grown_out ?_ (by omega) _
      exact G7.out
    refine bodyPost_ret (results_cell_row Try.results49 _ _ _ _ _ _ _ rfl (R7.out.put8 _ _ _ _ _ _ _ _) Try.underlying31 rfl infoFl8) rfl ⟨_, F, rfl, ⟨_, rfl, own2.wide (by have := B7.out; omega) (by have := B7.out; simp; omega)⟩, H7.out, src2.more (by omega), gr2⟩
end Go.Proofs.Yteigdjocjcjkiaa
