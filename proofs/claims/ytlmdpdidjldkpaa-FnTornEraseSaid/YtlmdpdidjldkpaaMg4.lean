/- The proof's own lemmas, part 5 of 7: FlU FlEs FlEt FlSz DrW. -/
import Derived.Test.YtlmdpdidjldkpaaProg
import Derived.Test.YtlmdpdidjldkpaaMg3
import Derived.Test.YtlmdpdidjldkpaaMg2
import Derived.Test.YtlmdpdidjldkpaaMg1
import Derived.Deep.RegionHeld3
import Derived.Deep.CutRange
/- ProgramPage, the model's: the contract. -/
namespace Go.Proofs.Ytlmdpdidjldkpaa
open Go.RowKit
set_option linter.unusedVariables false
theorem Fl.code_is (F : Fl) : F.code = 0 ∨ F.code = 8 := by unfold Fl.code; split <;> simp
set_option maxHeartbeats 4000000 in
theorem specProg_any (v : Value) (block page : Int) (raw : ByteArray) (F G : Fl) (c : Int) (w : World) (lo hi : Nat) (h : FlIn w lo hi v F) (hh : hi ≤ w.heap.size) (hG : ProgEnds F block page raw G c) (hl : FlLen F) (hraw : raw.size ≤ 9223372036854775807) :
    Calls Try.prog 75 #[v, .int .i64 block, .int .i64 page, .string raw] w (FlPost G c w) := by
  obtain ⟨r, hr⟩ := prop_dec (FlOk F)
  obtain ⟨u, rfl, hb⟩ := h
  have hv : ∀ W : World, BksIn W lo hi u F.bs → FlIn W lo hi (.agg (flc F u)) F := fun W a => ⟨u, rfl, a⟩
  have HV := Lib.hid (fun (W : World) (a : BksIn W lo hi u F.bs) (c : hi ≤ W.heap.size) => specValid_any (.agg (flc F u)) F r W lo hi (hv W a) c hr hl)
  have HO := Lib.hid (fun (hok : FlOk F) (W : World) (a : BksIn W lo hi u F.bs) (c : hi ≤ W.heap.size) => l06Own_any (.agg (flc F u)) F W lo hi (hv W a) c (by have := hok.len; omega) (fun i hi => by have := hok.plen hi; omega))
  have HPG := Lib.hid (fun (hok : FlOk F) (hr : raw.size = 91) (k : Nat) (hk : k < F.bs.length) (hn : (F.blk k).nx < F.p) (W : World) (u2 : Value) (lo hi g : Nat) (a : Rw W g 28 (flc F u2)) (b : BksOwn W lo hi u2 F.bs) (c1 : hi ≤ g) (c2 : lo ≤ hi) => spProg_any W lo hi g F u2 k raw a b c1 c2 hok hr hk hn)
  have H := Lib.hid hb
  have hbb := hb
  obtain ⟨Au, nu, cu, rfl, hu1, hu2, hu3, hu4⟩ := hb
  have HBAD := Lib.hid (fun (W : World) (a : BksIn W lo hi (.slice Au nu cu) F.bs) (k : Nat) (hk : k < nu) => (show ∃ gb o pv, Au = some ⟨gb, o, none⟩ ∧ lo ≤ gb ∧ gb < hi ∧ BkAt W gb (o + k * 4) (F.blk k) pv from by
    obtain ⟨A', n', c', e, _, _, _, hx⟩ := a
    injection e with e1 e2 e3
    subst e1 e2 e3
    obtain ⟨gb, o, e, h1, h2, hy⟩ := hx (by omega)
    obtain ⟨pv, hp, _⟩ := hy k hk
    exact ⟨gb, o, pv, e, h1, h2, hp⟩))
  clear hbb hv hl hu4
  have hFl : flc F (.slice Au nu cu) = #[.int .i64 F.d, .int .i64 F.b, .int .i64 F.p, .slice Au nu cu, .int .i64 F.fu, .int .i64 F.ke, .bool F.off, .int .i64 F.op] := rfl
  have hFo : ∀ u, flc F u = #[.int .i64 F.d, .int .i64 F.b, .int .i64 F.p, u, .int .i64 F.fu, .int .i64 F.ke, .bool F.off, .int .i64 F.op] := fun u => rfl
  rw [hFl] at HV HO ⊢
  have HFO := Lib.hid hFo
  clear hFl hFo
  have HPgs := Lib.hid (fun (r : Bool) (hn : nu ≤ 1000) (hp : 0 ≤ F.p ∧ F.p ≤ 1000) (hr : r = true ↔ ((0 ≤ block ∧ block < (nu : Int)) ∧ (0 ≤ page ∧ page < F.p))) (W : World) => spPage_any F.d F.b F.p F.fu F.ke F.op F.off Au nu cu block page r W hn hp hr)
  have HOFF : Hid (∀ b : Bool, F.off = b → F.off = b) := Lib.hid fun _ h => h
  have HP1 := Lib.hid (fun (hok : FlOk F) => hok.1.p16)
  have HL1 := Lib.hid (fun (hok : FlOk F) => hok.len)
  have HGG := Lib.hid hG
  clear hG
  have HPF : Hid (∀ q : Int, q < F.p → q < F.p) := Lib.hid fun _ h => h
  generalize hd : F.d = d at *
  generalize hbn : F.b = b at *
  generalize hp : F.p = p at *
  generalize hfu : F.fu = fu at *
  generalize hke : F.ke = ke at *
  generalize hoff : F.off = off at *
  generalize hop : F.op = op at *
  have HEQ := Lib.hid (And.intro hp hoff)
  clear hd hbn hp hfu hke hoff hop
  obtain ⟨r0, r1, b0⟩ := Rw.two_new w 28 28 #[.int .i64 d, .int .i64 b, .int .i64 p, .slice Au nu cu, .int .i64 fu, .int .i64 ke, .bool off, .int .i64 op]
    #[.int .i64 0, .int .i64 0, .int .i64 0, .slice none 0 0, .int .i64 0, .int .i64 0, .bool false, .int .i64 0]
  have R0 := Lib.hid r0
  have R1 := Lib.hid r1
  have B0 := Lib.hid b0
  clear r0 r1 b0
  go_enter Try.func75, Try.ntmps75
  go_wp2_with fail
  refine (HV.out _ (H.out.same (sm B0.out lo hh)) (by simp; omega)).mono ?_
  rintro e w1 ⟨rfl, b1⟩
  have S0 := Lib.hid (R0.out.below b1 (by simp; omega))
  have S1 := Lib.hid (R1.out.below b1 (by simp))
  have B1 := Lib.hid (B0.out.trans (b1.mono (by simp; omega)))
  have hsz1 := b1.size
  simp only [World.size_alloc] at hsz1
  clear b1
  have ZEROS : Hid (∀ (wz : World) (c : Int), Rw wz (w.heap.size + 1) 28 #[.int .i64 0, .int .i64 0, .int .i64 0, .slice none 0 0, .int .i64 0, .int .i64 0, .bool false, .int .i64 0] → Below w.heap.size w wz → FlPost Fl.zero c w (.returned (.tuple #[.agg #[.int .i64 0, .int .i64 0, .int .i64 0, .slice none 0 0, .int .i64 0, .int .i64 0, .bool false, .int .i64 0], .int .i64 c])) ((((((((wz.setCell ⟨w.heap.size + 1, 0, none⟩ (.int .i64 0)).setCell ⟨w.heap.size + 1, 1, none⟩ (.int .i64 0)).setCell ⟨w.heap.size + 1, 2, none⟩ (.int .i64 0)).setCell ⟨w.heap.size + 1, 3, none⟩ (.slice none 0 0)).setCell ⟨w.heap.size + 1, 4, none⟩ (.int .i64 0)).setCell ⟨w.heap.size + 1, 5, none⟩ (.int .i64 0)).setCell ⟨w.heap.size + 1, 6, none⟩ (.bool false)).setCell ⟨w.heap.size + 1, 7, none⟩ (.int .i64 0))) := Lib.hid (fun wz c hz bz => by
    refine ⟨_, rfl, zeroOwn _ _ _, ?_⟩
    repeat refine bset ?_ (by omega) _
    exact bz)
  rcases HGG.out with hno | ⟨hok, hrs, h1⟩ | ⟨hok, hrs, h1, h2⟩ | ⟨hok, hrs, h1, k, m, rfl, rfl, hkl, hnp, h2⟩ | ⟨hok, hrs, h1, k, m, rfl, rfl, hkl, hnp, h2, h3⟩ | ⟨hok, hrs, h1, k, m, rfl, rfl, hkl, hnp, h2, h3⟩
  · obtain ⟨z0, z1, z2, z3, z4, z5, z6, z7⟩ := S1.out.eight
    obtain ⟨fz0, fz1, fz2, fz3, fz4, fz5, fz6, fz7⟩ := S1.out.frees
    by_cases hok : FlOk F
    · obtain rfl : r = true := hr.2 hok
      have hne : ((raw.size : Int) != 91) = true := by
        rcases hno with a | a
        · exact absurd hok a
        · simp; omega
      clear hr hok hno HO HPG HPgs
      go_wp2
      exact bodyPost_ret (results_row_tmp Try.results75 _ _ _ _ #[.int .i64 0, .int .i64 0, .int .i64 0, .slice none 0 0, .int .i64 0, .int .i64 0, .bool false, .int .i64 0] _ _ rfl
        (S1.out.put8 _ _ _ _ _ _ _ _) Try.underlying28 rfl infoFl8) rfl (ZEROS.out _ 1 S1.out B1.out)
    · obtain rfl : r = false := (bool_of r hr).2 hok
      clear hr hok hno HO HPG HPgs
      go_wp2
      exact bodyPost_ret (results_row_tmp Try.results75 _ _ _ _ #[.int .i64 0, .int .i64 0, .int .i64 0, .slice none 0 0, .int .i64 0, .int .i64 0, .bool false, .int .i64 0] _ _ rfl
        (S1.out.put8 _ _ _ _ _ _ _ _) Try.underlying28 rfl infoFl8) rfl (ZEROS.out _ 1 S1.out B1.out)
  all_goals
    obtain rfl : r = true := hr.2 hok
    have hne : ((raw.size : Int) != 91) = false := by rw [hrs]; rfl
    rw [HEQ.out.2] at h1
    subst h1
    clear hr
  · have HO2 := Lib.hid (HO.out hok)
    obtain ⟨a0, a1, a2, a3, a4, a5, a6, a7⟩ := S0.out.eight
    clear HO HPG HPgs hok hrs
    go_wp2_with fail
    refine (HO2.out _ (H.out.same (sm B1.out lo hh)) (by omega)).mono ?_
    rintro e w2 ⟨u2, rfl, ho, b2⟩
    obtain ⟨uu, rfl, ho⟩ := ho
    obtain ⟨A2, n2, c2, rfl⟩ := ho.slice
    have T1 := Lib.hid (S1.out.below b2 (by omega))
    have B2 := Lib.hid (B1.out.trans (b2.mono (by omega)))
    have HO3 := Lib.hid ho
    have hsz2 := b2.size
    rw [HFO.out]
    clear a0 a1 a2 a3 a4 a5 a6 a7 b2 ho HO2
    obtain ⟨z0, z1, z2, z3, z4, z5, z6, z7⟩ := T1.out.eight
    obtain ⟨fz0, fz1, fz2, fz3, fz4, fz5, fz6, fz7⟩ := T1.out.frees
    go_wp2
    refine bodyPost_ret (results_row_tmp Try.results75 _ _ _ _ #[.int .i64 d, .int .i64 b, .int .i64 p, .slice A2 n2 c2, .int .i64 fu, .int .i64 ke, .bool true, .int .i64 op] _ _ rfl
      (T1.out.put8 _ _ _ _ _ _ _ _) Try.underlying28 rfl infoFl8) rfl ?_
    refine ⟨_, rfl, ⟨_, by rw [HFO.out], (HO3.out.same ?_).wide (by omega) (by simp)⟩, ?_⟩
    · repeat refine sset ?_ (.inl (by omega)) _
      exact Same.refl _ _ _
    · repeat refine bset ?_ (by omega) _
      exact B2.out
  · have HPF := Lib.hid (HPgs.out false (by have := HL1.out hok; omega) (by have := HP1.out hok; omega) (by
      rw [hu3] at h2
      rw [HEQ.out.1] at h2
      simp only [Bool.false_eq_true, false_iff]
      rintro ⟨a, b⟩
      rcases h2 with h2 | h2 <;> contradiction))
    obtain ⟨a0, a1, a2, a3, a4, a5, a6, a7⟩ := S0.out.eight
    clear HO HPG HPgs hok hrs h2
    go_wp2_with fail
    refine (HPF.out _).mono ?_
    rintro e w2 ⟨rfl, b2⟩
    have T1 := Lib.hid (S1.out.below b2 (by omega))
    have B2 := Lib.hid (B1.out.trans (b2.mono (by omega)))
    clear a0 a1 a2 a3 a4 a5 a6 a7 b2
    obtain ⟨z0, z1, z2, z3, z4, z5, z6, z7⟩ := T1.out.eight
    obtain ⟨fz0, fz1, fz2, fz3, fz4, fz5, fz6, fz7⟩ := T1.out.frees
    go_wp2
    exact bodyPost_ret (results_row_tmp Try.results75 _ _ _ _ #[.int .i64 0, .int .i64 0, .int .i64 0, .slice none 0 0, .int .i64 0, .int .i64 0, .bool false, .int .i64 0] _ _ rfl
      (T1.out.put8 _ _ _ _ _ _ _ _) Try.underlying28 rfl infoFl8) rfl (ZEROS.out _ 2 T1.out B2.out)
  · have HPF := Lib.hid (HPgs.out true (by have := HL1.out hok; omega) (by have := HP1.out hok; omega) (by
      rw [HEQ.out.1] at hnp
      simp; omega))
    obtain ⟨a0, a1, a2, a3, a4, a5, a6, a7⟩ := S0.out.eight
    have hl9 := HL1.out hok
    clear HO HPG HPgs hok hrs
    go_wp2_with fail
    refine (HPF.out _).mono ?_
    rintro e w2 ⟨rfl, b2⟩
    have T0 := Lib.hid (S0.out.below b2 (by omega))
    have T1 := Lib.hid (S1.out.below b2 (by omega))
    have B2 := Lib.hid (B1.out.trans (b2.mono (by omega)))
    have hsz2 := b2.size
    clear a0 a1 a2 a3 a4 a5 a6 a7 b2
    obtain ⟨a0, a1, a2, a3, a4, a5, a6, a7⟩ := T0.out.eight
    obtain ⟨gb, o, pv, rfl, hg1, hg2, q0, q1, q2, q3⟩ := HBAD.out w2 (H.out.same (sm B2.out lo hh)) k (by omega)
    have hki : (k : Int) < (nu : Int) := by omega
    have hnm : (nu : Int) ≤ 1000 := by omega
    rw [h2] at q2
    obtain ⟨z0, z1, z2, z3, z4, z5, z6, z7⟩ := T1.out.eight
    obtain ⟨fz0, fz1, fz2, fz3, fz4, fz5, fz6, fz7⟩ := T1.out.frees
    go_wp2
    exact bodyPost_ret (results_row_tmp Try.results75 _ _ _ _ #[.int .i64 0, .int .i64 0, .int .i64 0, .slice none 0 0, .int .i64 0, .int .i64 0, .bool false, .int .i64 0] _ _ rfl
      (T1.out.put8 _ _ _ _ _ _ _ _) Try.underlying28 rfl infoFl8) rfl (ZEROS.out _ 7 T1.out B2.out)
  · have HPF := Lib.hid (HPgs.out true (by have := HL1.out hok; omega) (by have := HP1.out hok; omega) (by
      rw [HEQ.out.1] at hnp
      simp; omega))
    obtain ⟨a0, a1, a2, a3, a4, a5, a6, a7⟩ := S0.out.eight
    have hl9 := HL1.out hok
    clear HO HPG HPgs hok hrs
    go_wp2_with fail
    refine (HPF.out _).mono ?_
    rintro e w2 ⟨rfl, b2⟩
    have T0 := Lib.hid (S0.out.below b2 (by omega))
    have T1 := Lib.hid (S1.out.below b2 (by omega))
    have B2 := Lib.hid (B1.out.trans (b2.mono (by omega)))
    have hsz2 := b2.size
    clear a0 a1 a2 a3 a4 a5 a6 a7 b2
    obtain ⟨a0, a1, a2, a3, a4, a5, a6, a7⟩ := T0.out.eight
    obtain ⟨gb, o, pv, rfl, hg1, hg2, q0, q1, q2, q3⟩ := HBAD.out w2 (H.out.same (sm B2.out lo hh)) k (by omega)
    have hki : (k : Int) < (nu : Int) := by omega
    have hnm : (nu : Int) ≤ 1000 := by omega
    rw [h2] at q2
    generalize (F.blk k).nx = nx at *
    have hdd : (nx != (m : Int)) = true := bne_iff_ne.2 h3
    clear h3
    obtain ⟨z0, z1, z2, z3, z4, z5, z6, z7⟩ := T1.out.eight
    obtain ⟨fz0, fz1, fz2, fz3, fz4, fz5, fz6, fz7⟩ := T1.out.frees
    go_wp2
    exact bodyPost_ret (results_row_tmp Try.results75 _ _ _ _ #[.int .i64 0, .int .i64 0, .int .i64 0, .slice none 0 0, .int .i64 0, .int .i64 0, .bool false, .int .i64 0] _ _ rfl
      (T1.out.put8 _ _ _ _ _ _ _ _) Try.underlying28 rfl infoFl8) rfl (ZEROS.out _ 5 T1.out B2.out)
  · have HPF := Lib.hid (HPgs.out true (by have := HL1.out hok; omega) (by have := HP1.out hok; omega) (by
      rw [HEQ.out.1] at hnp
      simp; omega))
    obtain ⟨a0, a1, a2, a3, a4, a5, a6, a7⟩ := S0.out.eight
    have hl9 := HL1.out hok
    have HO2 := Lib.hid (HO.out hok)
    have HPG2 := Lib.hid (HPG.out hok hrs k hkl (by rw [h3]; exact HEQ.out.1 ▸ hnp))
    clear HO HPG HPgs hok hrs
    go_wp2_with fail
    refine (HPF.out _).mono ?_
    rintro e w2 ⟨rfl, b2⟩
    have T0 := Lib.hid (S0.out.below b2 (by omega))
    have T1 := Lib.hid (S1.out.below b2 (by omega))
    have B2 := Lib.hid (B1.out.trans (b2.mono (by omega)))
    have hsz2 := b2.size
    clear a0 a1 a2 a3 a4 a5 a6 a7 b2
    obtain ⟨a0, a1, a2, a3, a4, a5, a6, a7⟩ := T0.out.eight
    obtain ⟨gb, o, pv, rfl, hg1, hg2, q0, q1, q2, q3⟩ := HBAD.out w2 (H.out.same (sm B2.out lo hh)) k (by omega)
    have hki : (k : Int) < (nu : Int) := by omega
    have hnm : (nu : Int) ≤ 1000 := by omega
    rw [h2] at q2
    rw [h3] at q1
    have hdd : ((m : Int) != (m : Int)) = false := by simp
    have hcc := F.code_is
    generalize F.prog k raw = G' at *
    generalize F.code = co at *
    clear h3
    go_wp2_with fail
    refine (HO2.out _ (H.out.same (sm B2.out lo hh)) (by omega)).mono ?_
    rintro e w3 ⟨u2, rfl, ho, b3⟩
    obtain ⟨uu, rfl, ho⟩ := ho
    obtain ⟨A2, n2, c2, rfl⟩ := ho.slice
    have V1 := Lib.hid (T1.out.below b3 (by omega))
    have B3 := Lib.hid (B2.out.trans (b3.mono (by omega)))
    have HO3 := Lib.hid ho
    have hsz3 := b3.size
    rw [HFO.out]
    have L3 := Lib.hid (Rw.new w3 28 #[.int .i64 d, .int .i64 b, .int .i64 p, .slice A2 n2 c2, .int .i64 fu, .int .i64 ke, .bool false, .int .i64 op])
    have AL := Lib.hid ((Below.refl w3.heap.size w3).alloc (Nat.le_refl _) (.cells #[.int .i64 d, .int .i64 b, .int .i64 p, .slice A2 n2 c2, .int .i64 fu, .int .i64 ke, .bool false, .int .i64 op] 28))
    clear a0 a1 a2 a3 a4 a5 a6 a7 b3 ho q0 q1 q2 q3
    go_wp2_with fail
    refine (HPG2.out _ (.slice A2 n2 c2) w2.heap.size w3.heap.size w3.heap.size (by rw [HFO.out]; exact L3.out) (HO3.out.same (sm AL.out _ (Nat.le_refl _))) (Nat.le_refl _) hsz3).mono ?_
    rintro e w4 ⟨rfl, b4, hx4⟩
    obtain ⟨hr4, ho4⟩ := hx4 hcc
    have b4' : Below w2.heap.size w3 w4 := (AL.out.mono hsz3).trans b4
    have T4 := Lib.hid (V1.out.below b4' (by omega))
    have B4 := Lib.hid (B3.out.trans (b4'.mono (by omega)))
    have s4 := b4.size
    simp only [World.size_alloc] at s4
    have HO4 := Lib.hid ho4
    obtain ⟨gd, gb2, gp, gbs, gfu, gke, goff, gop⟩ := G'
    unfold flc at hr4
    simp only at hr4
    obtain ⟨a0, a1, a2, a3, a4, a5, a6, a7⟩ := hr4.eight
    clear b4 b4' hx4 hr4 ho4 AL L3
    obtain ⟨z0, z1, z2, z3, z4, z5, z6, z7⟩ := T4.out.eight
    obtain ⟨fz0, fz1, fz2, fz3, fz4, fz5, fz6, fz7⟩ := T4.out.frees
    go_wp2
    refine bodyPost_ret (results_row_tmp Try.results75 _ _ _ _ #[.int .i64 gd, .int .i64 gb2, .int .i64 gp, .slice A2 n2 c2, .int .i64 gfu, .int .i64 gke, .bool goff, .int .i64 gop] _ _ rfl
      (T4.out.put8 _ _ _ _ _ _ _ _) Try.underlying28 rfl infoFl8) rfl ?_
    refine ⟨_, rfl, ⟨_, rfl, (HO4.out.same ?_).wide (by omega) (by simp; omega)⟩, ?_⟩
    · repeat refine sset ?_ (.inl (by omega)) _
      exact Same.refl _ _ _
    · repeat refine bset ?_ (by omega) _
      exact B4.out
end Go.Proofs.Ytlmdpdidjldkpaa
/- EraseBlock, in the model and in the program: the contracts. -/
namespace Go.Proofs.Ytlmdpdidjldkpaa
open Go.RowKit
set_option linter.unusedVariables false
theorem Fl.code_of (F : Fl) : F.code = 0 ∨ F.code = 8 := by unfold Fl.code; split <;> simp
set_option maxHeartbeats 1000000 in
theorem implEra_any (v : Value) (block : Int) (F G : Fl) (c : Int) (w : World) (lo hi : Nat) (h : FlIn w lo hi v F) (hh : hi ≤ w.heap.size) (hG : EraEnds F block G c) (hl : FlLen F) :
    Calls Try.prog 11 #[v, .int .i64 block] w (FlPost G c w) := by
  obtain ⟨r, hr⟩ := prop_dec (FlOk F)
  obtain ⟨u, rfl, hb⟩ := h
  have hv : ∀ W : World, BksIn W lo hi u F.bs → FlIn W lo hi (.agg (flc F u)) F := fun W a => ⟨u, rfl, a⟩
  have HV := Lib.hid (fun (W : World) (a : BksIn W lo hi u F.bs) (c : hi ≤ W.heap.size) => implValid_any (.agg (flc F u)) F r W lo hi (hv W a) c hr hl)
  have HO := Lib.hid (fun (hok : FlOk F) (W : World) (a : BksIn W lo hi u F.bs) (c : hi ≤ W.heap.size) => clone_any (.agg (flc F u)) F W lo hi (hv W a) c hok)
  have HPG := Lib.hid (fun (hok : FlOk F) (W : World) (u2 : Value) (lo hi g : Nat) (a : Rw W g 28 (flc F u2)) (b : BksOwn W lo hi u2 F.bs) (c1 : hi ≤ g) (c2 : lo ≤ hi) => flErase_any W lo hi g F G u2 block c a b c1 c2 hok hG)
  have HC := Lib.hid hG.codes
  have HOU := Lib.hid (fun (W : World) (lo hi g : Nat) (u2 : Value) (a : g < W.heap.size) (b : (c = 0 ∨ c = 8) → Rw W g 28 (flc G u2) ∧ BksOwn W lo hi u2 G.bs) (d : hi ≤ W.heap.size) => outcome_any W lo hi g G u2 c a b d HC.out)
  have H := Lib.hid hb
  obtain ⟨Au, nu, cu, rfl⟩ := hb.slice
  have HF1 := Lib.hid (show ¬ FlOk F → G = Fl.zero ∧ c = 1 from fun hn => by
    rcases hG with _ | ⟨a, _⟩ | ⟨a, _⟩ | ⟨a, _⟩ | ⟨a, _⟩
    · exact ⟨rfl, rfl⟩
    all_goals exact absurd a hn)
  clear hb hv hl hG
  obtain ⟨FF, hFF⟩ : ∃ X, X = F := ⟨_, rfl⟩
  have hFl : flc F (.slice Au nu cu) = #[.int .i64 F.d, .int .i64 F.b, .int .i64 F.p, .slice Au nu cu, .int .i64 F.fu, .int .i64 F.ke, .bool F.off, .int .i64 F.op] := rfl
  have hFo : ∀ u, flc F u = #[.int .i64 F.d, .int .i64 F.b, .int .i64 F.p, u, .int .i64 F.fu, .int .i64 F.ke, .bool F.off, .int .i64 F.op] := fun u => rfl
  rw [hFl] at HV HO ⊢
  have HFO := Lib.hid hFo
  clear hFl hFo hFF
  generalize F.d = d at *
  generalize F.b = b at *
  generalize F.p = p at *
  generalize F.fu = fu at *
  generalize F.ke = ke at *
  generalize F.off = off at *
  generalize F.op = op at *
  obtain ⟨r0, r1, b0⟩ := Rw.two_new w 28 28 #[.int .i64 d, .int .i64 b, .int .i64 p, .slice Au nu cu, .int .i64 fu, .int .i64 ke, .bool off, .int .i64 op]
    #[.int .i64 0, .int .i64 0, .int .i64 0, .slice none 0 0, .int .i64 0, .int .i64 0, .bool false, .int .i64 0]
  have R0 := Lib.hid r0
  have R1 := Lib.hid r1
  have B0 := Lib.hid b0
  clear r0 r1 b0
  go_enter Try.func11, Try.ntmps11
  go_wp2_with fail
  refine (HV.out _ (H.out.same (sm B0.out lo hh)) (by simp; omega)).mono ?_
  rintro e w1 ⟨rfl, b1⟩
  have S0 := Lib.hid (R0.out.below b1 (by simp; omega))
  have S1 := Lib.hid (R1.out.below b1 (by simp))
  have B1 := Lib.hid (B0.out.trans (b1.mono (by simp; omega)))
  have hsz1 := b1.size
  simp only [World.size_alloc] at hsz1
  clear b1
  by_cases hok : FlOk F
  case neg =>
    obtain ⟨rfl, rfl⟩ := HF1.out hok
    obtain ⟨z0, z1, z2, z3, z4, z5, z6, z7⟩ := S1.out.eight
    obtain ⟨fz0, fz1, fz2, fz3, fz4, fz5, fz6, fz7⟩ := S1.out.frees
    have ZERO : Hid (∀ c : Int, FlPost Fl.zero c w (.returned (.tuple #[.agg #[.int .i64 0, .int .i64 0, .int .i64 0, .slice none 0 0, .int .i64 0, .int .i64 0, .bool false, .int .i64 0], .int .i64 c])) ((((((((w1.setCell ⟨w.heap.size + 1, 0, none⟩ (.int .i64 0)).setCell ⟨w.heap.size + 1, 1, none⟩ (.int .i64 0)).setCell ⟨w.heap.size + 1, 2, none⟩ (.int .i64 0)).setCell ⟨w.heap.size + 1, 3, none⟩ (.slice none 0 0)).setCell ⟨w.heap.size + 1, 4, none⟩ (.int .i64 0)).setCell ⟨w.heap.size + 1, 5, none⟩ (.int .i64 0)).setCell ⟨w.heap.size + 1, 6, none⟩ (.bool false)).setCell ⟨w.heap.size + 1, 7, none⟩ (.int .i64 0))) := Lib.hid (fun c => by
      refine ⟨_, rfl, zeroOwn _ _ _, ?_⟩
      repeat refine bset ?_ (by omega) _
      exact B1.out)
    clear HO HPG HC HOU HF1
    obtain rfl : r = false := (bool_of r hr).2 hok
    clear hr hok
    go_wp2
    exact bodyPost_ret (results_row_tmp Try.results11 _ _ _ _ #[.int .i64 0, .int .i64 0, .int .i64 0, .slice none 0 0, .int .i64 0, .int .i64 0, .bool false, .int .i64 0] _ _ rfl
      (S1.out.put8 _ _ _ _ _ _ _ _) Try.underlying28 rfl infoFl8) rfl (ZERO.out 1)
  obtain rfl : r = true := hr.2 hok
  have HO2 := Lib.hid (HO.out hok)
  have HPG2 := Lib.hid (HPG.out hok)
  obtain ⟨a0, a1, a2, a3, a4, a5, a6, a7⟩ := S0.out.eight
  clear hr hok HO HPG HC HF1
  go_wp2_with fail
  refine (HO2.out _ (H.out.same (sm B1.out lo hh)) (by omega)).mono ?_
  rintro e w2 ⟨u2, rfl, ho, b2⟩
  obtain ⟨uu, rfl, ho⟩ := ho
  obtain ⟨A2, n2, c2, rfl⟩ := ho.slice
  have T1 := Lib.hid (S1.out.below b2 (by omega))
  have B2 := Lib.hid (B1.out.trans (b2.mono (by omega)))
  have HO3 := Lib.hid ho
  have hsz2 := b2.size
  rw [HFO.out]
  have L3 := Lib.hid (Rw.new w2 28 #[.int .i64 d, .int .i64 b, .int .i64 p, .slice A2 n2 c2, .int .i64 fu, .int .i64 ke, .bool off, .int .i64 op])
  have AL := Lib.hid ((Below.refl w2.heap.size w2).alloc (Nat.le_refl _) (.cells #[.int .i64 d, .int .i64 b, .int .i64 p, .slice A2 n2 c2, .int .i64 fu, .int .i64 ke, .bool off, .int .i64 op] 28))
  clear a0 a1 a2 a3 a4 a5 a6 a7 b2 ho
  go_wp2_with fail
  refine (HPG2.out _ (.slice A2 n2 c2) w1.heap.size w2.heap.size w2.heap.size (by rw [HFO.out]; exact L3.out) (HO3.out.same (sm AL.out _ (Nat.le_refl _))) (Nat.le_refl _) hsz2).mono ?_
  rintro e w3 ⟨rfl, b3, hx3⟩
  have b3' : Below w1.heap.size w2 w3 := (AL.out.mono hsz2).trans b3
  have T3 := Lib.hid (T1.out.below b3' (by omega))
  have B3 := Lib.hid (B2.out.trans (b3'.mono (by omega)))
  have s3 := b3.size
  simp only [World.size_alloc] at s3
  have HX := Lib.hid hx3
  clear b3 b3' hx3
  go_wp2_with fail
  refine (HOU.out _ w1.heap.size w2.heap.size w2.heap.size (.slice A2 n2 c2) (by omega) HX.out (by omega)).mono ?_
  rintro e w4 ⟨v4, rfl, ho4, b4⟩
  obtain ⟨uv, rfl, hov⟩ := ho4
  obtain ⟨A4, n4, c4, rfl⟩ := hov.slice
  have T4 := Lib.hid (T3.out.below b4 (by omega))
  have B4 := Lib.hid (B3.out.trans (b4.mono (by omega)))
  have HO4 := Lib.hid hov
  have s4 := b4.size
  clear b4 hov HX HOU AL L3
  obtain ⟨z0, z1, z2, z3, z4, z5, z6, z7⟩ := T4.out.eight
  obtain ⟨fz0, fz1, fz2, fz3, fz4, fz5, fz6, fz7⟩ := T4.out.frees
  obtain ⟨gd, gb, gp, gbs, gfu, gke, goff, gop⟩ := G
  unfold flc
  simp only
  go_wp2
  refine bodyPost_ret (results_row_tmp Try.results11 _ _ _ _ #[.int .i64 gd, .int .i64 gb, .int .i64 gp, .slice A4 n4 c4, .int .i64 gfu, .int .i64 gke, .bool goff, .int .i64 gop] _ _ rfl
    (T4.out.put8 _ _ _ _ _ _ _ _) Try.underlying28 rfl infoFl8) rfl ?_
  refine ⟨_, rfl, ⟨_, rfl, (HO4.out.same ?_).wide (by omega) (by simp; omega)⟩, ?_⟩
  · repeat refine sset ?_ (.inl (by omega)) _
    exact Same.refl _ _ _
  · repeat refine bset ?_ (by omega) _
    exact B4.out
theorem min_any (a b : Int) (w : World) : Calls Try.prog 41 #[.int .i64 a, .int .i64 b] w fun e w' => e = .returned (.int .i64 (min a b)) ∧ w = w' := by
  by_cases h : a < b
  · have e : min a b = a := by omega
    rw [e]
    clear e
    go_enter Try.func41, Try.ntmps41
    go_wp2
    go_ret
    exact ⟨rfl, rfl⟩
  · have e : min a b = b := by omega
    rw [e]
    clear e
    go_enter Try.func41, Try.ntmps41
    go_wp2
    go_ret
    exact ⟨rfl, rfl⟩
set_option maxRecDepth 100000 in
theorem spErase_bad (w : World) (g : Nat) (F : Fl) (lo hi : Nat) (u : Value) (k : Nat) (hR : Rw w g 28 (flc F u)) (hB : BksOwn w lo hi u F.bs) (hok : FlOk F) (hk : k < F.bs.length) (hbad : (F.blk k).bad = true ∨ (F.blk k).er = 1000) :
    Calls Try.prog 84 #[.pointer (some ⟨g, 0, none⟩), .int .i64 k] w fun e w' => e = .returned (.int .i64 7) ∧ w = w' := by
  have hn8 := hok.len
  obtain ⟨A, n, cap, rfl, hlc, hcm, hlen, hA⟩ := hB
  rw [hlen] at hn8
  have hnm : (n : Int) ≤ 36 := by omega
  obtain ⟨gb, pv, rfl, hbo⟩ := hA (by omega)
  obtain ⟨c0, c1, c2, c3, c4, c5, c6, c7⟩ := hR.eight
  obtain ⟨q0, q1, q2, q3⟩ := hbo.row k (by omega)
  change w.cell? ⟨gb, k * 4 + 2, none⟩ = some (.bool (F.blk k).bad) at q2
  change w.cell? ⟨gb, k * 4, none⟩ = some (.int .i64 (F.blk k).er) at q0
  have hki : (k : Int) < (n : Int) := by omega
  clear hA hR hlen hbo hok
  generalize (F.blk k).bad = bb at *
  generalize (F.blk k).er = er at *
  cases bb with
  | true =>
    clear hbad
    go_enter Try.func84, Try.ntmps84
    go_wp2
    go_ret
    exact ⟨rfl, rfl⟩
  | false =>
    obtain rfl : er = 1000 := by rcases hbad with h2 | h2; cases h2; exact h2
    clear hbad
    go_enter Try.func84, Try.ntmps84
    go_wp2
    go_ret
    exact ⟨rfl, rfl⟩
set_option maxHeartbeats 1000000 in
set_option maxRecDepth 100000 in
theorem spErase_any (w : World) (lo hi g : Nat) (F : Fl) (u : Value) (k : Nat) (hR : Rw w g 28 (flc F u)) (hB : BksOwn w lo hi u F.bs) (hg : hi ≤ g) (hlo : lo ≤ hi) (hok : FlOk F)
    (hk : k < F.bs.length) (hbad : (F.blk k).bad = false) (her : (F.blk k).er ≠ 1000) :
    Calls Try.prog 84 #[.pointer (some ⟨g, 0, none⟩), .int .i64 k] w (InPost lo hi g u (F.erase k) F.code w) := by
  have hn8 := hok.len
  have hRg := hR
  obtain ⟨A, n, cap, rfl, hlc, hcm, hlen, hA⟩ := hB
  rw [hlen] at hn8
  have hnm : (n : Int) ≤ 36 := by omega
  obtain ⟨gb, pv, rfl, hbo⟩ := hA (by omega)
  have hgl := hR.lt
  have hpl := hok.plen (i := k) (by omega)
  have hbk := hok.2.2.1 k (by omega)
  have hki : (k : Int) < (n : Int) := by omega
  have hS := Lib.hid (tick_any g F (.slice (some ⟨gb, 0, none⟩) n cap) w hRg hok.2.2.2.1)
  obtain ⟨c0, c1, c2, c3, c4, c5, c6, c7⟩ := hR.eight
  have HD := Lib.hid (And.intro (erase_bs F k) (show flc (F.erase k) (.slice (some ⟨gb, 0, none⟩) n cap) = flc F.tick (.slice (some ⟨gb, 0, none⟩) n cap) from rfl))
  have HLL := Lib.hid (show (F.bs.set k ((F.blk k).erase F.much.toNat)).length = n by rw [List.length_set]; exact hlen)
  have HBO := Lib.hid (hbo.self (k := k) (by omega))
  have HK := Lib.hid hk
  obtain ⟨b, off, pcap, hv, hv1, hv2⟩ := hbo.somePg (k := k) (by omega) (by show 0 < (F.blk k).pg.length; omega)
  have HV := Lib.hid hv
  have hke := hok.2.2.2.2.1
  have hlow := hbo.low
  have hhigh := hbo.high
  have her2 := hbk.1
  have hgg : ¬ gb = g := by omega
  have hgg2 : ¬ g = gb := by omega
  change Hid (BO w lo hi gb pv (F.bs.set k (F.blk k))) at HBO
  change (F.blk k).pg.length ≤ pcap at hv1
  change Hid (pv k = .slice (some ⟨b, off, none⟩) (F.blk k).pg.length pcap) at HV
  have HXX := Lib.hid (fun u => show (flc F.tick u)[5]? = some (.int .i64 F.ke) ∧ (flc F.tick u)[2]? = some (.int .i64 F.p) from ⟨rfl, rfl⟩)
  have HMU := Lib.hid (show F.much = if F.fu = 0 then F.ke else 91 from rfl)
  have HCO := Lib.hid (show F.code = if F.fu = 0 then 8 else 0 from rfl)
  obtain ⟨q0, q1, q2, q3⟩ := HBO.out.cells HK.out
  have hp := hpl.2.2
  rw [hbad] at q2
  have hki' := hok.1.p16
  generalize hF : F.fu = fu at *
  generalize F.erase k = G' at *
  generalize F.blk k = y at *
  generalize F.ke = ke at *
  generalize F.much = mu at *
  generalize F.code = co at *
  obtain ⟨er, nx, bad, pg⟩ := y
  simp only at hpl hp hbad her her2 hv1 HV q0 q1
  subst hbad
  obtain ⟨P, hP⟩ : ∃ P, P = pg.length := ⟨_, rfl⟩
  have HP := Lib.hid hP
  rw [← hP] at hpl hp hv1 HV
  rw [← hp] at HXX
  obtain ⟨kk, rfl⟩ := Int.eq_ofNat_of_zero_le hke.1
  have hP8 : 8 ≤ P := by omega
  have hP16 : (P : Int) ≤ 16 := by omega
  have hk91 : kk ≤ 91 := by omega
  clear hA hR hRg hlen hbo hv hok hbk hpl hp hP hke hki' hF
  by_cases hf : fu = 0
  · subst hf
    obtain rfl : mu = (kk : Int) := HMU.out.trans (if_pos rfl)
    obtain rfl : co = 8 := HCO.out.trans (if_pos rfl)
    have hM := Lib.hid (show min (kk : Int) (P : Int) = ((min kk P : Nat) : Int) by omega)
    obtain ⟨M, hMM⟩ : ∃ M, M = min kk P := ⟨_, rfl⟩
    rw [← hMM] at hM
    have hMP : M ≤ P := by omega
    have HE := Lib.hid (show emptied pg M = emptied pg kk by rw [hMM, HP.out, emptied_min])
    have HMN := Lib.hid (show (M < P ↔ kk < P) by omega)
    clear hMM
    go_enter Try.func84, Try.ntmps84
    go_wp2_with fail
    refine hS.out.mono ?_
    rintro e w1 ⟨rfl, r1, gr1⟩
    have k5 : w1.cell? ⟨g, 5, none⟩ = some (.int .i64 (kk : Int)) := (r1.cell 5).trans (HXX.out _).1
    have k2 : w1.cell? ⟨g, 2, none⟩ = some (.int .i64 (P : Int)) := (r1.cell 2).trans (HXX.out _).2
    have s1 := gr1.size
    have o1 := HBO.out.same (same_grown gr1 hg (by omega))
    have O1 := Lib.hid o1
    have hb1 := Lib.hid (grown_keep gr1 (B := lo) (by omega) (by omega))
    have R1 := Lib.hid r1
    obtain ⟨t0, t1, t2, t3⟩ := O1.out.cells HK.out
    simp only at t0 t1 t2
    have f0 := O1.out.free (k * 4)
    clear r1 gr1 o1 c0 c1 c2 c3 c4 c5 c6 c7 q0 q1 q2 q3
    go_wp2_with fail
    refine (min_any _ _ _).mono ?_
    rintro e wz ⟨rfl, rfl⟩
    rw [hM.out]
    have o2 := O1.out.storeS (c := 0) HK.out (.int .i64 (er + 1)) (.inl ⟨rfl, _, rfl⟩)
    rw [Nat.add_zero] at o2
    have O2 := Lib.hid o2
    have K2 := Lib.hid ((Keep.refl lo hi w1).set_ (g := gb) (k := k * 4) hlow hhigh (.int .i64 (er + 1)))
    generalize w1.setCell ⟨gb, k * 4, none⟩ (.int .i64 (er + 1)) = w2 at *
    obtain ⟨a, ha⟩ : ∃ a, a = (Blk.mk er nx false pg).put 0 (.int .i64 (er + 1)) := ⟨_, rfl⟩
    rw [← ha] at O2
    have HA := Lib.hid ha
    have HPA := Lib.hid (show a.pg = pg by rw [ha]; rfl)
    clear ha o2 t0 t1 t2 t3 f0 k5 k2
    go_wp2
    go_loopw [8] (fun i wr => ∃ t : Nat, t ≤ M ∧ i = .int .i64 t ∧ Hid (BO wr lo hi gb pv (F.bs.set k (a.pages (emptied pg t)))) ∧ Hid (Keep lo hi w1 wr)) (fun i _ => M - (intOf i).toNat)
    case atStart => exact ⟨0, by omega, rfl, Lib.hid (by rw [emptied_zero, ← HPA.out]; exact O2.out), K2⟩
    case round =>
      obtain ⟨t, ht, rfl, OT, KT⟩ := hrel
      have k2 : wr.cell? ⟨g, 2, none⟩ = some (.int .i64 (P : Int)) := ((R1.out.kept KT.out hg).cell 2).trans (HXX.out _).2
      obtain ⟨t0, t1, t2, t3⟩ := OT.out.cells HK.out
      rw [HV.out] at t3
      have fn := OT.out.free (k * 4 + 1)
      by_cases hlt : t < M
      · have hti : (t : Int) < (M : Int) := by omega
        have htP : (t : Int) < (P : Int) := by omega
        obtain ⟨e0, e1, e2, e3, e4⟩ := OT.out.pageS HK.out HV.out (t := t) (by omega)
        have o3 := OT.out.storePgS HK.out HV.out (t := t) (by omega) ByteArray.empty (by show 0 ≤ _; omega)
        have ee : (a.pages (emptied pg t)).pages ((a.pages (emptied pg t)).pg.set t ByteArray.empty) = a.pages (emptied pg (t + 1)) := by
          show a.pages ((emptied pg t).set t ByteArray.empty) = _
          rw [emptied_step _ _ (by have := HP.out; omega)]
        rw [ee] at o3
        have O3 := Lib.hid o3
        have K3 := Lib.hid (KT.out.set_ (g := b) (k := off + t) e2 e3 (.string ByteArray.empty))
        clear o3 ee t0 t1 t2 fn k2
        go_wp2
        go_roundw
        case rel => exact ⟨t + 1, by omega, by go_num, O3, K3⟩
        case measure => simp [intOf]; omega
      · obtain rfl : t = M := by omega
        have o4 := OT.out.storeS (c := 1) HK.out (.int .i64 0) (.inr (.inl ⟨rfl, _, rfl⟩))
        have K4 := Lib.hid (KT.out.set_ (g := gb) (k := k * 4 + 1) hlow hhigh (.int .i64 0))
        have k2' : (wr.setCell ⟨gb, k * 4 + 1, none⟩ (.int .i64 0)).cell? ⟨g, 2, none⟩ = some (.int .i64 (P : Int)) := ((R1.out.kept K4.out hg).cell 2).trans (HXX.out _).2
        clear k2
        by_cases hlt2 : t < P
        · have hti2 : (t : Int) < (P : Int) := by omega
          have O5 := Lib.hid (o4.storeS (c := 1) HK.out (.int .i64 (P : Int)) (.inr (.inl ⟨rfl, _, rfl⟩)))
          have K5 := Lib.hid (K4.out.set_ (g := gb) (k := k * 4 + 1) hlow hhigh (.int .i64 (P : Int)))
          have HEE := Lib.hid (show Blk.erase ⟨er, nx, false, pg⟩ kk = ((a.pages (emptied pg t)).put 1 (.int .i64 0)).put 1 (.int .i64 (P : Int)) from by
            unfold Blk.erase
            rw [if_pos (by rw [← HP.out]; exact HMN.out.1 hlt2), HE.out, HA.out, HP.out]; rfl)
          clear o4 t0 t2 t3 K4
          go_wp2
          go_ret
          refine ⟨rfl, hb1.out.trans K5.out.1, fun _ => ⟨?_, ?_⟩⟩
          · rw [HD.out.2]; exact R1.out.kept K5.out hg
          · exact ⟨_, n, cap, rfl, hlc, hcm, by rw [HD.out.1]; exact HLL.out, fun _ => ⟨gb, pv, rfl, by rw [HD.out.1]; refine (congrArg (fun q => BO _ lo hi gb pv (F.bs.set k q)) HEE.out).mpr O5.out⟩⟩
        · have hti2 : ¬ (t : Int) < (P : Int) := by omega
          have O4 := Lib.hid o4
          have HEE := Lib.hid (show Blk.erase ⟨er, nx, false, pg⟩ kk = (a.pages (emptied pg t)).put 1 (.int .i64 0) from by
            unfold Blk.erase
            rw [if_neg (by rw [← HP.out]; exact fun h => hlt2 (HMN.out.2 h)), HE.out, HA.out]; rfl)
          clear o4 t0 t2 t3
          go_wp2
          go_ret
          refine ⟨rfl, hb1.out.trans K4.out.1, fun _ => ⟨?_, ?_⟩⟩
          · rw [HD.out.2]; exact R1.out.kept K4.out hg
          · exact ⟨_, n, cap, rfl, hlc, hcm, by rw [HD.out.1]; exact HLL.out, fun _ => ⟨gb, pv, rfl, by rw [HD.out.1]; refine (congrArg (fun q => BO _ lo hi gb pv (F.bs.set k q)) HEE.out).mpr O4.out⟩⟩
  · obtain rfl : mu = 91 := HMU.out.trans (if_neg hf)
    obtain rfl : co = 0 := HCO.out.trans (if_neg hf)
    rw [show decide (fu = 0) = false by simp [hf]] at hS
    have HE := Lib.hid (show emptied pg P = emptied pg 91 by rw [← emptied_min pg 91, ← HP.out, Nat.min_eq_right (by omega)])
    go_enter Try.func84, Try.ntmps84
    go_wp2_with fail
    refine hS.out.mono ?_
    rintro e w1 ⟨rfl, r1, gr1⟩
    have k5 : w1.cell? ⟨g, 5, none⟩ = some (.int .i64 (kk : Int)) := (r1.cell 5).trans (HXX.out _).1
    have k2 : w1.cell? ⟨g, 2, none⟩ = some (.int .i64 (P : Int)) := (r1.cell 2).trans (HXX.out _).2
    have s1 := gr1.size
    have o1 := HBO.out.same (same_grown gr1 hg (by omega))
    have O1 := Lib.hid o1
    have hb1 := Lib.hid (grown_keep gr1 (B := lo) (by omega) (by omega))
    have R1 := Lib.hid r1
    obtain ⟨t0, t1, t2, t3⟩ := O1.out.cells HK.out
    simp only at t0 t1 t2
    have f0 := O1.out.free (k * 4)
    clear r1 gr1 o1 c0 c1 c2 c3 c4 c5 c6 c7 q0 q1 q2 q3
    go_wp2
    have o2 := O1.out.storeS (c := 0) HK.out (.int .i64 (er + 1)) (.inl ⟨rfl, _, rfl⟩)
    rw [Nat.add_zero] at o2
    have O2 := Lib.hid o2
    have K2 := Lib.hid ((Keep.refl lo hi w1).set_ (g := gb) (k := k * 4) hlow hhigh (.int .i64 (er + 1)))
    generalize w1.setCell ⟨gb, k * 4, none⟩ (.int .i64 (er + 1)) = w2 at *
    obtain ⟨a, ha⟩ : ∃ a, a = (Blk.mk er nx false pg).put 0 (.int .i64 (er + 1)) := ⟨_, rfl⟩
    rw [← ha] at O2
    have HA := Lib.hid ha
    have HPA := Lib.hid (show a.pg = pg by rw [ha]; rfl)
    clear ha o2 t0 t1 t2 t3 f0 k5 k2
    
    go_loopw [8] (fun i wr => ∃ t : Nat, t ≤ P ∧ i = .int .i64 t ∧ Hid (BO wr lo hi gb pv (F.bs.set k (a.pages (emptied pg t)))) ∧ Hid (Keep lo hi w1 wr)) (fun i _ => P - (intOf i).toNat)
    case atStart => exact ⟨0, by omega, rfl, Lib.hid (by rw [emptied_zero, ← HPA.out]; exact O2.out), K2⟩
    case round =>
      obtain ⟨t, ht, rfl, OT, KT⟩ := hrel
      have k2 : wr.cell? ⟨g, 2, none⟩ = some (.int .i64 (P : Int)) := ((R1.out.kept KT.out hg).cell 2).trans (HXX.out _).2
      obtain ⟨t0, t1, t2, t3⟩ := OT.out.cells HK.out
      rw [HV.out] at t3
      have fn := OT.out.free (k * 4 + 1)
      by_cases hlt : t < P
      · have hti : (t : Int) < (P : Int) := by omega
        have htP : (t : Int) < (P : Int) := by omega
        obtain ⟨e0, e1, e2, e3, e4⟩ := OT.out.pageS HK.out HV.out (t := t) (by omega)
        have o3 := OT.out.storePgS HK.out HV.out (t := t) (by omega) ByteArray.empty (by show 0 ≤ _; omega)
        have ee : (a.pages (emptied pg t)).pages ((a.pages (emptied pg t)).pg.set t ByteArray.empty) = a.pages (emptied pg (t + 1)) := by
          show a.pages ((emptied pg t).set t ByteArray.empty) = _
          rw [emptied_step _ _ (by have := HP.out; omega)]
        rw [ee] at o3
        have O3 := Lib.hid o3
        have K3 := Lib.hid (KT.out.set_ (g := b) (k := off + t) e2 e3 (.string ByteArray.empty))
        clear o3 ee t0 t1 t2 fn k2
        go_wp2
        go_roundw
        case rel => exact ⟨t + 1, by omega, by go_num, O3, K3⟩
        case measure => simp [intOf]; omega
      · have htM : t = P := by omega
        have hti : ¬ (t : Int) < (P : Int) := by omega
        have o4 := OT.out.storeS (c := 1) HK.out (.int .i64 0) (.inr (.inl ⟨rfl, _, rfl⟩))
        have K4 := Lib.hid (KT.out.set_ (g := gb) (k := k * 4 + 1) hlow hhigh (.int .i64 0))
        have k2' : (wr.setCell ⟨gb, k * 4 + 1, none⟩ (.int .i64 0)).cell? ⟨g, 2, none⟩ = some (.int .i64 (P : Int)) := ((R1.out.kept K4.out hg).cell 2).trans (HXX.out _).2
        have O4 := Lib.hid o4
        have HEE := Lib.hid (show Blk.erase ⟨er, nx, false, pg⟩ 91 = (a.pages (emptied pg t)).put 1 (.int .i64 0) from by
          unfold Blk.erase
          rw [if_neg (by rw [← HP.out]; omega), ← HE.out, HA.out, htM]; rfl)
        clear o4 t0 t2 t3 htM k2
        go_wp2
        go_ret
        refine ⟨rfl, hb1.out.trans K4.out.1, fun _ => ⟨?_, ?_⟩⟩
        · rw [HD.out.2]; exact R1.out.kept K4.out hg
        · exact ⟨_, n, cap, rfl, hlc, hcm, by rw [HD.out.1]; exact HLL.out, fun _ => ⟨gb, pv, rfl, by rw [HD.out.1]; refine (congrArg (fun q => BO _ lo hi gb pv (F.bs.set k q)) HEE.out).mpr O4.out⟩⟩
end Go.Proofs.Ytlmdpdidjldkpaa
/- EraseBlock, the model's: the contract. -/
namespace Go.Proofs.Ytlmdpdidjldkpaa
open Go.RowKit
set_option linter.unusedVariables false
set_option maxHeartbeats 4000000 in
theorem specEra_any (v : Value) (block : Int) (F G : Fl) (c : Int) (w : World) (lo hi : Nat) (h : FlIn w lo hi v F) (hh : hi ≤ w.heap.size) (hG : EraEnds F block G c) (hl : FlLen F) :
    Calls Try.prog 74 #[v, .int .i64 block] w (FlPost G c w) := by
  obtain ⟨r, hr⟩ := prop_dec (FlOk F)
  obtain ⟨u, rfl, hb⟩ := h
  have hv : ∀ W : World, BksIn W lo hi u F.bs → FlIn W lo hi (.agg (flc F u)) F := fun W a => ⟨u, rfl, a⟩
  have HV := Lib.hid (fun (W : World) (a : BksIn W lo hi u F.bs) (c : hi ≤ W.heap.size) => specValid_any (.agg (flc F u)) F r W lo hi (hv W a) c hr hl)
  have HO := Lib.hid (fun (hok : FlOk F) (W : World) (a : BksIn W lo hi u F.bs) (c : hi ≤ W.heap.size) => l06Own_any (.agg (flc F u)) F W lo hi (hv W a) c (by have := hok.len; omega) (fun i hi => by have := hok.plen hi; omega))
  have HPG := Lib.hid (fun (hok : FlOk F) (k : Nat) (hk : k < F.bs.length) (h1 : (F.blk k).bad = false) (h2 : (F.blk k).er ≠ 1000) (W : World) (u2 : Value) (lo hi g : Nat) (a : Rw W g 28 (flc F u2)) (b : BksOwn W lo hi u2 F.bs) (c1 : hi ≤ g) (c2 : lo ≤ hi) => spErase_any W lo hi g F u2 k a b c1 c2 hok hk h1 h2)
  have HPB := Lib.hid (fun (hok : FlOk F) (k : Nat) (hk : k < F.bs.length) (h1 : (F.blk k).bad = true ∨ (F.blk k).er = 1000) (W : World) (u2 : Value) (lo hi g : Nat) (a : Rw W g 28 (flc F u2)) (b : BksOwn W lo hi u2 F.bs) => spErase_bad W g F lo hi u2 k a b hok hk h1)
  have H := Lib.hid hb
  have hbb := hb
  obtain ⟨Au, nu, cu, rfl, hu1, hu2, hu3, hu4⟩ := hb
  clear hbb hv hl hu4
  have hFl : flc F (.slice Au nu cu) = #[.int .i64 F.d, .int .i64 F.b, .int .i64 F.p, .slice Au nu cu, .int .i64 F.fu, .int .i64 F.ke, .bool F.off, .int .i64 F.op] := rfl
  have hFo : ∀ u, flc F u = #[.int .i64 F.d, .int .i64 F.b, .int .i64 F.p, u, .int .i64 F.fu, .int .i64 F.ke, .bool F.off, .int .i64 F.op] := fun u => rfl
  rw [hFl] at HV HO ⊢
  have HFO := Lib.hid hFo
  clear hFl hFo
  have HPgs := Lib.hid (fun (r : Bool) (hn : nu ≤ 1000) (hr : r = true ↔ (0 ≤ block ∧ block < (nu : Int))) (W : World) => spBlock_any F.d F.b F.p F.fu F.ke F.op F.off Au nu cu block r W hn hr)
  have HOFF : Hid (∀ b : Bool, F.off = b → F.off = b) := Lib.hid fun _ h => h
  have HP1 := Lib.hid (fun (hok : FlOk F) => hok.1.p16)
  have HL1 := Lib.hid (fun (hok : FlOk F) => hok.len)
  have HGG := Lib.hid hG
  clear hG
  have HPF : Hid (∀ q : Int, q < F.p → q < F.p) := Lib.hid fun _ h => h
  generalize hd : F.d = d at *
  generalize hbn : F.b = b at *
  generalize hp : F.p = p at *
  generalize hfu : F.fu = fu at *
  generalize hke : F.ke = ke at *
  generalize hoff : F.off = off at *
  generalize hop : F.op = op at *
  have HEQ := Lib.hid (And.intro hp hoff)
  clear hd hbn hp hfu hke hoff hop
  obtain ⟨r0, r1, b0⟩ := Rw.two_new w 28 28 #[.int .i64 d, .int .i64 b, .int .i64 p, .slice Au nu cu, .int .i64 fu, .int .i64 ke, .bool off, .int .i64 op]
    #[.int .i64 0, .int .i64 0, .int .i64 0, .slice none 0 0, .int .i64 0, .int .i64 0, .bool false, .int .i64 0]
  have R0 := Lib.hid r0
  have R1 := Lib.hid r1
  have B0 := Lib.hid b0
  clear r0 r1 b0
  go_enter Try.func74, Try.ntmps74
  go_wp2_with fail
  refine (HV.out _ (H.out.same (sm B0.out lo hh)) (by simp; omega)).mono ?_
  rintro e w1 ⟨rfl, b1⟩
  have S0 := Lib.hid (R0.out.below b1 (by simp; omega))
  have S1 := Lib.hid (R1.out.below b1 (by simp))
  have B1 := Lib.hid (B0.out.trans (b1.mono (by simp; omega)))
  have hsz1 := b1.size
  simp only [World.size_alloc] at hsz1
  clear b1
  have ZEROS : Hid (∀ (wz : World) (c : Int), Rw wz (w.heap.size + 1) 28 #[.int .i64 0, .int .i64 0, .int .i64 0, .slice none 0 0, .int .i64 0, .int .i64 0, .bool false, .int .i64 0] → Below w.heap.size w wz → FlPost Fl.zero c w (.returned (.tuple #[.agg #[.int .i64 0, .int .i64 0, .int .i64 0, .slice none 0 0, .int .i64 0, .int .i64 0, .bool false, .int .i64 0], .int .i64 c])) ((((((((wz.setCell ⟨w.heap.size + 1, 0, none⟩ (.int .i64 0)).setCell ⟨w.heap.size + 1, 1, none⟩ (.int .i64 0)).setCell ⟨w.heap.size + 1, 2, none⟩ (.int .i64 0)).setCell ⟨w.heap.size + 1, 3, none⟩ (.slice none 0 0)).setCell ⟨w.heap.size + 1, 4, none⟩ (.int .i64 0)).setCell ⟨w.heap.size + 1, 5, none⟩ (.int .i64 0)).setCell ⟨w.heap.size + 1, 6, none⟩ (.bool false)).setCell ⟨w.heap.size + 1, 7, none⟩ (.int .i64 0))) := Lib.hid (fun wz c hz bz => by
    refine ⟨_, rfl, zeroOwn _ _ _, ?_⟩
    repeat refine bset ?_ (by omega) _
    exact bz)
  rcases HGG.out with hno | ⟨hok, h1⟩ | ⟨hok, h1, h2⟩ | ⟨hok, h1, k, rfl, hkl, h2⟩ | ⟨hok, h1, k, rfl, hkl, h2, h3⟩
  · obtain ⟨z0, z1, z2, z3, z4, z5, z6, z7⟩ := S1.out.eight
    obtain ⟨fz0, fz1, fz2, fz3, fz4, fz5, fz6, fz7⟩ := S1.out.frees
    obtain rfl : r = false := (bool_of r hr).2 hno
    clear hr hno HO HPG HPB HPgs
    go_wp2
    exact bodyPost_ret (results_row_tmp Try.results74 _ _ _ _ #[.int .i64 0, .int .i64 0, .int .i64 0, .slice none 0 0, .int .i64 0, .int .i64 0, .bool false, .int .i64 0] _ _ rfl
      (S1.out.put8 _ _ _ _ _ _ _ _) Try.underlying28 rfl infoFl8) rfl (ZEROS.out _ 1 S1.out B1.out)
  all_goals
    obtain rfl : r = true := hr.2 hok
    rw [HEQ.out.2] at h1
    subst h1
    clear hr
  · have HO2 := Lib.hid (HO.out hok)
    obtain ⟨a0, a1, a2, a3, a4, a5, a6, a7⟩ := S0.out.eight
    clear HO HPG HPB HPgs hok
    go_wp2_with fail
    refine (HO2.out _ (H.out.same (sm B1.out lo hh)) (by omega)).mono ?_
    rintro e w2 ⟨u2, rfl, ho, b2⟩
    obtain ⟨uu, rfl, ho⟩ := ho
    obtain ⟨A2, n2, c2, rfl⟩ := ho.slice
    have T1 := Lib.hid (S1.out.below b2 (by omega))
    have B2 := Lib.hid (B1.out.trans (b2.mono (by omega)))
    have HO3 := Lib.hid ho
    have hsz2 := b2.size
    rw [HFO.out]
    clear a0 a1 a2 a3 a4 a5 a6 a7 b2 ho HO2
    obtain ⟨z0, z1, z2, z3, z4, z5, z6, z7⟩ := T1.out.eight
    obtain ⟨fz0, fz1, fz2, fz3, fz4, fz5, fz6, fz7⟩ := T1.out.frees
    go_wp2
    refine bodyPost_ret (results_row_tmp Try.results74 _ _ _ _ #[.int .i64 d, .int .i64 b, .int .i64 p, .slice A2 n2 c2, .int .i64 fu, .int .i64 ke, .bool true, .int .i64 op] _ _ rfl
      (T1.out.put8 _ _ _ _ _ _ _ _) Try.underlying28 rfl infoFl8) rfl ?_
    refine ⟨_, rfl, ⟨_, by rw [HFO.out], (HO3.out.same ?_).wide (by omega) (by simp)⟩, ?_⟩
    · repeat refine sset ?_ (.inl (by omega)) _
      exact Same.refl _ _ _
    · repeat refine bset ?_ (by omega) _
      exact B2.out
  · have HPF := Lib.hid (HPgs.out false (by have := HL1.out hok; omega) (by
      rw [hu3] at h2
      simp only [Bool.false_eq_true, false_iff]
      exact h2))
    obtain ⟨a0, a1, a2, a3, a4, a5, a6, a7⟩ := S0.out.eight
    clear HO HPG HPB HPgs hok h2
    go_wp2_with fail
    refine (HPF.out _).mono ?_
    rintro e w2 ⟨rfl, b2⟩
    have T1 := Lib.hid (S1.out.below b2 (by omega))
    have B2 := Lib.hid (B1.out.trans (b2.mono (by omega)))
    clear a0 a1 a2 a3 a4 a5 a6 a7 b2
    obtain ⟨z0, z1, z2, z3, z4, z5, z6, z7⟩ := T1.out.eight
    obtain ⟨fz0, fz1, fz2, fz3, fz4, fz5, fz6, fz7⟩ := T1.out.frees
    go_wp2
    exact bodyPost_ret (results_row_tmp Try.results74 _ _ _ _ #[.int .i64 0, .int .i64 0, .int .i64 0, .slice none 0 0, .int .i64 0, .int .i64 0, .bool false, .int .i64 0] _ _ rfl
      (T1.out.put8 _ _ _ _ _ _ _ _) Try.underlying28 rfl infoFl8) rfl (ZEROS.out _ 2 T1.out B2.out)
  · have HPF := Lib.hid (HPgs.out true (by have := HL1.out hok; omega) (by simp; omega))
    obtain ⟨a0, a1, a2, a3, a4, a5, a6, a7⟩ := S0.out.eight
    have HO2 := Lib.hid (HO.out hok)
    have HPB2 := Lib.hid (HPB.out hok k hkl h2)
    clear HO HPG HPB HPgs hok h2
    go_wp2_with fail
    refine (HPF.out _).mono ?_
    rintro e w2 ⟨rfl, b2⟩
    have T0 := Lib.hid (S0.out.below b2 (by omega))
    have T1 := Lib.hid (S1.out.below b2 (by omega))
    have B2 := Lib.hid (B1.out.trans (b2.mono (by omega)))
    have hsz2 := b2.size
    clear a0 a1 a2 a3 a4 a5 a6 a7 b2
    obtain ⟨a0, a1, a2, a3, a4, a5, a6, a7⟩ := T0.out.eight
    go_wp2_with fail
    refine (HO2.out _ (H.out.same (sm B2.out lo hh)) (by omega)).mono ?_
    rintro e w3 ⟨u2, rfl, ho, b3⟩
    obtain ⟨uu, rfl, ho⟩ := ho
    obtain ⟨A2, n2, c2, rfl⟩ := ho.slice
    have V1 := Lib.hid (T1.out.below b3 (by omega))
    have B3 := Lib.hid (B2.out.trans (b3.mono (by omega)))
    have HO3 := Lib.hid ho
    have hsz3 := b3.size
    rw [HFO.out]
    have L3 := Lib.hid (Rw.new w3 28 #[.int .i64 d, .int .i64 b, .int .i64 p, .slice A2 n2 c2, .int .i64 fu, .int .i64 ke, .bool false, .int .i64 op])
    have AL := Lib.hid ((Below.refl w3.heap.size w3).alloc (Nat.le_refl _) (.cells #[.int .i64 d, .int .i64 b, .int .i64 p, .slice A2 n2 c2, .int .i64 fu, .int .i64 ke, .bool false, .int .i64 op] 28))
    clear a0 a1 a2 a3 a4 a5 a6 a7 b3 ho
    go_wp2_with fail
    refine (HPB2.out _ (.slice A2 n2 c2) w2.heap.size w3.heap.size w3.heap.size (by rw [HFO.out]; exact L3.out) (HO3.out.same (sm AL.out _ (Nat.le_refl _)))).mono ?_
    rintro e w4 ⟨rfl, rfl⟩
    have T4 := Lib.hid (V1.out.below AL.out (by omega))
    have B4 := Lib.hid (B3.out.trans (AL.out.mono (by omega)))
    obtain ⟨z0, z1, z2, z3, z4, z5, z6, z7⟩ := T4.out.eight
    obtain ⟨fz0, fz1, fz2, fz3, fz4, fz5, fz6, fz7⟩ := T4.out.frees
    go_wp2
    exact bodyPost_ret (results_row_tmp Try.results74 _ _ _ _ #[.int .i64 0, .int .i64 0, .int .i64 0, .slice none 0 0, .int .i64 0, .int .i64 0, .bool false, .int .i64 0] _ _ rfl
      (T4.out.put8 _ _ _ _ _ _ _ _) Try.underlying28 rfl infoFl8) rfl (ZEROS.out _ 7 T4.out B4.out)
  · have HPF := Lib.hid (HPgs.out true (by have := HL1.out hok; omega) (by simp; omega))
    obtain ⟨a0, a1, a2, a3, a4, a5, a6, a7⟩ := S0.out.eight
    have HO2 := Lib.hid (HO.out hok)
    have HPG2 := Lib.hid (HPG.out hok k hkl h2 h3)
    have hcc := F.code_of
    generalize F.erase k = G' at *
    generalize F.code = co at *
    clear HO HPG HPB HPgs hok h2 h3
    go_wp2_with fail
    refine (HPF.out _).mono ?_
    rintro e w2 ⟨rfl, b2⟩
    have T0 := Lib.hid (S0.out.below b2 (by omega))
    have T1 := Lib.hid (S1.out.below b2 (by omega))
    have B2 := Lib.hid (B1.out.trans (b2.mono (by omega)))
    have hsz2 := b2.size
    clear a0 a1 a2 a3 a4 a5 a6 a7 b2
    obtain ⟨a0, a1, a2, a3, a4, a5, a6, a7⟩ := T0.out.eight
    go_wp2_with fail
    refine (HO2.out _ (H.out.same (sm B2.out lo hh)) (by omega)).mono ?_
    rintro e w3 ⟨u2, rfl, ho, b3⟩
    obtain ⟨uu, rfl, ho⟩ := ho
    obtain ⟨A2, n2, c2, rfl⟩ := ho.slice
    have V1 := Lib.hid (T1.out.below b3 (by omega))
    have B3 := Lib.hid (B2.out.trans (b3.mono (by omega)))
    have HO3 := Lib.hid ho
    have hsz3 := b3.size
    rw [HFO.out]
    have L3 := Lib.hid (Rw.new w3 28 #[.int .i64 d, .int .i64 b, .int .i64 p, .slice A2 n2 c2, .int .i64 fu, .int .i64 ke, .bool false, .int .i64 op])
    have AL := Lib.hid ((Below.refl w3.heap.size w3).alloc (Nat.le_refl _) (.cells #[.int .i64 d, .int .i64 b, .int .i64 p, .slice A2 n2 c2, .int .i64 fu, .int .i64 ke, .bool false, .int .i64 op] 28))
    clear a0 a1 a2 a3 a4 a5 a6 a7 b3 ho
    go_wp2_with fail
    refine (HPG2.out _ (.slice A2 n2 c2) w2.heap.size w3.heap.size w3.heap.size (by rw [HFO.out]; exact L3.out) (HO3.out.same (sm AL.out _ (Nat.le_refl _))) (Nat.le_refl _) hsz3).mono ?_
    rintro e w4 ⟨rfl, b4, hx4⟩
    obtain ⟨hr4, ho4⟩ := hx4 hcc
    have b4' : Below w2.heap.size w3 w4 := (AL.out.mono hsz3).trans b4
    have T4 := Lib.hid (V1.out.below b4' (by omega))
    have B4 := Lib.hid (B3.out.trans (b4'.mono (by omega)))
    have s4 := b4.size
    simp only [World.size_alloc] at s4
    have HO4 := Lib.hid ho4
    obtain ⟨gd, gb2, gp, gbs, gfu, gke, goff, gop⟩ := G'
    unfold flc at hr4
    simp only at hr4
    obtain ⟨a0, a1, a2, a3, a4, a5, a6, a7⟩ := hr4.eight
    clear b4 b4' hx4 hr4 ho4 AL L3
    obtain ⟨z0, z1, z2, z3, z4, z5, z6, z7⟩ := T4.out.eight
    obtain ⟨fz0, fz1, fz2, fz3, fz4, fz5, fz6, fz7⟩ := T4.out.frees
    rcases hcc with rfl | rfl
    · go_wp2
      refine bodyPost_ret (results_row_tmp Try.results74 _ _ _ _ #[.int .i64 gd, .int .i64 gb2, .int .i64 gp, .slice A2 n2 c2, .int .i64 gfu, .int .i64 gke, .bool goff, .int .i64 gop] _ _ rfl
        (T4.out.put8 _ _ _ _ _ _ _ _) Try.underlying28 rfl infoFl8) rfl ?_
      refine ⟨_, rfl, ⟨_, rfl, (HO4.out.same ?_).wide (by omega) (by simp; omega)⟩, ?_⟩
      · repeat refine sset ?_ (.inl (by omega)) _
        exact Same.refl _ _ _
      · repeat refine bset ?_ (by omega) _
        exact B4.out
    · go_wp2
      refine bodyPost_ret (results_row_tmp Try.results74 _ _ _ _ #[.int .i64 gd, .int .i64 gb2, .int .i64 gp, .slice A2 n2 c2, .int .i64 gfu, .int .i64 gke, .bool goff, .int .i64 gop] _ _ rfl
        (T4.out.put8 _ _ _ _ _ _ _ _) Try.underlying28 rfl infoFl8) rfl ?_
      refine ⟨_, rfl, ⟨_, rfl, (HO4.out.same ?_).wide (by omega) (by simp; omega)⟩, ?_⟩
      · repeat refine sset ?_ (.inl (by omega)) _
        exact Same.refl _ _ _
      · repeat refine bset ?_ (by omega) _
        exact B4.out
end Go.Proofs.Ytlmdpdidjldkpaa
/- An array that fits has not too many blocks and pages. -/
namespace Go.Proofs.Ytlmdpdidjldkpaa
open Go.RowKit
theorem FlIn.agg8 {w : World} {lo hi : Nat} {v : Value} {F : Fl} (h : FlIn w lo hi v F) : ∃ (d b p : Int) (A : Option Addr) (n c : Nat) (fu ke : Int) (off : Bool) (op : Int), v = .agg #[.int .i64 d, .int .i64 b, .int .i64 p, .slice A n c, .int .i64 fu, .int .i64 ke, .bool off, .int .i64 op] := by
  obtain ⟨u, rfl, A, n, c, rfl, _⟩ := h; exact ⟨_, _, _, _, _, _, _, _, _, _, rfl⟩
theorem FlOwn.agg8 {w : World} {lo hi : Nat} {v : Value} {F : Fl} (h : FlOwn w lo hi v F) : ∃ (d b p : Int) (A : Option Addr) (n c : Nat) (fu ke : Int) (off : Bool) (op : Int), v = .agg #[.int .i64 d, .int .i64 b, .int .i64 p, .slice A n c, .int .i64 fu, .int .i64 ke, .bool off, .int .i64 op] := h.reads.agg8
theorem FlSz.lens {F : Fl} (h : FlSz F) : FlLen F := ⟨by unfold FlSz at h; omega, fun i hi => (h.pages hi).1⟩
end Go.Proofs.Ytlmdpdidjldkpaa
/- Chapter 6's generator of operations on an array: the contract. Only that it returns an array of the same shape is said. -/
namespace Go.Proofs.Ytlmdpdidjldkpaa
open Go.RowKit
set_option linter.unusedVariables false
theorem l06Keep_any (B g n : Nat) (w : World) (h : Src w B g n) (hn : n ≤ 800000000000) :
    Calls Try.prog 62 #[.pointer (some ⟨g, 0, none⟩)] w (Chose (IntIn 0 91) B g (n + 4) w) := by
  have hlt := h.lt
  have HP : Hid (pickMax 92 = 91) := by show _ = _; decide
  go_enter Try.func62, Try.ntmps62
  go_wp2_with fail
  refine (pick_any B g n 92 _ h (by omega) (by omega) (by omega)).mono ?_
  rintro e w1 ⟨v1, rfl, ⟨x, rfl, hx0, hx1⟩, hS1, hg1⟩
  rw [HP.out] at hx1
  clear h
  have hz1 := hg1.size
  have hne : w1.heap.size ≠ g := by omega
  go_wp2_with fail
  refine (among_any (fun x => 0 ≤ x ∧ x ≤ 91) B g (n + 2) w1.heap.size 9 9 _ ?_ (by omega) (by omega) (by omega) hne ?_).mono ?_
  · exact hS1.keep ((Below.refl _ _).alloc (Nat.le_refl _) _)
  · refine newCells _ _ _ 9 rfl ?_
    intro v hv
    simp only [List.mem_cons, List.not_mem_nil, or_false] at hv
    rcases hv with rfl | rfl | rfl | rfl | rfl | rfl | rfl | rfl | rfl <;> exact ⟨_, rfl, by constructor <;> omega⟩
  rintro e w2 ⟨v2, rfl, ⟨y, rfl, hy0, hy1⟩, hS2, hg2⟩
  go_wp2
  go_ret
  exact ⟨_, rfl, ⟨y, rfl, hy0, hy1⟩, hS2, grown_trans hg1 (grown_trans (World.grownBy_alloc w1 _ _) hg2)⟩
/-- What a generator of arrays does. -/
def DrewFl (K lo B g n : Nat) (w : World) (e : Ending) (w' : World) : Prop := ∃ (v : Value) (F : Fl), e = .returned v ∧ FlOwn w' lo w'.heap.size v F ∧ Shape F K ∧ Src w' B g n ∧ w.grownBy w' (some g)
/-- What l06Work does: the array that it returns lies where the given one did, or in new blocks. -/
def WorkFl (K lo hi B g n : Nat) (w : World) (e : Ending) (w' : World) : Prop := ∃ (v : Value) (F : Fl) (lo' hi' : Nat), e = .returned v ∧ FlOwn w' lo' hi' v F ∧ (lo ≤ lo' ∧ hi' ≤ w'.heap.size ∧ (hi' ≤ hi ∨ w.heap.size + 2 ≤ lo')) ∧ Shape F K ∧ Src w' B g n ∧ w.grownBy w' (some g)
set_option maxHeartbeats 4000000 in
set_option maxRecDepth 100000 in
theorem l06Work_any (B g n lo hi M : Nat) (v : Value) (F : Fl) (w : World) (h : Src w B g n) (hn : n ≤ 500000000000) (hF : FlOwn w lo hi v F) (hlo : g < lo) (hlw : lo ≤ w.heap.size) (hhi : hi ≤ w.heap.size) (hS : Shape F M) (hM : M ≤ 1000) :
    Calls Try.prog 63 #[.pointer (some ⟨g, 0, none⟩), v, .int .i64 8] w (WorkFl (M + 8) lo hi B g (n + 100000) w) := by
  obtain ⟨u, rfl, hb⟩ := hF
  obtain ⟨A, nb, cb, rfl⟩ := hb.slice
  have hlt := h.lt
  obtain ⟨r0, r1, b0⟩ := Rw.two_new w 28 28 (flc F (.slice A nb cb)) #[.int .i64 0, .int .i64 0, .int .i64 0, .slice none 0 0, .int .i64 0, .int .i64 0, .bool false, .int .i64 0]
  have R0 := Lib.hid r0
  have R1 := Lib.hid r1
  have OWN := Lib.hid (hb.same (sm b0 lo hhi))
  have hg0 : w.grownBy ((w.alloc (.cells (flc F (.slice A nb cb)) 28)).alloc (.cells #[.int .i64 0, .int .i64 0, .int .i64 0, .slice none 0 0, .int .i64 0, .int .i64 0, .bool false, .int .i64 0] 28)) (some g) := grown_below (grown_refl w (some g)) b0
  have G0 := Lib.hid hg0
  have S0 := Lib.hid (h.keep b0)
  have P8 : Hid (pickMax 9 = 8) := by show _ = _; decide
  have P4 : Hid (pickMax 4 = 3) := by show _ = _; decide
  unfold flc at R0 OWN G0 S0 ⊢
  clear r0 r1 b0 h hb hg0
  go_enter Try.func63, Try.ntmps63
  go_wp2_with fail
  refine (pick_any B g n 9 _ S0.out (by omega) (by omega) (by omega)).mono ?_
  rintro e w1 ⟨v1, rfl, ⟨x, rfl, hx0, hx1⟩, hS1, hg1⟩
  rw [P8.out] at hx1
  obtain ⟨C, rfl⟩ := Int.eq_ofNat_of_zero_le hx0
  have HC := Lib.hid (show C ≤ 8 by omega)
  have Q0 := Lib.hid (R0.out.grown hg1 (by omega))
  have Q1 := Lib.hid (R1.out.grown hg1 (by omega))
  have QO := Lib.hid (OWN.out.same (same_above hg1 hlo (by simp; omega)))
  have QG := Lib.hid (grown_trans G0.out hg1)
  have QS := Lib.hid hS1
  have QH := Lib.hid hS
  clear R0 R1 OWN G0 S0 hg1 hS1 hx0 hx1 hS
  go_wp2
  go_loopw [7] (fun i wr => ∃ (k : Nat) (F : Fl) (A : Option Addr) (nb cb lo' hi' : Nat), k ≤ C ∧ i = .int .i64 k ∧ Hid (Rw wr w.heap.size 28 #[.int .i64 F.d, .int .i64 F.b, .int .i64 F.p, .slice A nb cb, .int .i64 F.fu, .int .i64 F.ke, .bool F.off, .int .i64 F.op]) ∧
      Hid (Rw wr (w.heap.size + 1) 28 #[.int .i64 0, .int .i64 0, .int .i64 0, .slice none 0 0, .int .i64 0, .int .i64 0, .bool false, .int .i64 0]) ∧ Hid (BksOwn wr lo' hi' (.slice A nb cb) F.bs) ∧ Hid (lo ≤ lo' ∧ hi' ≤ wr.heap.size ∧ (hi' ≤ hi ∨ w.heap.size + 2 ≤ lo')) ∧ Hid (Shape F (M + (C - k))) ∧
      Hid (Src wr B g (n + 2 + 10000 * (C - k))) ∧ Hid (w.grownBy wr (some g))) (fun i _ => (intOf i).toNat)
  case atStart => exact ⟨C, F, A, nb, cb, lo, hi, by omega, rfl, Q0, Q1, QO, Lib.hid ⟨Nat.le_refl _, Nat.le_trans hhi QG.out.size, .inl (Nat.le_refl _)⟩, Lib.hid (QH.out.more (by omega)), Lib.hid (QS.out.more (by omega)), QG⟩
  case round =>
    clear Q0 Q1 QO QG QS QH
    obtain ⟨k, F, A, nb, cb, lo', hi', hk, rfl, Q0, Q1, QO, QR, QH, QS, QG⟩ := hrel
    have hC8 := HC.out
    have hzg := QG.out.size
    obtain ⟨c0, c1, c2, c3, c4, c5, c6, c7⟩ := Q0.out.eight
    by_cases hk0 : 0 < k
    · have hki : (0 : Int) < (k : Int) := by omega
      have hlen := QH.out.len
      have hnb : F.bs.length = nb := by obtain ⟨_, _, _, e, _, _, h, _⟩ := QO.out; injection e with _ e _; omega
      rw [hnb] at hlen
      have hm4 : min 4 (nb : Int) = 4 := by omega
      have HMIN := Lib.hid (fun (W : World) => (show Calls Try.prog 41 #[.int .i64 4, .int .i64 (nb : Int)] W fun e w' => e = .returned (.int .i64 4) ∧ W = w' from by have := minr_any 4 (nb : Int) W; rw [hm4] at this; exact this))
      have hd : F.d = 2 ∨ F.d = 3 := by have := QH.out.1.1; omega
      obtain ⟨q, hq, hq1, hq2⟩ : ∃ q : Int, max 1 (F.d - 1) = q ∧ 1 ≤ q ∧ q ≤ 2 := ⟨max 1 (F.d - 1), rfl, by omega, by omega⟩
      have HMAX := Lib.hid (fun (W : World) => (show Calls Try.prog 40 #[.int .i64 1, .int .i64 (F.d - 1)] W fun e w' => e = .returned (.int .i64 q) ∧ W = w' from by have := maxr_any 1 (F.d - 1) W; rw [hq] at this; exact this))
      obtain ⟨hd2, hd3⟩ : 2 ≤ F.d ∧ F.d ≤ 3 := QH.out.1.1
      have hb3 : (nb : Int) ≤ 36 := by omega
      have hgw : w.heap.size ≠ g := by omega
      clear hq hm4 hd
      go_wp2_with fail
      have hwd : IntKind.i64.wrap (F.d - 1) = F.d - 1 := IntWalk.i64_in _ (by omega)
      refine wp_region_held_drew (S := fun W => Rw W w.heap.size 28 #[.int .i64 F.d, .int .i64 F.b, .int .i64 F.p, .slice A nb cb, .int .i64 F.fu, .int .i64 F.ke, .bool F.off, .int .i64 F.op]) (by kernel_rfl) (show Rw wr.drew _ _ _ from Q0.out) (fun hHeld => ?_)
      refine wpAnyH_take (i := 0) (oi := _) (v := .pointer (some ⟨g, 0, none⟩)) rfl (by kernel_rfl) (by kernel_rfl) (by kernel_rfl) (fun _ _ _ h => h) (Or.inl ⟨by rfl, fun W hSw => by go_simp⟩) hHeld ?_
      refine wpAnyH_take (i := 1) (oi := _) (v := .pointer (some ⟨w.heap.size, 3, none⟩)) rfl (by kernel_rfl) (by kernel_rfl) (by kernel_rfl) (fun _ _ _ h => h) (Or.inl ⟨by rfl, fun W hSw => by go_simp⟩) hHeld ?_
      refine wpAnyH_take (i := 2) (oi := _) (v := .slice A nb cb) rfl (by kernel_rfl) (by kernel_rfl) (by kernel_rfl) (fun _ _ _ h => h) (Or.inl ⟨by rfl, fun W hSw => by obtain ⟨q0, q1, q2, q3, q4, q5, q6, q7⟩ := hSw.eight; go_simp⟩) hHeld ?_
      refine wpAnyH_take (i := 3) (oi := _) (v := .int .i64 (nb : Int)) rfl (by kernel_rfl) (by kernel_rfl) (by kernel_rfl) (fun _ _ _ h => h) (Or.inl ⟨by rfl, fun W hSw => by go_simp⟩) hHeld ?_
      refine wpAnyH_take (i := 6) (oi := _) (v := .pointer (some ⟨w.heap.size, 0, none⟩)) rfl (by kernel_rfl) (by kernel_rfl) (by kernel_rfl) (fun _ _ _ h => h) (Or.inl ⟨by rfl, fun W hSw => by go_simp⟩) hHeld ?_
      refine wpAnyH_take (i := 7) (oi := _) (v := .pointer (some ⟨w.heap.size, 0, none⟩)) rfl (by kernel_rfl) (by kernel_rfl) (by kernel_rfl) (fun _ _ _ h => h) (Or.inl ⟨by rfl, fun W hSw => by go_simp⟩) hHeld ?_
      refine wpAnyH_take (i := 8) (oi := _) (v := .int .i64 F.d) rfl (by kernel_rfl) (by kernel_rfl) (by kernel_rfl) (fun _ _ _ h => h) (Or.inl ⟨by rfl, fun W hSw => by obtain ⟨q0, q1, q2, q3, q4, q5, q6, q7⟩ := hSw.eight; go_simp⟩) hHeld ?_
      refine wpAnyH_take (i := 9) (oi := _) (v := .int .i64 (F.d - 1)) rfl (by kernel_rfl) (by kernel_rfl) (by kernel_rfl) (fun _ _ _ h => h) (Or.inl ⟨by rfl, fun W hSw => by go_simp⟩) hHeld ?_
      refine wpAnyH_ready (rs := [4]) (by kernel_rfl) (by simp) ?_
      refine AllReadyH.cons (o := _) rfl (fun K hK => ?_) AllReadyH.nil
      go_simp
      refine (HMIN.out _).mono ?_
      rintro e w' ⟨rfl, rfl⟩
      refine hK.out _ _ (show Rw wr.drew _ _ _ from Q0.out) (fun hHeld => ?_)
      clear hK K
      refine wpAnyH_ready (rs := [5]) (by kernel_rfl) (by simp) ?_
      refine AllReadyH.cons (o := _) rfl (fun K hK => ?_) AllReadyH.nil
      go_simp
      refine (pick_any B g _ 4 wr.drew QS.out (by omega) (by omega) (by omega)).mono ?_
      rintro e w6 ⟨v6, rfl, ⟨z, rfl, hz0, hz1⟩, hS6, hg6⟩
      rw [P4.out] at hz1
      have hg6 := grown_drewL hg6
      have Q06 := Lib.hid (Q0.out.grown hg6 hgw)
      refine hK.out _ _ Q06.out (fun hHeld => ?_)
      clear hK K
      refine wpAnyH_ready (rs := [10]) (by kernel_rfl) (by simp) ?_
      refine AllReadyH.cons (o := _) rfl (fun K hK => ?_) AllReadyH.nil
      go_simp
      refine (HMAX.out _).mono ?_
      rintro e w' ⟨rfl, rfl⟩
      refine hK.out _ _ Q06.out (fun hHeld => ?_)
      clear hK K
      obtain ⟨bk, hbk, hbl⟩ : ∃ bk : Nat, z * q = (bk : Int) ∧ bk < nb := by
        have hcase : q = 1 ∨ q = 2 := by omega
        rcases hcase with h | h <;> subst h
        · exact ⟨z.toNat, by omega, by omega⟩
        · exact ⟨(z * 2).toNat, by omega, by omega⟩
      have hwb : IntKind.i64.wrap (bk : Int) = bk := IntWalk.i64_in _ (by omega)
      refine wpAnyH_ready (rs := [11]) (by kernel_rfl) (by simp) ?_
      refine AllReadyH.cons (o := _) rfl (fun K hK => ?_) AllReadyH.nil
      go_simp
      refine hK.out _ _ Q06.out (fun hHeld => ?_)
      clear hK K
      refine wpAnyH_ready (rs := [12]) (by kernel_rfl) (by simp) ?_
      refine AllReadyH.cons (o := _) rfl (fun K hK => ?_) AllReadyH.nil
      go_simp
      refine hK.out _ _ Q06.out (fun hHeld => ?_)
      clear hK K
      refine wpAnyH_done (by kernel_rfl) ?_ _
      clear hHeld hbk hz0 hz1 hwd hwb c0 c1 c2 c3 c4 c5 c6 c7 HMIN HMAX hq1 hq2
      have hR := QR.out
      have Q16 := Lib.hid (Q1.out.grown hg6 (by omega))
      have QO6 := Lib.hid (QO.out.same (same_above hg6 (by omega) hR.2.1))
      have QG6 := Lib.hid (grown_trans QG.out hg6)
      have QS6 := Lib.hid hS6
      have hsz6 := hg6.size
      clear Q0 Q1 QO QG QS hg6 hS6
      obtain ⟨d0, d1, d2, d3, d4, d5, d6, d7⟩ := Q06.out.eight
      obtain ⟨A1, n1, c1, ea, hn1, hn2, hn3, hbo⟩ := QO6.out
      injection ea with ea1 ea2 ea3
      subst ea1 ea2 ea3
      obtain ⟨g1, pv, rfl, hBO⟩ := hbo (by omega)
      obtain ⟨x0, x1, x2, x3⟩ := hBO.row bk (by omega)
      generalize hnx : (F.bs.getD bk Blk.zero).nx = nx at x1
      have hbki : (bk : Int) < (nb : Int) := by omega
      have hbkn : (bk : Int) ≤ 36 := by omega
      clear hbo hBO x0 x2 x3
      go_wp2_with fail
-- GEN
      have Q0 := Lib.hid (Q06.out.alloc (.cells #[.int .i64 0, .int .i64 0, .int .i64 0, .slice none 0 0, .int .i64 0, .int .i64 0, .bool false, .int .i64 0] 28))
      have Q1 := Lib.hid (Q16.out.alloc (.cells #[.int .i64 0, .int .i64 0, .int .i64 0, .slice none 0 0, .int .i64 0, .int .i64 0, .bool false, .int .i64 0] 28))
      have RX := Lib.hid (Rw.new w6 28 #[.int .i64 0, .int .i64 0, .int .i64 0, .slice none 0 0, .int .i64 0, .int .i64 0, .bool false, .int .i64 0])
      have ba := (Below.refl w6.heap.size w6).alloc (Nat.le_refl _) (.cells #[.int .i64 0, .int .i64 0, .int .i64 0, .slice none 0 0, .int .i64 0, .int .i64 0, .bool false, .int .i64 0] 28)
      have QO := Lib.hid (QO6.out.same (sm ba _ (by have := QR.out; omega)))
      have QG := Lib.hid (grown_below QG6.out (ba.mono QG6.out.size))
      have QS := Lib.hid (QS6.out.keep ba)
      have sza := ba.size
      simp only [World.size_alloc] at sza
      have hszw : w.heap.size + 2 ≤ w6.heap.size := by have := Q16.out.lt; omega
      clear ba Q06 Q16 QO6 QG6 QS6 d0 d1 d2 d3 d4 d5 d6 d7 x1 hnx
      refine (one_any B g _ 7 _ QS.out (by omega) (by omega) (by omega)).mono ?_
      rintro e w7 ⟨v7, rfl, ⟨bb, rfl⟩, hS7, hg7⟩
      have sz_a : w6.heap.size + 1 ≤ w7.heap.size := by have := hg7.size; simpa using this
      have Q0 := Lib.hid (Q0.out.grown hg7 (by omega))
      have Q1 := Lib.hid (Q1.out.grown hg7 (by omega))
      have RX := Lib.hid (RX.out.grown hg7 (by omega))
      have QO := Lib.hid (QO.out.same (same_above hg7 (by have := QR.out; omega) (by have := QR.out; simp; omega)))
      have QG := Lib.hid (grown_trans QG.out hg7)
      have QS := Lib.hid hS7
      clear hg7 hS7
      obtain ⟨d0, d1, d2, d3, d4, d5, d6, d7⟩ := Q0.out.eight
      cases bb
      case' true =>
        clear d0 d1 d2 d3 d4 d5 d6 d7
        obtain ⟨G, c, hG⟩ := eraEnds F (bk : Int)
        obtain ⟨d0, d1, d2, d3, d4, d5, d6, d7⟩ := Q0.out.eight
        go_wp2_with fail
        refine (specEra_any _ _ F G c w7 lo' hi' ⟨_, rfl, QO.out.reads⟩ (by have := QR.out; omega) hG QH.out.lens).mono ?_
        rintro e w9 ⟨u, rfl, ho, b9⟩
        clear d0 d1 d2 d3 d4 d5 d6 d7
        have sz_b9 := b9.size
        have Q0 := Lib.hid (Q0.out.below b9 Q0.out.lt)
        have Q1 := Lib.hid (Q1.out.below b9 Q1.out.lt)
        have RX := Lib.hid (RX.out.below b9 RX.out.lt)
        have QO := Lib.hid (QO.out.same (sm b9 _ (by have := QR.out; omega)))
        have QG := Lib.hid (grown_below QG.out (b9.mono QG.out.size))
        have QS := Lib.hid (QS.out.keep b9)
        clear b9
        obtain ⟨uo, rfl, hown⟩ := ho
        obtain ⟨ga, gn, gc, rfl⟩ := hown.slice
        unfold flc
        have HOWN := Lib.hid hown
        clear hown
        obtain ⟨a0, a1, a2, a3, a4, a5, a6, a7⟩ := RX.out.eight
        obtain ⟨f0, f1, f2, f3, f4, f5, f6, f7⟩ := RX.out.frees
        go_upto_region 12 with fail
        clear a0 a1 a2 a3 a4 a5 a6 a7 f0 f1 f2 f3 f4 f5 f6 f7
        have RX2 := Lib.hid (show Rw ((((((((w9.setCell ⟨w6.heap.size, 0, none⟩ (.int .i64 G.d)).setCell ⟨w6.heap.size, 1, none⟩ (.int .i64 G.b)).setCell ⟨w6.heap.size, 2, none⟩ (.int .i64 G.p)).setCell ⟨w6.heap.size, 3, none⟩ (.slice ga gn gc)).setCell ⟨w6.heap.size, 4, none⟩ (.int .i64 G.fu)).setCell ⟨w6.heap.size, 5, none⟩ (.int .i64 G.ke)).setCell ⟨w6.heap.size, 6, none⟩ (.bool G.off)).setCell ⟨w6.heap.size, 7, none⟩ (.int .i64 G.op)) w6.heap.size _ _ from RX.out.put8 (.int .i64 G.d) (.int .i64 G.b) (.int .i64 G.p) (.slice ga gn gc) (.int .i64 G.fu) (.int .i64 G.ke) (.bool G.off) (.int .i64 G.op))
        have Q02 := Lib.hid (show Rw ((((((((w9.setCell ⟨w6.heap.size, 0, none⟩ (.int .i64 G.d)).setCell ⟨w6.heap.size, 1, none⟩ (.int .i64 G.b)).setCell ⟨w6.heap.size, 2, none⟩ (.int .i64 G.p)).setCell ⟨w6.heap.size, 3, none⟩ (.slice ga gn gc)).setCell ⟨w6.heap.size, 4, none⟩ (.int .i64 G.fu)).setCell ⟨w6.heap.size, 5, none⟩ (.int .i64 G.ke)).setCell ⟨w6.heap.size, 6, none⟩ (.bool G.off)).setCell ⟨w6.heap.size, 7, none⟩ (.int .i64 G.op)) w.heap.size _ _ from ((((((((Q0.out).farA (by omega) _).farA (by omega) _).farA (by omega) _).farA (by omega) _).farA (by omega) _).farA (by omega) _).farA (by omega) _).farA (by omega) _)
        have Q12 := Lib.hid (show Rw ((((((((w9.setCell ⟨w6.heap.size, 0, none⟩ (.int .i64 G.d)).setCell ⟨w6.heap.size, 1, none⟩ (.int .i64 G.b)).setCell ⟨w6.heap.size, 2, none⟩ (.int .i64 G.p)).setCell ⟨w6.heap.size, 3, none⟩ (.slice ga gn gc)).setCell ⟨w6.heap.size, 4, none⟩ (.int .i64 G.fu)).setCell ⟨w6.heap.size, 5, none⟩ (.int .i64 G.ke)).setCell ⟨w6.heap.size, 6, none⟩ (.bool G.off)).setCell ⟨w6.heap.size, 7, none⟩ (.int .i64 G.op)) (w.heap.size + 1) _ _ from ((((((((Q1.out).farA (by omega) _).farA (by omega) _).farA (by omega) _).farA (by omega) _).farA (by omega) _).farA (by omega) _).farA (by omega) _).farA (by omega) _)
        have QO2 := Lib.hid (QO.out.same (w' := ((((((((w9.setCell ⟨w6.heap.size, 0, none⟩ (.int .i64 G.d)).setCell ⟨w6.heap.size, 1, none⟩ (.int .i64 G.b)).setCell ⟨w6.heap.size, 2, none⟩ (.int .i64 G.p)).setCell ⟨w6.heap.size, 3, none⟩ (.slice ga gn gc)).setCell ⟨w6.heap.size, 4, none⟩ (.int .i64 G.fu)).setCell ⟨w6.heap.size, 5, none⟩ (.int .i64 G.ke)).setCell ⟨w6.heap.size, 6, none⟩ (.bool G.off)).setCell ⟨w6.heap.size, 7, none⟩ (.int .i64 G.op))) (by (repeat refine sset ?_ (.inr (by have := QR.out; omega)) _); exact Same.refl _ _ _))
        have HOWN2 := Lib.hid (HOWN.out.same (w' := ((((((((w9.setCell ⟨w6.heap.size, 0, none⟩ (.int .i64 G.d)).setCell ⟨w6.heap.size, 1, none⟩ (.int .i64 G.b)).setCell ⟨w6.heap.size, 2, none⟩ (.int .i64 G.p)).setCell ⟨w6.heap.size, 3, none⟩ (.slice ga gn gc)).setCell ⟨w6.heap.size, 4, none⟩ (.int .i64 G.fu)).setCell ⟨w6.heap.size, 5, none⟩ (.int .i64 G.ke)).setCell ⟨w6.heap.size, 6, none⟩ (.bool G.off)).setCell ⟨w6.heap.size, 7, none⟩ (.int .i64 G.op))) (by (repeat refine sset ?_ (.inl (by omega)) _); exact Same.refl _ _ _))
        have QS2 := Lib.hid (QS.out.keepS (w' := ((((((((w9.setCell ⟨w6.heap.size, 0, none⟩ (.int .i64 G.d)).setCell ⟨w6.heap.size, 1, none⟩ (.int .i64 G.b)).setCell ⟨w6.heap.size, 2, none⟩ (.int .i64 G.p)).setCell ⟨w6.heap.size, 3, none⟩ (.slice ga gn gc)).setCell ⟨w6.heap.size, 4, none⟩ (.int .i64 G.fu)).setCell ⟨w6.heap.size, 5, none⟩ (.int .i64 G.ke)).setCell ⟨w6.heap.size, 6, none⟩ (.bool G.off)).setCell ⟨w6.heap.size, 7, none⟩ (.int .i64 G.op))) (by (repeat refine sset ?_ (.inr (by omega)) _); exact Same.refl _ _ _) (by simp))
        have QG2 : Hid (w.grownBy ((((((((w9.setCell ⟨w6.heap.size, 0, none⟩ (.int .i64 G.d)).setCell ⟨w6.heap.size, 1, none⟩ (.int .i64 G.b)).setCell ⟨w6.heap.size, 2, none⟩ (.int .i64 G.p)).setCell ⟨w6.heap.size, 3, none⟩ (.slice ga gn gc)).setCell ⟨w6.heap.size, 4, none⟩ (.int .i64 G.fu)).setCell ⟨w6.heap.size, 5, none⟩ (.int .i64 G.ke)).setCell ⟨w6.heap.size, 6, none⟩ (.bool G.off)).setCell ⟨w6.heap.size, 7, none⟩ (.int .i64 G.op)) (some g)) := Lib.hid (by
          repeat refine grown_out ?_ (by omega) _
          exact QG.out)
        have szW : ((((((((w9.setCell ⟨w6.heap.size, 0, none⟩ (.int .i64 G.d)).setCell ⟨w6.heap.size, 1, none⟩ (.int .i64 G.b)).setCell ⟨w6.heap.size, 2, none⟩ (.int .i64 G.p)).setCell ⟨w6.heap.size, 3, none⟩ (.slice ga gn gc)).setCell ⟨w6.heap.size, 4, none⟩ (.int .i64 G.fu)).setCell ⟨w6.heap.size, 5, none⟩ (.int .i64 G.ke)).setCell ⟨w6.heap.size, 6, none⟩ (.bool G.off)).setCell ⟨w6.heap.size, 7, none⟩ (.int .i64 G.op)).heap.size = w9.heap.size := by simp
        obtain ⟨w10, hw10⟩ : ∃ x, x = ((((((((w9.setCell ⟨w6.heap.size, 0, none⟩ (.int .i64 G.d)).setCell ⟨w6.heap.size, 1, none⟩ (.int .i64 G.b)).setCell ⟨w6.heap.size, 2, none⟩ (.int .i64 G.p)).setCell ⟨w6.heap.size, 3, none⟩ (.slice ga gn gc)).setCell ⟨w6.heap.size, 4, none⟩ (.int .i64 G.fu)).setCell ⟨w6.heap.size, 5, none⟩ (.int .i64 G.ke)).setCell ⟨w6.heap.size, 6, none⟩ (.bool G.off)).setCell ⟨w6.heap.size, 7, none⟩ (.int .i64 G.op)) := ⟨_, rfl⟩
        rw [← hw10] at RX2 Q02 Q12 QO2 HOWN2 QS2 QG2 szW ⊢
        clear hw10 RX Q0 Q1 QO HOWN QS QG
        by_cases hc : c = 0 ∨ c = 8
        · have HSH := Lib.hid (QH.out.erase (by omega) hG hc)
          obtain ⟨n0, n1, n2, n3, n4, n5, n6, n7⟩ := RX2.out.eight
          obtain ⟨m0, m1, m2, m3, m4, m5, m6, m7⟩ := Q02.out.eight
          obtain ⟨fm0, fm1, fm2, fm3, fm4, fm5, fm6, fm7⟩ := Q02.out.frees
          clear hG
          rcases hc with rfl | rfl
          · go_wp2
            go_roundw
            case rel =>
              have own2 := HOWN2.out.same (w' := ((((((((w10.setCell ⟨w.heap.size, 0, none⟩ (.int .i64 G.d)).setCell ⟨w.heap.size, 1, none⟩ (.int .i64 G.b)).setCell ⟨w.heap.size, 2, none⟩ (.int .i64 G.p)).setCell ⟨w.heap.size, 3, none⟩ (.slice ga gn gc)).setCell ⟨w.heap.size, 4, none⟩ (.int .i64 G.fu)).setCell ⟨w.heap.size, 5, none⟩ (.int .i64 G.ke)).setCell ⟨w.heap.size, 6, none⟩ (.bool G.off)).setCell ⟨w.heap.size, 7, none⟩ (.int .i64 G.op))) (by (repeat refine sset ?_ (.inl (by omega)) _); exact Same.refl _ _ _)
              have one2 : Rw ((((((((w10.setCell ⟨w.heap.size, 0, none⟩ (.int .i64 G.d)).setCell ⟨w.heap.size, 1, none⟩ (.int .i64 G.b)).setCell ⟨w.heap.size, 2, none⟩ (.int .i64 G.p)).setCell ⟨w.heap.size, 3, none⟩ (.slice ga gn gc)).setCell ⟨w.heap.size, 4, none⟩ (.int .i64 G.fu)).setCell ⟨w.heap.size, 5, none⟩ (.int .i64 G.ke)).setCell ⟨w.heap.size, 6, none⟩ (.bool G.off)).setCell ⟨w.heap.size, 7, none⟩ (.int .i64 G.op)) (w.heap.size + 1) _ _ := ((((((((Q12.out).farA (g' := w.heap.size) (by omega) _).farA (g' := w.heap.size) (by omega) _).farA (g' := w.heap.size) (by omega) _).farA (g' := w.heap.size) (by omega) _).farA (g' := w.heap.size) (by omega) _).farA (g' := w.heap.size) (by omega) _).farA (g' := w.heap.size) (by omega) _).farA (g' := w.heap.size) (by omega) _
              have src2 := QS2.out.keepS (w' := ((((((((w10.setCell ⟨w.heap.size, 0, none⟩ (.int .i64 G.d)).setCell ⟨w.heap.size, 1, none⟩ (.int .i64 G.b)).setCell ⟨w.heap.size, 2, none⟩ (.int .i64 G.p)).setCell ⟨w.heap.size, 3, none⟩ (.slice ga gn gc)).setCell ⟨w.heap.size, 4, none⟩ (.int .i64 G.fu)).setCell ⟨w.heap.size, 5, none⟩ (.int .i64 G.ke)).setCell ⟨w.heap.size, 6, none⟩ (.bool G.off)).setCell ⟨w.heap.size, 7, none⟩ (.int .i64 G.op))) (by (repeat refine sset ?_ (.inr (by omega)) _); exact Same.refl _ _ _) (by simp)
              have gr2 : w.grownBy ((((((((w10.setCell ⟨w.heap.size, 0, none⟩ (.int .i64 G.d)).setCell ⟨w.heap.size, 1, none⟩ (.int .i64 G.b)).setCell ⟨w.heap.size, 2, none⟩ (.int .i64 G.p)).setCell ⟨w.heap.size, 3, none⟩ (.slice ga gn gc)).setCell ⟨w.heap.size, 4, none⟩ (.int .i64 G.fu)).setCell ⟨w.heap.size, 5, none⟩ (.int .i64 G.ke)).setCell ⟨w.heap.size, 6, none⟩ (.bool G.off)).setCell ⟨w.heap.size, 7, none⟩ (.int .i64 G.op)) (some g) := by
                repeat refine grown_out ?_ (by omega) _
                exact QG2.out
              exact ⟨k - 1, G, _, _, _, _, _, by omega, by go_num, Lib.hid (Q02.out.put8 _ _ _ _ _ _ _ _), Lib.hid one2, Lib.hid own2, Lib.hid (by have := QR.out; simp; omega), Lib.hid (HSH.out.more (by omega)), Lib.hid (src2.more (by omega)), Lib.hid gr2⟩
            case measure => simp [intOf]; omega
          · go_wp2
            go_roundw
            case rel =>
              have own2 := HOWN2.out.same (w' := ((((((((w10.setCell ⟨w.heap.size, 0, none⟩ (.int .i64 G.d)).setCell ⟨w.heap.size, 1, none⟩ (.int .i64 G.b)).setCell ⟨w.heap.size, 2, none⟩ (.int .i64 G.p)).setCell ⟨w.heap.size, 3, none⟩ (.slice ga gn gc)).setCell ⟨w.heap.size, 4, none⟩ (.int .i64 G.fu)).setCell ⟨w.heap.size, 5, none⟩ (.int .i64 G.ke)).setCell ⟨w.heap.size, 6, none⟩ (.bool G.off)).setCell ⟨w.heap.size, 7, none⟩ (.int .i64 G.op))) (by (repeat refine sset ?_ (.inl (by omega)) _); exact Same.refl _ _ _)
              have one2 : Rw ((((((((w10.setCell ⟨w.heap.size, 0, none⟩ (.int .i64 G.d)).setCell ⟨w.heap.size, 1, none⟩ (.int .i64 G.b)).setCell ⟨w.heap.size, 2, none⟩ (.int .i64 G.p)).setCell ⟨w.heap.size, 3, none⟩ (.slice ga gn gc)).setCell ⟨w.heap.size, 4, none⟩ (.int .i64 G.fu)).setCell ⟨w.heap.size, 5, none⟩ (.int .i64 G.ke)).setCell ⟨w.heap.size, 6, none⟩ (.bool G.off)).setCell ⟨w.heap.size, 7, none⟩ (.int .i64 G.op)) (w.heap.size + 1) _ _ := ((((((((Q12.out).farA (g' := w.heap.size) (by omega) _).farA (g' := w.heap.size) (by omega) _).farA (g' := w.heap.size) (by omega) _).farA (g' := w.heap.size) (by omega) _).farA (g' := w.heap.size) (by omega) _).farA (g' := w.heap.size) (by omega) _).farA (g' := w.heap.size) (by omega) _).farA (g' := w.heap.size) (by omega) _
              have src2 := QS2.out.keepS (w' := ((((((((w10.setCell ⟨w.heap.size, 0, none⟩ (.int .i64 G.d)).setCell ⟨w.heap.size, 1, none⟩ (.int .i64 G.b)).setCell ⟨w.heap.size, 2, none⟩ (.int .i64 G.p)).setCell ⟨w.heap.size, 3, none⟩ (.slice ga gn gc)).setCell ⟨w.heap.size, 4, none⟩ (.int .i64 G.fu)).setCell ⟨w.heap.size, 5, none⟩ (.int .i64 G.ke)).setCell ⟨w.heap.size, 6, none⟩ (.bool G.off)).setCell ⟨w.heap.size, 7, none⟩ (.int .i64 G.op))) (by (repeat refine sset ?_ (.inr (by omega)) _); exact Same.refl _ _ _) (by simp)
              have gr2 : w.grownBy ((((((((w10.setCell ⟨w.heap.size, 0, none⟩ (.int .i64 G.d)).setCell ⟨w.heap.size, 1, none⟩ (.int .i64 G.b)).setCell ⟨w.heap.size, 2, none⟩ (.int .i64 G.p)).setCell ⟨w.heap.size, 3, none⟩ (.slice ga gn gc)).setCell ⟨w.heap.size, 4, none⟩ (.int .i64 G.fu)).setCell ⟨w.heap.size, 5, none⟩ (.int .i64 G.ke)).setCell ⟨w.heap.size, 6, none⟩ (.bool G.off)).setCell ⟨w.heap.size, 7, none⟩ (.int .i64 G.op)) (some g) := by
                repeat refine grown_out ?_ (by omega) _
                exact QG2.out
              exact ⟨k - 1, G, _, _, _, _, _, by omega, by go_num, Lib.hid (Q02.out.put8 _ _ _ _ _ _ _ _), Lib.hid one2, Lib.hid own2, Lib.hid (by have := QR.out; simp; omega), Lib.hid (HSH.out.more (by omega)), Lib.hid (src2.more (by omega)), Lib.hid gr2⟩
            case measure => simp [intOf]; omega
        · have hc0 : (c == 0) = false := by simp; omega
          have hc8 : (c == 8) = false := by simp; omega
          clear hG
          go_wp2
          go_roundw
          case rel => exact ⟨k - 1, F, _, _, _, _, _, by omega, by go_num, Q02, Q12, QO2, Lib.hid (by have := QR.out; omega), Lib.hid (QH.out.more (by omega)), Lib.hid (QS2.out.more (by omega)), QG2⟩
          case measure => simp [intOf]; omega
      case' false =>
        by_cases hge : F.p ≤ nx
        · have hgeb : decide (nx ≥ F.p) = true := by simp; omega
          clear d0 d1 d3 d4 d5 d6 d7
          obtain ⟨G, c, hG⟩ := eraEnds F (bk : Int)
          obtain ⟨d0, d1, d2, d3, d4, d5, d6, d7⟩ := Q0.out.eight
          go_wp2_with fail
          refine (specEra_any _ _ F G c w7 lo' hi' ⟨_, rfl, QO.out.reads⟩ (by have := QR.out; omega) hG QH.out.lens).mono ?_
          rintro e w9 ⟨u, rfl, ho, b9⟩
          clear d0 d1 d2 d3 d4 d5 d6 d7
          have sz_b9 := b9.size
          have Q0 := Lib.hid (Q0.out.below b9 Q0.out.lt)
          have Q1 := Lib.hid (Q1.out.below b9 Q1.out.lt)
          have RX := Lib.hid (RX.out.below b9 RX.out.lt)
          have QO := Lib.hid (QO.out.same (sm b9 _ (by have := QR.out; omega)))
          have QG := Lib.hid (grown_below QG.out (b9.mono QG.out.size))
          have QS := Lib.hid (QS.out.keep b9)
          clear b9
          obtain ⟨uo, rfl, hown⟩ := ho
          obtain ⟨ga, gn, gc, rfl⟩ := hown.slice
          unfold flc
          have HOWN := Lib.hid hown
          clear hown
          obtain ⟨a0, a1, a2, a3, a4, a5, a6, a7⟩ := RX.out.eight
          obtain ⟨f0, f1, f2, f3, f4, f5, f6, f7⟩ := RX.out.frees
          go_upto_region 12 with fail
          clear a0 a1 a2 a3 a4 a5 a6 a7 f0 f1 f2 f3 f4 f5 f6 f7
          have RX2 := Lib.hid (show Rw ((((((((w9.setCell ⟨w6.heap.size, 0, none⟩ (.int .i64 G.d)).setCell ⟨w6.heap.size, 1, none⟩ (.int .i64 G.b)).setCell ⟨w6.heap.size, 2, none⟩ (.int .i64 G.p)).setCell ⟨w6.heap.size, 3, none⟩ (.slice ga gn gc)).setCell ⟨w6.heap.size, 4, none⟩ (.int .i64 G.fu)).setCell ⟨w6.heap.size, 5, none⟩ (.int .i64 G.ke)).setCell ⟨w6.heap.size, 6, none⟩ (.bool G.off)).setCell ⟨w6.heap.size, 7, none⟩ (.int .i64 G.op)) w6.heap.size _ _ from RX.out.put8 (.int .i64 G.d) (.int .i64 G.b) (.int .i64 G.p) (.slice ga gn gc) (.int .i64 G.fu) (.int .i64 G.ke) (.bool G.off) (.int .i64 G.op))
          have Q02 := Lib.hid (show Rw ((((((((w9.setCell ⟨w6.heap.size, 0, none⟩ (.int .i64 G.d)).setCell ⟨w6.heap.size, 1, none⟩ (.int .i64 G.b)).setCell ⟨w6.heap.size, 2, none⟩ (.int .i64 G.p)).setCell ⟨w6.heap.size, 3, none⟩ (.slice ga gn gc)).setCell ⟨w6.heap.size, 4, none⟩ (.int .i64 G.fu)).setCell ⟨w6.heap.size, 5, none⟩ (.int .i64 G.ke)).setCell ⟨w6.heap.size, 6, none⟩ (.bool G.off)).setCell ⟨w6.heap.size, 7, none⟩ (.int .i64 G.op)) w.heap.size _ _ from ((((((((Q0.out).farA (by omega) _).farA (by omega) _).farA (by omega) _).farA (by omega) _).farA (by omega) _).farA (by omega) _).farA (by omega) _).farA (by omega) _)
          have Q12 := Lib.hid (show Rw ((((((((w9.setCell ⟨w6.heap.size, 0, none⟩ (.int .i64 G.d)).setCell ⟨w6.heap.size, 1, none⟩ (.int .i64 G.b)).setCell ⟨w6.heap.size, 2, none⟩ (.int .i64 G.p)).setCell ⟨w6.heap.size, 3, none⟩ (.slice ga gn gc)).setCell ⟨w6.heap.size, 4, none⟩ (.int .i64 G.fu)).setCell ⟨w6.heap.size, 5, none⟩ (.int .i64 G.ke)).setCell ⟨w6.heap.size, 6, none⟩ (.bool G.off)).setCell ⟨w6.heap.size, 7, none⟩ (.int .i64 G.op)) (w.heap.size + 1) _ _ from ((((((((Q1.out).farA (by omega) _).farA (by omega) _).farA (by omega) _).farA (by omega) _).farA (by omega) _).farA (by omega) _).farA (by omega) _).farA (by omega) _)
          have QO2 := Lib.hid (QO.out.same (w' := ((((((((w9.setCell ⟨w6.heap.size, 0, none⟩ (.int .i64 G.d)).setCell ⟨w6.heap.size, 1, none⟩ (.int .i64 G.b)).setCell ⟨w6.heap.size, 2, none⟩ (.int .i64 G.p)).setCell ⟨w6.heap.size, 3, none⟩ (.slice ga gn gc)).setCell ⟨w6.heap.size, 4, none⟩ (.int .i64 G.fu)).setCell ⟨w6.heap.size, 5, none⟩ (.int .i64 G.ke)).setCell ⟨w6.heap.size, 6, none⟩ (.bool G.off)).setCell ⟨w6.heap.size, 7, none⟩ (.int .i64 G.op))) (by (repeat refine sset ?_ (.inr (by have := QR.out; omega)) _); exact Same.refl _ _ _))
          have HOWN2 := Lib.hid (HOWN.out.same (w' := ((((((((w9.setCell ⟨w6.heap.size, 0, none⟩ (.int .i64 G.d)).setCell ⟨w6.heap.size, 1, none⟩ (.int .i64 G.b)).setCell ⟨w6.heap.size, 2, none⟩ (.int .i64 G.p)).setCell ⟨w6.heap.size, 3, none⟩ (.slice ga gn gc)).setCell ⟨w6.heap.size, 4, none⟩ (.int .i64 G.fu)).setCell ⟨w6.heap.size, 5, none⟩ (.int .i64 G.ke)).setCell ⟨w6.heap.size, 6, none⟩ (.bool G.off)).setCell ⟨w6.heap.size, 7, none⟩ (.int .i64 G.op))) (by (repeat refine sset ?_ (.inl (by omega)) _); exact Same.refl _ _ _))
          have QS2 := Lib.hid (QS.out.keepS (w' := ((((((((w9.setCell ⟨w6.heap.size, 0, none⟩ (.int .i64 G.d)).setCell ⟨w6.heap.size, 1, none⟩ (.int .i64 G.b)).setCell ⟨w6.heap.size, 2, none⟩ (.int .i64 G.p)).setCell ⟨w6.heap.size, 3, none⟩ (.slice ga gn gc)).setCell ⟨w6.heap.size, 4, none⟩ (.int .i64 G.fu)).setCell ⟨w6.heap.size, 5, none⟩ (.int .i64 G.ke)).setCell ⟨w6.heap.size, 6, none⟩ (.bool G.off)).setCell ⟨w6.heap.size, 7, none⟩ (.int .i64 G.op))) (by (repeat refine sset ?_ (.inr (by omega)) _); exact Same.refl _ _ _) (by simp))
          have QG2 : Hid (w.grownBy ((((((((w9.setCell ⟨w6.heap.size, 0, none⟩ (.int .i64 G.d)).setCell ⟨w6.heap.size, 1, none⟩ (.int .i64 G.b)).setCell ⟨w6.heap.size, 2, none⟩ (.int .i64 G.p)).setCell ⟨w6.heap.size, 3, none⟩ (.slice ga gn gc)).setCell ⟨w6.heap.size, 4, none⟩ (.int .i64 G.fu)).setCell ⟨w6.heap.size, 5, none⟩ (.int .i64 G.ke)).setCell ⟨w6.heap.size, 6, none⟩ (.bool G.off)).setCell ⟨w6.heap.size, 7, none⟩ (.int .i64 G.op)) (some g)) := Lib.hid (by
            repeat refine grown_out ?_ (by omega) _
            exact QG.out)
          have szW : ((((((((w9.setCell ⟨w6.heap.size, 0, none⟩ (.int .i64 G.d)).setCell ⟨w6.heap.size, 1, none⟩ (.int .i64 G.b)).setCell ⟨w6.heap.size, 2, none⟩ (.int .i64 G.p)).setCell ⟨w6.heap.size, 3, none⟩ (.slice ga gn gc)).setCell ⟨w6.heap.size, 4, none⟩ (.int .i64 G.fu)).setCell ⟨w6.heap.size, 5, none⟩ (.int .i64 G.ke)).setCell ⟨w6.heap.size, 6, none⟩ (.bool G.off)).setCell ⟨w6.heap.size, 7, none⟩ (.int .i64 G.op)).heap.size = w9.heap.size := by simp
          obtain ⟨w10, hw10⟩ : ∃ x, x = ((((((((w9.setCell ⟨w6.heap.size, 0, none⟩ (.int .i64 G.d)).setCell ⟨w6.heap.size, 1, none⟩ (.int .i64 G.b)).setCell ⟨w6.heap.size, 2, none⟩ (.int .i64 G.p)).setCell ⟨w6.heap.size, 3, none⟩ (.slice ga gn gc)).setCell ⟨w6.heap.size, 4, none⟩ (.int .i64 G.fu)).setCell ⟨w6.heap.size, 5, none⟩ (.int .i64 G.ke)).setCell ⟨w6.heap.size, 6, none⟩ (.bool G.off)).setCell ⟨w6.heap.size, 7, none⟩ (.int .i64 G.op)) := ⟨_, rfl⟩
          rw [← hw10] at RX2 Q02 Q12 QO2 HOWN2 QS2 QG2 szW ⊢
          clear hw10 RX Q0 Q1 QO HOWN QS QG
          by_cases hc : c = 0 ∨ c = 8
          · have HSH := Lib.hid (QH.out.erase (by omega) hG hc)
            obtain ⟨n0, n1, n2, n3, n4, n5, n6, n7⟩ := RX2.out.eight
            obtain ⟨m0, m1, m2, m3, m4, m5, m6, m7⟩ := Q02.out.eight
            obtain ⟨fm0, fm1, fm2, fm3, fm4, fm5, fm6, fm7⟩ := Q02.out.frees
            clear hG
            rcases hc with rfl | rfl
            · go_wp2
              go_roundw
              case rel =>
                have own2 := HOWN2.out.same (w' := ((((((((w10.setCell ⟨w.heap.size, 0, none⟩ (.int .i64 G.d)).setCell ⟨w.heap.size, 1, none⟩ (.int .i64 G.b)).setCell ⟨w.heap.size, 2, none⟩ (.int .i64 G.p)).setCell ⟨w.heap.size, 3, none⟩ (.slice ga gn gc)).setCell ⟨w.heap.size, 4, none⟩ (.int .i64 G.fu)).setCell ⟨w.heap.size, 5, none⟩ (.int .i64 G.ke)).setCell ⟨w.heap.size, 6, none⟩ (.bool G.off)).setCell ⟨w.heap.size, 7, none⟩ (.int .i64 G.op))) (by (repeat refine sset ?_ (.inl (by omega)) _); exact Same.refl _ _ _)
                have one2 : Rw ((((((((w10.setCell ⟨w.heap.size, 0, none⟩ (.int .i64 G.d)).setCell ⟨w.heap.size, 1, none⟩ (.int .i64 G.b)).setCell ⟨w.heap.size, 2, none⟩ (.int .i64 G.p)).setCell ⟨w.heap.size, 3, none⟩ (.slice ga gn gc)).setCell ⟨w.heap.size, 4, none⟩ (.int .i64 G.fu)).setCell ⟨w.heap.size, 5, none⟩ (.int .i64 G.ke)).setCell ⟨w.heap.size, 6, none⟩ (.bool G.off)).setCell ⟨w.heap.size, 7, none⟩ (.int .i64 G.op)) (w.heap.size + 1) _ _ := ((((((((Q12.out).farA (g' := w.heap.size) (by omega) _).farA (g' := w.heap.size) (by omega) _).farA (g' := w.heap.size) (by omega) _).farA (g' := w.heap.size) (by omega) _).farA (g' := w.heap.size) (by omega) _).farA (g' := w.heap.size) (by omega) _).farA (g' := w.heap.size) (by omega) _).farA (g' := w.heap.size) (by omega) _
                have src2 := QS2.out.keepS (w' := ((((((((w10.setCell ⟨w.heap.size, 0, none⟩ (.int .i64 G.d)).setCell ⟨w.heap.size, 1, none⟩ (.int .i64 G.b)).setCell ⟨w.heap.size, 2, none⟩ (.int .i64 G.p)).setCell ⟨w.heap.size, 3, none⟩ (.slice ga gn gc)).setCell ⟨w.heap.size, 4, none⟩ (.int .i64 G.fu)).setCell ⟨w.heap.size, 5, none⟩ (.int .i64 G.ke)).setCell ⟨w.heap.size, 6, none⟩ (.bool G.off)).setCell ⟨w.heap.size, 7, none⟩ (.int .i64 G.op))) (by (repeat refine sset ?_ (.inr (by omega)) _); exact Same.refl _ _ _) (by simp)
                have gr2 : w.grownBy ((((((((w10.setCell ⟨w.heap.size, 0, none⟩ (.int .i64 G.d)).setCell ⟨w.heap.size, 1, none⟩ (.int .i64 G.b)).setCell ⟨w.heap.size, 2, none⟩ (.int .i64 G.p)).setCell ⟨w.heap.size, 3, none⟩ (.slice ga gn gc)).setCell ⟨w.heap.size, 4, none⟩ (.int .i64 G.fu)).setCell ⟨w.heap.size, 5, none⟩ (.int .i64 G.ke)).setCell ⟨w.heap.size, 6, none⟩ (.bool G.off)).setCell ⟨w.heap.size, 7, none⟩ (.int .i64 G.op)) (some g) := by
                  repeat refine grown_out ?_ (by omega) _
                  exact QG2.out
                exact ⟨k - 1, G, _, _, _, _, _, by omega, by go_num, Lib.hid (Q02.out.put8 _ _ _ _ _ _ _ _), Lib.hid one2, Lib.hid own2, Lib.hid (by have := QR.out; simp; omega), Lib.hid (HSH.out.more (by omega)), Lib.hid (src2.more (by omega)), Lib.hid gr2⟩
              case measure => simp [intOf]; omega
            · go_wp2
              go_roundw
              case rel =>
                have own2 := HOWN2.out.same (w' := ((((((((w10.setCell ⟨w.heap.size, 0, none⟩ (.int .i64 G.d)).setCell ⟨w.heap.size, 1, none⟩ (.int .i64 G.b)).setCell ⟨w.heap.size, 2, none⟩ (.int .i64 G.p)).setCell ⟨w.heap.size, 3, none⟩ (.slice ga gn gc)).setCell ⟨w.heap.size, 4, none⟩ (.int .i64 G.fu)).setCell ⟨w.heap.size, 5, none⟩ (.int .i64 G.ke)).setCell ⟨w.heap.size, 6, none⟩ (.bool G.off)).setCell ⟨w.heap.size, 7, none⟩ (.int .i64 G.op))) (by (repeat refine sset ?_ (.inl (by omega)) _); exact Same.refl _ _ _)
                have one2 : Rw ((((((((w10.setCell ⟨w.heap.size, 0, none⟩ (.int .i64 G.d)).setCell ⟨w.heap.size, 1, none⟩ (.int .i64 G.b)).setCell ⟨w.heap.size, 2, none⟩ (.int .i64 G.p)).setCell ⟨w.heap.size, 3, none⟩ (.slice ga gn gc)).setCell ⟨w.heap.size, 4, none⟩ (.int .i64 G.fu)).setCell ⟨w.heap.size, 5, none⟩ (.int .i64 G.ke)).setCell ⟨w.heap.size, 6, none⟩ (.bool G.off)).setCell ⟨w.heap.size, 7, none⟩ (.int .i64 G.op)) (w.heap.size + 1) _ _ := ((((((((Q12.out).farA (g' := w.heap.size) (by omega) _).farA (g' := w.heap.size) (by omega) _).farA (g' := w.heap.size) (by omega) _).farA (g' := w.heap.size) (by omega) _).farA (g' := w.heap.size) (by omega) _).farA (g' := w.heap.size) (by omega) _).farA (g' := w.heap.size) (by omega) _).farA (g' := w.heap.size) (by omega) _
                have src2 := QS2.out.keepS (w' := ((((((((w10.setCell ⟨w.heap.size, 0, none⟩ (.int .i64 G.d)).setCell ⟨w.heap.size, 1, none⟩ (.int .i64 G.b)).setCell ⟨w.heap.size, 2, none⟩ (.int .i64 G.p)).setCell ⟨w.heap.size, 3, none⟩ (.slice ga gn gc)).setCell ⟨w.heap.size, 4, none⟩ (.int .i64 G.fu)).setCell ⟨w.heap.size, 5, none⟩ (.int .i64 G.ke)).setCell ⟨w.heap.size, 6, none⟩ (.bool G.off)).setCell ⟨w.heap.size, 7, none⟩ (.int .i64 G.op))) (by (repeat refine sset ?_ (.inr (by omega)) _); exact Same.refl _ _ _) (by simp)
                have gr2 : w.grownBy ((((((((w10.setCell ⟨w.heap.size, 0, none⟩ (.int .i64 G.d)).setCell ⟨w.heap.size, 1, none⟩ (.int .i64 G.b)).setCell ⟨w.heap.size, 2, none⟩ (.int .i64 G.p)).setCell ⟨w.heap.size, 3, none⟩ (.slice ga gn gc)).setCell ⟨w.heap.size, 4, none⟩ (.int .i64 G.fu)).setCell ⟨w.heap.size, 5, none⟩ (.int .i64 G.ke)).setCell ⟨w.heap.size, 6, none⟩ (.bool G.off)).setCell ⟨w.heap.size, 7, none⟩ (.int .i64 G.op)) (some g) := by
                  repeat refine grown_out ?_ (by omega) _
                  exact QG2.out
                exact ⟨k - 1, G, _, _, _, _, _, by omega, by go_num, Lib.hid (Q02.out.put8 _ _ _ _ _ _ _ _), Lib.hid one2, Lib.hid own2, Lib.hid (by have := QR.out; simp; omega), Lib.hid (HSH.out.more (by omega)), Lib.hid (src2.more (by omega)), Lib.hid gr2⟩
              case measure => simp [intOf]; omega
          · have hc0 : (c == 0) = false := by simp; omega
            have hc8 : (c == 8) = false := by simp; omega
            clear hG
            go_wp2
            go_roundw
            case rel => exact ⟨k - 1, F, _, _, _, _, _, by omega, by go_num, Q02, Q12, QO2, Lib.hid (by have := QR.out; omega), Lib.hid (QH.out.more (by omega)), Lib.hid (QS2.out.more (by omega)), QG2⟩
            case measure => simp [intOf]; omega
        · have hgeb : decide (nx ≥ F.p) = false := by simp; omega
          go_wp2_with fail
          refine (l05Raw_any B g _ w7 QS.out (by omega)).mono ?_
          rintro e w8 ⟨v8, rfl, ⟨s, pg, rfl, hs, _, _⟩, hS8, hg8⟩
          clear d0 d1 d2 d3 d4 d5 d6 d7
          have sz_hg8 := hg8.size
          have Q0 := Lib.hid (Q0.out.grown hg8 (by omega))
          have Q1 := Lib.hid (Q1.out.grown hg8 (by omega))
          have RX := Lib.hid (RX.out.grown hg8 (by omega))
          have QO := Lib.hid (QO.out.same (same_above hg8 (by have := QR.out; omega) (by have := QR.out; omega)))
          have QG := Lib.hid (grown_trans QG.out hg8)
          have QS := Lib.hid hS8
          clear hg8 hS8
          by_cases h91 : s.size = 91
          · have h9 : ((s.size : Int) == 91) = true := by rw [h91]; rfl
            obtain ⟨G, c, hG⟩ := progEnds F (bk : Int) nx s
            obtain ⟨d0, d1, d2, d3, d4, d5, d6, d7⟩ := Q0.out.eight
            go_wp2_with fail
            refine (specProg_any _ _ _ _ F G c w8 lo' hi' ⟨_, rfl, QO.out.reads⟩ (by have := QR.out; omega) hG QH.out.lens (by omega)).mono ?_
            rintro e w9 ⟨u, rfl, ho, b9⟩
            clear d0 d1 d2 d3 d4 d5 d6 d7
            have sz_b9 := b9.size
            have Q0 := Lib.hid (Q0.out.below b9 Q0.out.lt)
            have Q1 := Lib.hid (Q1.out.below b9 Q1.out.lt)
            have RX := Lib.hid (RX.out.below b9 RX.out.lt)
            have QO := Lib.hid (QO.out.same (sm b9 _ (by have := QR.out; omega)))
            have QG := Lib.hid (grown_below QG.out (b9.mono QG.out.size))
            have QS := Lib.hid (QS.out.keep b9)
            clear b9
            obtain ⟨uo, rfl, hown⟩ := ho
            obtain ⟨ga, gn, gc, rfl⟩ := hown.slice
            unfold flc
            have HOWN := Lib.hid hown
            clear hown
            obtain ⟨a0, a1, a2, a3, a4, a5, a6, a7⟩ := RX.out.eight
            obtain ⟨f0, f1, f2, f3, f4, f5, f6, f7⟩ := RX.out.frees
            go_upto_region 12 with fail
            clear a0 a1 a2 a3 a4 a5 a6 a7 f0 f1 f2 f3 f4 f5 f6 f7
            have RX2 := Lib.hid (show Rw ((((((((w9.setCell ⟨w6.heap.size, 0, none⟩ (.int .i64 G.d)).setCell ⟨w6.heap.size, 1, none⟩ (.int .i64 G.b)).setCell ⟨w6.heap.size, 2, none⟩ (.int .i64 G.p)).setCell ⟨w6.heap.size, 3, none⟩ (.slice ga gn gc)).setCell ⟨w6.heap.size, 4, none⟩ (.int .i64 G.fu)).setCell ⟨w6.heap.size, 5, none⟩ (.int .i64 G.ke)).setCell ⟨w6.heap.size, 6, none⟩ (.bool G.off)).setCell ⟨w6.heap.size, 7, none⟩ (.int .i64 G.op)) w6.heap.size _ _ from RX.out.put8 (.int .i64 G.d) (.int .i64 G.b) (.int .i64 G.p) (.slice ga gn gc) (.int .i64 G.fu) (.int .i64 G.ke) (.bool G.off) (.int .i64 G.op))
            have Q02 := Lib.hid (show Rw ((((((((w9.setCell ⟨w6.heap.size, 0, none⟩ (.int .i64 G.d)).setCell ⟨w6.heap.size, 1, none⟩ (.int .i64 G.b)).setCell ⟨w6.heap.size, 2, none⟩ (.int .i64 G.p)).setCell ⟨w6.heap.size, 3, none⟩ (.slice ga gn gc)).setCell ⟨w6.heap.size, 4, none⟩ (.int .i64 G.fu)).setCell ⟨w6.heap.size, 5, none⟩ (.int .i64 G.ke)).setCell ⟨w6.heap.size, 6, none⟩ (.bool G.off)).setCell ⟨w6.heap.size, 7, none⟩ (.int .i64 G.op)) w.heap.size _ _ from ((((((((Q0.out).farA (by omega) _).farA (by omega) _).farA (by omega) _).farA (by omega) _).farA (by omega) _).farA (by omega) _).farA (by omega) _).farA (by omega) _)
            have Q12 := Lib.hid (show Rw ((((((((w9.setCell ⟨w6.heap.size, 0, none⟩ (.int .i64 G.d)).setCell ⟨w6.heap.size, 1, none⟩ (.int .i64 G.b)).setCell ⟨w6.heap.size, 2, none⟩ (.int .i64 G.p)).setCell ⟨w6.heap.size, 3, none⟩ (.slice ga gn gc)).setCell ⟨w6.heap.size, 4, none⟩ (.int .i64 G.fu)).setCell ⟨w6.heap.size, 5, none⟩ (.int .i64 G.ke)).setCell ⟨w6.heap.size, 6, none⟩ (.bool G.off)).setCell ⟨w6.heap.size, 7, none⟩ (.int .i64 G.op)) (w.heap.size + 1) _ _ from ((((((((Q1.out).farA (by omega) _).farA (by omega) _).farA (by omega) _).farA (by omega) _).farA (by omega) _).farA (by omega) _).farA (by omega) _).farA (by omega) _)
            have QO2 := Lib.hid (QO.out.same (w' := ((((((((w9.setCell ⟨w6.heap.size, 0, none⟩ (.int .i64 G.d)).setCell ⟨w6.heap.size, 1, none⟩ (.int .i64 G.b)).setCell ⟨w6.heap.size, 2, none⟩ (.int .i64 G.p)).setCell ⟨w6.heap.size, 3, none⟩ (.slice ga gn gc)).setCell ⟨w6.heap.size, 4, none⟩ (.int .i64 G.fu)).setCell ⟨w6.heap.size, 5, none⟩ (.int .i64 G.ke)).setCell ⟨w6.heap.size, 6, none⟩ (.bool G.off)).setCell ⟨w6.heap.size, 7, none⟩ (.int .i64 G.op))) (by (repeat refine sset ?_ (.inr (by have := QR.out; omega)) _); exact Same.refl _ _ _))
            have HOWN2 := Lib.hid (HOWN.out.same (w' := ((((((((w9.setCell ⟨w6.heap.size, 0, none⟩ (.int .i64 G.d)).setCell ⟨w6.heap.size, 1, none⟩ (.int .i64 G.b)).setCell ⟨w6.heap.size, 2, none⟩ (.int .i64 G.p)).setCell ⟨w6.heap.size, 3, none⟩ (.slice ga gn gc)).setCell ⟨w6.heap.size, 4, none⟩ (.int .i64 G.fu)).setCell ⟨w6.heap.size, 5, none⟩ (.int .i64 G.ke)).setCell ⟨w6.heap.size, 6, none⟩ (.bool G.off)).setCell ⟨w6.heap.size, 7, none⟩ (.int .i64 G.op))) (by (repeat refine sset ?_ (.inl (by omega)) _); exact Same.refl _ _ _))
            have QS2 := Lib.hid (QS.out.keepS (w' := ((((((((w9.setCell ⟨w6.heap.size, 0, none⟩ (.int .i64 G.d)).setCell ⟨w6.heap.size, 1, none⟩ (.int .i64 G.b)).setCell ⟨w6.heap.size, 2, none⟩ (.int .i64 G.p)).setCell ⟨w6.heap.size, 3, none⟩ (.slice ga gn gc)).setCell ⟨w6.heap.size, 4, none⟩ (.int .i64 G.fu)).setCell ⟨w6.heap.size, 5, none⟩ (.int .i64 G.ke)).setCell ⟨w6.heap.size, 6, none⟩ (.bool G.off)).setCell ⟨w6.heap.size, 7, none⟩ (.int .i64 G.op))) (by (repeat refine sset ?_ (.inr (by omega)) _); exact Same.refl _ _ _) (by simp))
            have QG2 : Hid (w.grownBy ((((((((w9.setCell ⟨w6.heap.size, 0, none⟩ (.int .i64 G.d)).setCell ⟨w6.heap.size, 1, none⟩ (.int .i64 G.b)).setCell ⟨w6.heap.size, 2, none⟩ (.int .i64 G.p)).setCell ⟨w6.heap.size, 3, none⟩ (.slice ga gn gc)).setCell ⟨w6.heap.size, 4, none⟩ (.int .i64 G.fu)).setCell ⟨w6.heap.size, 5, none⟩ (.int .i64 G.ke)).setCell ⟨w6.heap.size, 6, none⟩ (.bool G.off)).setCell ⟨w6.heap.size, 7, none⟩ (.int .i64 G.op)) (some g)) := Lib.hid (by
              repeat refine grown_out ?_ (by omega) _
              exact QG.out)
            have szW : ((((((((w9.setCell ⟨w6.heap.size, 0, none⟩ (.int .i64 G.d)).setCell ⟨w6.heap.size, 1, none⟩ (.int .i64 G.b)).setCell ⟨w6.heap.size, 2, none⟩ (.int .i64 G.p)).setCell ⟨w6.heap.size, 3, none⟩ (.slice ga gn gc)).setCell ⟨w6.heap.size, 4, none⟩ (.int .i64 G.fu)).setCell ⟨w6.heap.size, 5, none⟩ (.int .i64 G.ke)).setCell ⟨w6.heap.size, 6, none⟩ (.bool G.off)).setCell ⟨w6.heap.size, 7, none⟩ (.int .i64 G.op)).heap.size = w9.heap.size := by simp
            obtain ⟨w10, hw10⟩ : ∃ x, x = ((((((((w9.setCell ⟨w6.heap.size, 0, none⟩ (.int .i64 G.d)).setCell ⟨w6.heap.size, 1, none⟩ (.int .i64 G.b)).setCell ⟨w6.heap.size, 2, none⟩ (.int .i64 G.p)).setCell ⟨w6.heap.size, 3, none⟩ (.slice ga gn gc)).setCell ⟨w6.heap.size, 4, none⟩ (.int .i64 G.fu)).setCell ⟨w6.heap.size, 5, none⟩ (.int .i64 G.ke)).setCell ⟨w6.heap.size, 6, none⟩ (.bool G.off)).setCell ⟨w6.heap.size, 7, none⟩ (.int .i64 G.op)) := ⟨_, rfl⟩
            rw [← hw10] at RX2 Q02 Q12 QO2 HOWN2 QS2 QG2 szW ⊢
            clear hw10 RX Q0 Q1 QO HOWN QS QG
            by_cases hc : c = 0 ∨ c = 8
            · have HSH := Lib.hid (QH.out.prog (by omega) hG hc)
              obtain ⟨n0, n1, n2, n3, n4, n5, n6, n7⟩ := RX2.out.eight
              obtain ⟨m0, m1, m2, m3, m4, m5, m6, m7⟩ := Q02.out.eight
              obtain ⟨fm0, fm1, fm2, fm3, fm4, fm5, fm6, fm7⟩ := Q02.out.frees
              clear hG
              rcases hc with rfl | rfl
              · go_wp2
                go_roundw
                case rel =>
                  have own2 := HOWN2.out.same (w' := ((((((((w10.setCell ⟨w.heap.size, 0, none⟩ (.int .i64 G.d)).setCell ⟨w.heap.size, 1, none⟩ (.int .i64 G.b)).setCell ⟨w.heap.size, 2, none⟩ (.int .i64 G.p)).setCell ⟨w.heap.size, 3, none⟩ (.slice ga gn gc)).setCell ⟨w.heap.size, 4, none⟩ (.int .i64 G.fu)).setCell ⟨w.heap.size, 5, none⟩ (.int .i64 G.ke)).setCell ⟨w.heap.size, 6, none⟩ (.bool G.off)).setCell ⟨w.heap.size, 7, none⟩ (.int .i64 G.op))) (by (repeat refine sset ?_ (.inl (by omega)) _); exact Same.refl _ _ _)
                  have one2 : Rw ((((((((w10.setCell ⟨w.heap.size, 0, none⟩ (.int .i64 G.d)).setCell ⟨w.heap.size, 1, none⟩ (.int .i64 G.b)).setCell ⟨w.heap.size, 2, none⟩ (.int .i64 G.p)).setCell ⟨w.heap.size, 3, none⟩ (.slice ga gn gc)).setCell ⟨w.heap.size, 4, none⟩ (.int .i64 G.fu)).setCell ⟨w.heap.size, 5, none⟩ (.int .i64 G.ke)).setCell ⟨w.heap.size, 6, none⟩ (.bool G.off)).setCell ⟨w.heap.size, 7, none⟩ (.int .i64 G.op)) (w.heap.size + 1) _ _ := ((((((((Q12.out).farA (g' := w.heap.size) (by omega) _).farA (g' := w.heap.size) (by omega) _).farA (g' := w.heap.size) (by omega) _).farA (g' := w.heap.size) (by omega) _).farA (g' := w.heap.size) (by omega) _).farA (g' := w.heap.size) (by omega) _).farA (g' := w.heap.size) (by omega) _).farA (g' := w.heap.size) (by omega) _
                  have src2 := QS2.out.keepS (w' := ((((((((w10.setCell ⟨w.heap.size, 0, none⟩ (.int .i64 G.d)).setCell ⟨w.heap.size, 1, none⟩ (.int .i64 G.b)).setCell ⟨w.heap.size, 2, none⟩ (.int .i64 G.p)).setCell ⟨w.heap.size, 3, none⟩ (.slice ga gn gc)).setCell ⟨w.heap.size, 4, none⟩ (.int .i64 G.fu)).setCell ⟨w.heap.size, 5, none⟩ (.int .i64 G.ke)).setCell ⟨w.heap.size, 6, none⟩ (.bool G.off)).setCell ⟨w.heap.size, 7, none⟩ (.int .i64 G.op))) (by (repeat refine sset ?_ (.inr (by omega)) _); exact Same.refl _ _ _) (by simp)
                  have gr2 : w.grownBy ((((((((w10.setCell ⟨w.heap.size, 0, none⟩ (.int .i64 G.d)).setCell ⟨w.heap.size, 1, none⟩ (.int .i64 G.b)).setCell ⟨w.heap.size, 2, none⟩ (.int .i64 G.p)).setCell ⟨w.heap.size, 3, none⟩ (.slice ga gn gc)).setCell ⟨w.heap.size, 4, none⟩ (.int .i64 G.fu)).setCell ⟨w.heap.size, 5, none⟩ (.int .i64 G.ke)).setCell ⟨w.heap.size, 6, none⟩ (.bool G.off)).setCell ⟨w.heap.size, 7, none⟩ (.int .i64 G.op)) (some g) := by
                    repeat refine grown_out ?_ (by omega) _
                    exact QG2.out
                  exact ⟨k - 1, G, _, _, _, _, _, by omega, by go_num, Lib.hid (Q02.out.put8 _ _ _ _ _ _ _ _), Lib.hid one2, Lib.hid own2, Lib.hid (by have := QR.out; simp; omega), Lib.hid (HSH.out.more (by omega)), Lib.hid (src2.more (by omega)), Lib.hid gr2⟩
                case measure => simp [intOf]; omega
              · go_wp2
                go_roundw
                case rel =>
                  have own2 := HOWN2.out.same (w' := ((((((((w10.setCell ⟨w.heap.size, 0, none⟩ (.int .i64 G.d)).setCell ⟨w.heap.size, 1, none⟩ (.int .i64 G.b)).setCell ⟨w.heap.size, 2, none⟩ (.int .i64 G.p)).setCell ⟨w.heap.size, 3, none⟩ (.slice ga gn gc)).setCell ⟨w.heap.size, 4, none⟩ (.int .i64 G.fu)).setCell ⟨w.heap.size, 5, none⟩ (.int .i64 G.ke)).setCell ⟨w.heap.size, 6, none⟩ (.bool G.off)).setCell ⟨w.heap.size, 7, none⟩ (.int .i64 G.op))) (by (repeat refine sset ?_ (.inl (by omega)) _); exact Same.refl _ _ _)
                  have one2 : Rw ((((((((w10.setCell ⟨w.heap.size, 0, none⟩ (.int .i64 G.d)).setCell ⟨w.heap.size, 1, none⟩ (.int .i64 G.b)).setCell ⟨w.heap.size, 2, none⟩ (.int .i64 G.p)).setCell ⟨w.heap.size, 3, none⟩ (.slice ga gn gc)).setCell ⟨w.heap.size, 4, none⟩ (.int .i64 G.fu)).setCell ⟨w.heap.size, 5, none⟩ (.int .i64 G.ke)).setCell ⟨w.heap.size, 6, none⟩ (.bool G.off)).setCell ⟨w.heap.size, 7, none⟩ (.int .i64 G.op)) (w.heap.size + 1) _ _ := ((((((((Q12.out).farA (g' := w.heap.size) (by omega) _).farA (g' := w.heap.size) (by omega) _).farA (g' := w.heap.size) (by omega) _).farA (g' := w.heap.size) (by omega) _).farA (g' := w.heap.size) (by omega) _).farA (g' := w.heap.size) (by omega) _).farA (g' := w.heap.size) (by omega) _).farA (g' := w.heap.size) (by omega) _
                  have src2 := QS2.out.keepS (w' := ((((((((w10.setCell ⟨w.heap.size, 0, none⟩ (.int .i64 G.d)).setCell ⟨w.heap.size, 1, none⟩ (.int .i64 G.b)).setCell ⟨w.heap.size, 2, none⟩ (.int .i64 G.p)).setCell ⟨w.heap.size, 3, none⟩ (.slice ga gn gc)).setCell ⟨w.heap.size, 4, none⟩ (.int .i64 G.fu)).setCell ⟨w.heap.size, 5, none⟩ (.int .i64 G.ke)).setCell ⟨w.heap.size, 6, none⟩ (.bool G.off)).setCell ⟨w.heap.size, 7, none⟩ (.int .i64 G.op))) (by (repeat refine sset ?_ (.inr (by omega)) _); exact Same.refl _ _ _) (by simp)
                  have gr2 : w.grownBy ((((((((w10.setCell ⟨w.heap.size, 0, none⟩ (.int .i64 G.d)).setCell ⟨w.heap.size, 1, none⟩ (.int .i64 G.b)).setCell ⟨w.heap.size, 2, none⟩ (.int .i64 G.p)).setCell ⟨w.heap.size, 3, none⟩ (.slice ga gn gc)).setCell ⟨w.heap.size, 4, none⟩ (.int .i64 G.fu)).setCell ⟨w.heap.size, 5, none⟩ (.int .i64 G.ke)).setCell ⟨w.heap.size, 6, none⟩ (.bool G.off)).setCell ⟨w.heap.size, 7, none⟩ (.int .i64 G.op)) (some g) := by
                    repeat refine grown_out ?_ (by omega) _
                    exact QG2.out
                  exact ⟨k - 1, G, _, _, _, _, _, by omega, by go_num, Lib.hid (Q02.out.put8 _ _ _ _ _ _ _ _), Lib.hid one2, Lib.hid own2, Lib.hid (by have := QR.out; simp; omega), Lib.hid (HSH.out.more (by omega)), Lib.hid (src2.more (by omega)), Lib.hid gr2⟩
                case measure => simp [intOf]; omega
            · have hc0 : (c == 0) = false := by simp; omega
              have hc8 : (c == 8) = false := by simp; omega
              clear hG
              go_wp2
              go_roundw
              case rel => exact ⟨k - 1, F, _, _, _, _, _, by omega, by go_num, Q02, Q12, QO2, Lib.hid (by have := QR.out; omega), Lib.hid (QH.out.more (by omega)), Lib.hid (QS2.out.more (by omega)), QG2⟩
              case measure => simp [intOf]; omega
          · have h9 : ((s.size : Int) == 91) = false := by simp; omega
            go_wp2
            go_roundw
            case rel => exact ⟨k - 1, F, some ⟨g1, 0, none⟩, nb, cb, lo', hi', by omega, by go_num, Lib.hid Q0.out, Lib.hid Q1.out, Lib.hid QO.out, Lib.hid (by have := QR.out; omega), Lib.hid (QH.out.more (by omega)), Lib.hid (QS.out.more (by omega)), Lib.hid QG.out⟩
            case measure => simp [intOf]; omega
-- NEG
    · have hk1 : k = 0 := by omega
      subst hk1
      obtain ⟨x0, x1, x2, x3, x4, x5, x6, x7⟩ := Q1.out.eight
      obtain ⟨fx0, fx1, fx2, fx3, fx4, fx5, fx6, fx7⟩ := Q1.out.frees
      go_wp2
      have own2 := QO.out.same (w' := ((((((((wr.setCell ⟨w.heap.size + 1, 0, none⟩ (.int .i64 F.d)).setCell ⟨w.heap.size + 1, 1, none⟩ (.int .i64 F.b)).setCell ⟨w.heap.size + 1, 2, none⟩ (.int .i64 F.p)).setCell ⟨w.heap.size + 1, 3, none⟩ (.slice A nb cb)).setCell ⟨w.heap.size + 1, 4, none⟩ (.int .i64 F.fu)).setCell ⟨w.heap.size + 1, 5, none⟩ (.int .i64 F.ke)).setCell ⟨w.heap.size + 1, 6, none⟩ (.bool F.off)).setCell ⟨w.heap.size + 1, 7, none⟩ (.int .i64 F.op))) (by (repeat refine sset ?_ (by have := QR.out; show _ ∨ _; omega) _); exact Same.refl _ _ _)
      have src2 := QS.out.keepS (w' := ((((((((wr.setCell ⟨w.heap.size + 1, 0, none⟩ (.int .i64 F.d)).setCell ⟨w.heap.size + 1, 1, none⟩ (.int .i64 F.b)).setCell ⟨w.heap.size + 1, 2, none⟩ (.int .i64 F.p)).setCell ⟨w.heap.size + 1, 3, none⟩ (.slice A nb cb)).setCell ⟨w.heap.size + 1, 4, none⟩ (.int .i64 F.fu)).setCell ⟨w.heap.size + 1, 5, none⟩ (.int .i64 F.ke)).setCell ⟨w.heap.size + 1, 6, none⟩ (.bool F.off)).setCell ⟨w.heap.size + 1, 7, none⟩ (.int .i64 F.op))) (by (repeat refine sset ?_ (.inr (by omega)) _); exact Same.refl _ _ _) (by simp)
      have gr2 : w.grownBy ((((((((wr.setCell ⟨w.heap.size + 1, 0, none⟩ (.int .i64 F.d)).setCell ⟨w.heap.size + 1, 1, none⟩ (.int .i64 F.b)).setCell ⟨w.heap.size + 1, 2, none⟩ (.int .i64 F.p)).setCell ⟨w.heap.size + 1, 3, none⟩ (.slice A nb cb)).setCell ⟨w.heap.size + 1, 4, none⟩ (.int .i64 F.fu)).setCell ⟨w.heap.size + 1, 5, none⟩ (.int .i64 F.ke)).setCell ⟨w.heap.size + 1, 6, none⟩ (.bool F.off)).setCell ⟨w.heap.size + 1, 7, none⟩ (.int .i64 F.op)) (some g) := by
        repeat refine grown_out ?_ (by omega) _
        exact QG.out
      refine bodyPost_ret (results_cell_row Try.results63 _ _ _ _ _ _ _ rfl (Q1.out.put8 _ _ _ _ _ _ _ _) Try.underlying28 rfl infoFl8) rfl ⟨_, F, lo', hi', rfl, ⟨_, rfl, own2⟩, (by have := QR.out; simp; omega), QH.out.more (by omega), src2.more (by omega), gr2⟩
end Go.Proofs.Ytlmdpdidjldkpaa
