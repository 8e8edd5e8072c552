/- The proof's own lemmas, part 22: FlU Mn. -/
import Derived.Test.YthenilomgbnpeaaGreatDoorProg
import Derived.Test.YthenilomgbnpeaaGreatDoorMg20
import Derived.Test.YthenilomgbnpeaaGreatDoorMg16
import Derived.Test.YthenilomgbnpeaaGreatDoorMg0
import Derived.WalkKit
import Derived.ProofKit
import Derived.Lib.Hide
/- ProgramPage, the model's: the contract. -/
namespace Go.Proofs.YthenilomgbnpeaaGreatDoor
open Go.RowKit
set_option linter.unusedVariables false
theorem Fl.code_is (F : Fl) : F.code = 0 ∨ F.code = 8 := by unfold Fl.code; split <;> simp
set_option maxHeartbeats 4000000 in
theorem specProg_any (v : Value) (block page : Int) (raw : ByteArray) (F G : Fl) (c : Int) (w : World) (lo hi : Nat) (h : FlIn w lo hi v F) (hh : hi ≤ w.heap.size) (hG : ProgEnds F block page raw G c) (hl : FlLen F) (hraw : raw.size ≤ 9223372036854775807) :
    Calls Tryz.prog 80 #[v, .int .i64 block, .int .i64 page, .string raw] w (FlPost G c w) := by
  obtain ⟨r, hr⟩ := prop_dec (FlOk F)
  obtain ⟨u, rfl, hb⟩ := h
  have hv : ∀ W : World, BksIn W lo hi u F.bs → FlIn W lo hi (.agg (flc F u)) F := fun W a => ⟨u, rfl, a⟩
  have HV := Lib.hid (fun (W : World) (a : BksIn W lo hi u F.bs) (c : hi ≤ W.heap.size) => specValid_any (.agg (flc F u)) F r W lo hi (hv W a) c hr hl)
  have HO := Lib.hid (fun (hok : FlOk F) (W : World) (a : BksIn W lo hi u F.bs) (c : hi ≤ W.heap.size) => l06Own_any (.agg (flc F u)) F W lo hi (hv W a) c (by have := hok.len; omega) (fun i hi => by have := hok.plen hi; omega))
  have HPG := Lib.hid (fun (hok : FlOk F) (hr : raw.size = 91) (k : Nat) (hk : k < F.bs.length) (hn : (F.blk k).nx < F.p) (W : World) (u2 : Value) (lo hi g : Nat) (a : Rw W g 28 (flc F u2)) (b : BksOwn W lo hi u2 F.bs) (c1 : hi ≤ g) (c2 : lo ≤ hi) => spProg_any W lo hi g F u2 k raw a b c1 c2 hok hr hk hn)
  have H := Lib.hid hb
  have hbb := hb
  obtain ⟨Au, nu, cu, rfl, hu1, hu2, hu3, hu4⟩ := hb
  have HBAD := Lib.hid (fun (W : World) (a : BksIn W lo hi (.slice Au nu cu) F.bs) (k : Nat) (hk : k < nu) => (show ∃ gb o pv, Au = some ⟨gb, o, none⟩ ∧ lo ≤ gb ∧ gb < hi ∧ BkAt W gb (o + k * 4) (F.blk k) pv from by
    obtain ⟨A', n', c', e, _, _, _, hx⟩ := a
    injection e with e1 e2 e3
    subst e1 e2 e3
    obtain ⟨gb, o, e, h1, h2, hy⟩ := hx (by omega)
    obtain ⟨pv, hp, _⟩ := hy k hk
    exact ⟨gb, o, pv, e, h1, h2, hp⟩))
  clear hbb hv hl hu4
  have hFl : flc F (.slice Au nu cu) = #[.int .i64 F.d, .int .i64 F.b, .int .i64 F.p, .slice Au nu cu, .int .i64 F.fu, .int .i64 F.ke, .bool F.off, .int .i64 F.op] := rfl
  have hFo : ∀ u, flc F u = #[.int .i64 F.d, .int .i64 F.b, .int .i64 F.p, u, .int .i64 F.fu, .int .i64 F.ke, .bool F.off, .int .i64 F.op] := fun u => rfl
  rw [hFl] at HV HO ⊢
  have HFO := Lib.hid hFo
  clear hFl hFo
  have HPgs := Lib.hid (fun (r : Bool) (hn : nu ≤ 1000) (hp : 0 ≤ F.p ∧ F.p ≤ 1000) (hr : r = true ↔ ((0 ≤ block ∧ block < (nu : Int)) ∧ (0 ≤ page ∧ page < F.p))) (W : World) => spPage_any F.d F.b F.p F.fu F.ke F.op F.off Au nu cu block page r W hn hp hr)
  have HOFF : Hid (∀ b : Bool, F.off = b → F.off = b) := Lib.hid fun _ h => h
  have HP1 := Lib.hid (fun (hok : FlOk F) => hok.1.p16)
  have HL1 := Lib.hid (fun (hok : FlOk F) => hok.len)
  have HGG := Lib.hid hG
  clear hG
  have HPF : Hid (∀ q : Int, q < F.p → q < F.p) := Lib.hid fun _ h => h
  generalize hd : F.d = d at *
  generalize hbn : F.b = b at *
  generalize hp : F.p = p at *
  generalize hfu : F.fu = fu at *
  generalize hke : F.ke = ke at *
  generalize hoff : F.off = off at *
  generalize hop : F.op = op at *
  have HEQ := Lib.hid (And.intro hp hoff)
  clear hd hbn hp hfu hke hoff hop
  obtain ⟨r0, r1, b0⟩ := Rw.two_new w 28 28 #[.int .i64 d, .int .i64 b, .int .i64 p, .slice Au nu cu, .int .i64 fu, .int .i64 ke, .bool off, .int .i64 op]
    #[.int .i64 0, .int .i64 0, .int .i64 0, .slice none 0 0, .int .i64 0, .int .i64 0, .bool false, .int .i64 0]
  have R0 := Lib.hid r0
  have R1 := Lib.hid r1
  have B0 := Lib.hid b0
  clear r0 r1 b0
  go_enter Tryz.func80, Tryz.ntmps80
  go_wp2_with fail
  refine (HV.out _ (H.out.same (sm B0.out lo hh)) (by simp; omega)).mono ?_
  rintro e w1 ⟨rfl, b1⟩
  have S0 := Lib.hid (R0.out.below b1 (by simp; omega))
  have S1 := Lib.hid (R1.out.below b1 (by simp))
  have B1 := Lib.hid (B0.out.trans (b1.mono (by simp; omega)))
  have hsz1 := b1.size
  simp only [World.size_alloc] at hsz1
  clear b1
  have ZEROS : Hid (∀ (wz : World) (c : Int), Rw wz (w.heap.size + 1) 28 #[.int .i64 0, .int .i64 0, .int .i64 0, .slice none 0 0, .int .i64 0, .int .i64 0, .bool false, .int .i64 0] → Below w.heap.size w wz → FlPost Fl.zero c w (.returned (.tuple #[.agg #[.int .i64 0, .int .i64 0, .int .i64 0, .slice none 0 0, .int .i64 0, .int .i64 0, .bool false, .int .i64 0], .int .i64 c])) ((((((((wz.setCell ⟨w.heap.size + 1, 0, none⟩ (.int .i64 0)).setCell ⟨w.heap.size + 1, 1, none⟩ (.int .i64 0)).setCell ⟨w.heap.size + 1, 2, none⟩ (.int .i64 0)).setCell ⟨w.heap.size + 1, 3, none⟩ (.slice none 0 0)).setCell ⟨w.heap.size + 1, 4, none⟩ (.int .i64 0)).setCell ⟨w.heap.size + 1, 5, none⟩ (.int .i64 0)).setCell ⟨w.heap.size + 1, 6, none⟩ (.bool false)).setCell ⟨w.heap.size + 1, 7, none⟩ (.int .i64 0))) := Lib.hid (fun wz c hz bz => by
    refine ⟨_, rfl, zeroOwn _ _ _, ?_⟩
    repeat refine bset ?_ (by omega) _
    exact bz)
  rcases HGG.out with hno | ⟨hok, hrs, h1⟩ | ⟨hok, hrs, h1, h2⟩ | ⟨hok, hrs, h1, k, m, rfl, rfl, hkl, hnp, h2⟩ | ⟨hok, hrs, h1, k, m, rfl, rfl, hkl, hnp, h2, h3⟩ | ⟨hok, hrs, h1, k, m, rfl, rfl, hkl, hnp, h2, h3⟩
  · obtain ⟨z0, z1, z2, z3, z4, z5, z6, z7⟩ := S1.out.eight
    obtain ⟨fz0, fz1, fz2, fz3, fz4, fz5, fz6, fz7⟩ := S1.out.frees
    by_cases hok : FlOk F
    · obtain rfl : r = true := hr.2 hok
      have hne : ((raw.size : Int) != 91) = true := by
        rcases hno with a | a
        · exact absurd hok a
        · simp; omega
      clear hr hok hno HO HPG HPgs
      go_wp2
      exact bodyPost_ret (results_row_tmp Tryz.results80 _ _ _ _ #[.int .i64 0, .int .i64 0, .int .i64 0, .slice none 0 0, .int .i64 0, .int .i64 0, .bool false, .int .i64 0] _ _ rfl
        (S1.out.put8 _ _ _ _ _ _ _ _) Tryz.underlying28 rfl infoFl8) rfl (ZEROS.out _ 1 S1.out B1.out)
    · obtain rfl : r = false := (bool_of r hr).2 hok
      clear hr hok hno HO HPG HPgs
      go_wp2
      exact bodyPost_ret (results_row_tmp Tryz.results80 _ _ _ _ #[.int .i64 0, .int .i64 0, .int .i64 0, .slice none 0 0, .int .i64 0, .int .i64 0, .bool false, .int .i64 0] _ _ rfl
        (S1.out.put8 _ _ _ _ _ _ _ _) Tryz.underlying28 rfl infoFl8) rfl (ZEROS.out _ 1 S1.out B1.out)
  all_goals
    obtain rfl : r = true := hr.2 hok
    have hne : ((raw.size : Int) != 91) = false := by rw [hrs]; rfl
    rw [HEQ.out.2] at h1
    subst h1
    clear hr
  · have HO2 := Lib.hid (HO.out hok)
    obtain ⟨a0, a1, a2, a3, a4, a5, a6, a7⟩ := S0.out.eight
    clear HO HPG HPgs hok hrs
    go_wp2_with fail
    refine (HO2.out _ (H.out.same (sm B1.out lo hh)) (by omega)).mono ?_
    rintro e w2 ⟨u2, rfl, ho, b2⟩
    obtain ⟨uu, rfl, ho⟩ := ho
    obtain ⟨A2, n2, c2, rfl⟩ := ho.slice
    have T1 := Lib.hid (S1.out.below b2 (by omega))
    have B2 := Lib.hid (B1.out.trans (b2.mono (by omega)))
    have HO3 := Lib.hid ho
    have hsz2 := b2.size
    rw [HFO.out]
    clear a0 a1 a2 a3 a4 a5 a6 a7 b2 ho HO2
    obtain ⟨z0, z1, z2, z3, z4, z5, z6, z7⟩ := T1.out.eight
    obtain ⟨fz0, fz1, fz2, fz3, fz4, fz5, fz6, fz7⟩ := T1.out.frees
    go_wp2
    refine bodyPost_ret (results_row_tmp Tryz.results80 _ _ _ _ #[.int .i64 d, .int .i64 b, .int .i64 p, .slice A2 n2 c2, .int .i64 fu, .int .i64 ke, .bool true, .int .i64 op] _ _ rfl
      (T1.out.put8 _ _ _ _ _ _ _ _) Tryz.underlying28 rfl infoFl8) rfl ?_
    refine ⟨_, rfl, ⟨_, by rw [HFO.out], (HO3.out.same ?_).wide (by omega) (by simp)⟩, ?_⟩
    · repeat refine sset ?_ (.inl (by omega)) _
      exact Same.refl _ _ _
    · repeat refine bset ?_ (by omega) _
      exact B2.out
  · have HPF := Lib.hid (HPgs.out false (by have := HL1.out hok; omega) (by have := HP1.out hok; omega) (by
      rw [hu3] at h2
      rw [HEQ.out.1] at h2
      simp only [Bool.false_eq_true, false_iff]
      rintro ⟨a, b⟩
      rcases h2 with h2 | h2 <;> contradiction))
    obtain ⟨a0, a1, a2, a3, a4, a5, a6, a7⟩ := S0.out.eight
    clear HO HPG HPgs hok hrs h2
    go_wp2_with fail
    refine (HPF.out _).mono ?_
    rintro e w2 ⟨rfl, b2⟩
    have T1 := Lib.hid (S1.out.below b2 (by omega))
    have B2 := Lib.hid (B1.out.trans (b2.mono (by omega)))
    clear a0 a1 a2 a3 a4 a5 a6 a7 b2
    obtain ⟨z0, z1, z2, z3, z4, z5, z6, z7⟩ := T1.out.eight
    obtain ⟨fz0, fz1, fz2, fz3, fz4, fz5, fz6, fz7⟩ := T1.out.frees
    go_wp2
    exact bodyPost_ret (results_row_tmp Tryz.results80 _ _ _ _ #[.int .i64 0, .int .i64 0, .int .i64 0, .slice none 0 0, .int .i64 0, .int .i64 0, .bool false, .int .i64 0] _ _ rfl
      (T1.out.put8 _ _ _ _ _ _ _ _) Tryz.underlying28 rfl infoFl8) rfl (ZEROS.out _ 2 T1.out B2.out)
  · have HPF := Lib.hid (HPgs.out true (by have := HL1.out hok; omega) (by have := HP1.out hok; omega) (by
      rw [HEQ.out.1] at hnp
      simp; omega))
    obtain ⟨a0, a1, a2, a3, a4, a5, a6, a7⟩ := S0.out.eight
    have hl9 := HL1.out hok
    clear HO HPG HPgs hok hrs
    go_wp2_with fail
    refine (HPF.out _).mono ?_
    rintro e w2 ⟨rfl, b2⟩
    have T0 := Lib.hid (S0.out.below b2 (by omega))
    have T1 := Lib.hid (S1.out.below b2 (by omega))
    have B2 := Lib.hid (B1.out.trans (b2.mono (by omega)))
    have hsz2 := b2.size
    clear a0 a1 a2 a3 a4 a5 a6 a7 b2
    obtain ⟨a0, a1, a2, a3, a4, a5, a6, a7⟩ := T0.out.eight
    obtain ⟨gb, o, pv, rfl, hg1, hg2, q0, q1, q2, q3⟩ := HBAD.out w2 (H.out.same (sm B2.out lo hh)) k (by omega)
    have hki : (k : Int) < (nu : Int) := by omega
    have hnm : (nu : Int) ≤ 1000 := by omega
    rw [h2] at q2
    obtain ⟨z0, z1, z2, z3, z4, z5, z6, z7⟩ := T1.out.eight
    obtain ⟨fz0, fz1, fz2, fz3, fz4, fz5, fz6, fz7⟩ := T1.out.frees
    go_wp2
    exact bodyPost_ret (results_row_tmp Tryz.results80 _ _ _ _ #[.int .i64 0, .int .i64 0, .int .i64 0, .slice none 0 0, .int .i64 0, .int .i64 0, .bool false, .int .i64 0] _ _ rfl
      (T1.out.put8 _ _ _ _ _ _ _ _) Tryz.underlying28 rfl infoFl8) rfl (ZEROS.out _ 7 T1.out B2.out)
  · have HPF := Lib.hid (HPgs.out true (by have := HL1.out hok; omega) (by have := HP1.out hok; omega) (by
      rw [HEQ.out.1] at hnp
      simp; omega))
    obtain ⟨a0, a1, a2, a3, a4, a5, a6, a7⟩ := S0.out.eight
    have hl9 := HL1.out hok
    clear HO HPG HPgs hok hrs
    go_wp2_with fail
    refine (HPF.out _).mono ?_
    rintro e w2 ⟨rfl, b2⟩
    have T0 := Lib.hid (S0.out.below b2 (by omega))
    have T1 := Lib.hid (S1.out.below b2 (by omega))
    have B2 := Lib.hid (B1.out.trans (b2.mono (by omega)))
    have hsz2 := b2.size
    clear a0 a1 a2 a3 a4 a5 a6 a7 b2
    obtain ⟨a0, a1, a2, a3, a4, a5, a6, a7⟩ := T0.out.eight
    obtain ⟨gb, o, pv, rfl, hg1, hg2, q0, q1, q2, q3⟩ := HBAD.out w2 (H.out.same (sm B2.out lo hh)) k (by omega)
    have hki : (k : Int) < (nu : Int) := by omega
    have hnm : (nu : Int) ≤ 1000 := by omega
    rw [h2] at q2
    generalize (F.blk k).nx = nx at *
    have hdd : (nx != (m : Int)) = true := bne_iff_ne.2 h3
    clear h3
    obtain ⟨z0, z1, z2, z3, z4, z5, z6, z7⟩ := T1.out.eight
    obtain ⟨fz0, fz1, fz2, fz3, fz4, fz5, fz6, fz7⟩ := T1.out.frees
    go_wp2
    exact bodyPost_ret (results_row_tmp Tryz.results80 _ _ _ _ #[.int .i64 0, .int .i64 0, .int .i64 0, .slice none 0 0, .int .i64 0, .int .i64 0, .bool false, .int .i64 0] _ _ rfl
      (T1.out.put8 _ _ _ _ _ _ _ _) Tryz.underlying28 rfl infoFl8) rfl (ZEROS.out _ 5 T1.out B2.out)
  · have HPF := Lib.hid (HPgs.out true (by have := HL1.out hok; omega) (by have := HP1.out hok; omega) (by
      rw [HEQ.out.1] at hnp
      simp; omega))
    obtain ⟨a0, a1, a2, a3, a4, a5, a6, a7⟩ := S0.out.eight
    have hl9 := HL1.out hok
    have HO2 := Lib.hid (HO.out hok)
    have HPG2 := Lib.hid (HPG.out hok hrs k hkl (by rw [h3]; exact HEQ.out.1 ▸ hnp))
    clear HO HPG HPgs hok hrs
    go_wp2_with fail
    refine (HPF.out _).mono ?_
    rintro e w2 ⟨rfl, b2⟩
    have T0 := Lib.hid (S0.out.below b2 (by omega))
    have T1 := Lib.hid (S1.out.below b2 (by omega))
    have B2 := Lib.hid (B1.out.trans (b2.mono (by omega)))
    have hsz2 := b2.size
    clear a0 a1 a2 a3 a4 a5 a6 a7 b2
    obtain ⟨a0, a1, a2, a3, a4, a5, a6, a7⟩ := T0.out.eight
    obtain ⟨gb, o, pv, rfl, hg1, hg2, q0, q1, q2, q3⟩ := HBAD.out w2 (H.out.same (sm B2.out lo hh)) k (by omega)
    have hki : (k : Int) < (nu : Int) := by omega
    have hnm : (nu : Int) ≤ 1000 := by omega
    rw [h2] at q2
    rw [h3] at q1
    have hdd : ((m : Int) != (m : Int)) = false := by simp
    have hcc := F.code_is
    generalize F.prog k raw = G' at *
    generalize F.code = co at *
    clear h3
    go_wp2_with fail
    refine (HO2.out _ (H.out.same (sm B2.out lo hh)) (by omega)).mono ?_
    rintro e w3 ⟨u2, rfl, ho, b3⟩
    obtain ⟨uu, rfl, ho⟩ := ho
    obtain ⟨A2, n2, c2, rfl⟩ := ho.slice
    have V1 := Lib.hid (T1.out.below b3 (by omega))
    have B3 := Lib.hid (B2.out.trans (b3.mono (by omega)))
    have HO3 := Lib.hid ho
    have hsz3 := b3.size
    rw [HFO.out]
    have L3 := Lib.hid (Rw.new w3 28 #[.int .i64 d, .int .i64 b, .int .i64 p, .slice A2 n2 c2, .int .i64 fu, .int .i64 ke, .bool false, .int .i64 op])
    have AL := Lib.hid ((Below.refl w3.heap.size w3).alloc (Nat.le_refl _) (.cells #[.int .i64 d, .int .i64 b, .int .i64 p, .slice A2 n2 c2, .int .i64 fu, .int .i64 ke, .bool false, .int .i64 op] 28))
    clear a0 a1 a2 a3 a4 a5 a6 a7 b3 ho q0 q1 q2 q3
    go_wp2_with fail
    refine (HPG2.out _ (.slice A2 n2 c2) w2.heap.size w3.heap.size w3.heap.size (by rw [HFO.out]; exact L3.out) (HO3.out.same (sm AL.out _ (Nat.le_refl _))) (Nat.le_refl _) hsz3).mono ?_
    rintro e w4 ⟨rfl, b4, hx4⟩
    obtain ⟨hr4, ho4⟩ := hx4 hcc
    have b4' : Below w2.heap.size w3 w4 := (AL.out.mono hsz3).trans b4
    have T4 := Lib.hid (V1.out.below b4' (by omega))
    have B4 := Lib.hid (B3.out.trans (b4'.mono (by omega)))
    have s4 := b4.size
    simp only [World.size_alloc] at s4
    have HO4 := Lib.hid ho4
    obtain ⟨gd, gb2, gp, gbs, gfu, gke, goff, gop⟩ := G'
    unfold flc at hr4
    simp only at hr4
    obtain ⟨a0, a1, a2, a3, a4, a5, a6, a7⟩ := hr4.eight
    clear b4 b4' hx4 hr4 ho4 AL L3
    obtain ⟨z0, z1, z2, z3, z4, z5, z6, z7⟩ := T4.out.eight
    obtain ⟨fz0, fz1, fz2, fz3, fz4, fz5, fz6, fz7⟩ := T4.out.frees
    go_wp2
    refine bodyPost_ret (results_row_tmp Tryz.results80 _ _ _ _ #[.int .i64 gd, .int .i64 gb2, .int .i64 gp, .slice A2 n2 c2, .int .i64 gfu, .int .i64 gke, .bool goff, .int .i64 gop] _ _ rfl
      (T4.out.put8 _ _ _ _ _ _ _ _) Tryz.underlying28 rfl infoFl8) rfl ?_
    refine ⟨_, rfl, ⟨_, rfl, (HO4.out.same ?_).wide (by omega) (by simp; omega)⟩, ?_⟩
    · repeat refine sset ?_ (.inl (by omega)) _
      exact Same.refl _ _ _
    · repeat refine bset ?_ (by omega) _
      exact B4.out
end Go.Proofs.YthenilomgbnpeaaGreatDoor
/- The lesser of two integers, in the model: the contract. -/
namespace Go.Proofs.YthenilomgbnpeaaGreatDoor
open Go.RowKit
theorem min_any (a b : Int) (w : World) : Calls Tryz.prog 41 #[.int .i64 a, .int .i64 b] w fun e w' => e = .returned (.int .i64 (min a b)) ∧ w = w' := by
  by_cases h : a < b
  · have e : min a b = a := by omega
    rw [e]
    clear e
    go_enter Tryz.func41, Tryz.ntmps41
    go_wp2
    go_ret
    exact ⟨rfl, rfl⟩
  · have e : min a b = b := by omega
    rw [e]
    clear e
    go_enter Tryz.func41, Tryz.ntmps41
    go_wp2
    go_ret
    exact ⟨rfl, rfl⟩
end Go.Proofs.YthenilomgbnpeaaGreatDoor
