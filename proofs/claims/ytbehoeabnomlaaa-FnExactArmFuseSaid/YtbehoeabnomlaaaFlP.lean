/- PowerOn and ArmFuse, in the model and in the program: the contracts. -/
import Derived.Test.YtbehoeabnomlaaaProg
import Derived.Test.YtbehoeabnomlaaaFlH
import Derived.Test.YtbehoeabnomlaaaFlG
namespace Go.Proofs.Ytbehoeabnomlaaa
open Go.RowKit
set_option linter.unusedVariables false
set_option maxHeartbeats 1000000 in
theorem specOn_any (v : Value) (F G : Fl) (w : World) (lo hi : Nat) (h : FlIn w lo hi v F) (hh : hi ≤ w.heap.size) (hG : OnEnds F G) (hl : FlLen F) :
    Calls Try.prog 49 #[v] w (OwnPost G w) := by
  obtain ⟨r, hr⟩ := prop_dec (FlOk F)
  obtain ⟨u, rfl, hb⟩ := h
  have hv : ∀ W : World, BksIn W lo hi u F.bs → FlIn W lo hi (.agg (flc F u)) F := fun W a => ⟨u, rfl, a⟩
  have HV := Lib.hid (fun (W : World) (a : BksIn W lo hi u F.bs) (c : hi ≤ W.heap.size) => specValid_any (.agg (flc F u)) F r W lo hi (hv W a) c hr hl)
  have HO := Lib.hid (fun (hok : FlOk F) (W : World) (a : BksIn W lo hi u F.bs) (c : hi ≤ W.heap.size) => l06Own_any (.agg (flc F u)) F W lo hi (hv W a) c (by have := hok.len; omega) (fun i hi => by have := hok.plen hi; omega))
  have H := Lib.hid hb
  obtain ⟨Au, nu, cu, rfl⟩ := hb.slice
  clear hb hv hl
  obtain ⟨d, b, p, bs, fu, ke, off, op⟩ := F
  unfold flc at *
  simp only at *
  obtain ⟨r0, r1, b0⟩ := Rw.two_new w 54 54 #[.int .i64 d, .int .i64 b, .int .i64 p, .slice Au nu cu, .int .i64 fu, .int .i64 ke, .bool off, .int .i64 op]
    #[.int .i64 0, .int .i64 0, .int .i64 0, .slice none 0 0, .int .i64 0, .int .i64 0, .bool false, .int .i64 0]
  have R0 := Lib.hid r0
  have R1 := Lib.hid r1
  have B0 := Lib.hid b0
  clear r0 r1 b0
  have HG := Lib.hid hG
  clear hG
  go_enter Try.func49, Try.ntmps49
  go_wp2_with fail
  refine (HV.out _ (H.out.same (sm B0.out lo hh)) (by simp; omega)).mono ?_
  rintro e w1 ⟨rfl, b1⟩
  have S0 := Lib.hid (R0.out.below b1 (by simp; omega))
  have S1 := Lib.hid (R1.out.below b1 (by simp))
  have B1 := Lib.hid (B0.out.trans (b1.mono (by simp; omega)))
  have hsz1 := b1.size
  simp only [World.size_alloc] at hsz1
  obtain ⟨a0, a1, a2, a3, a4, a5, a6, a7⟩ := S0.out.eight
  obtain ⟨z0, z1, z2, z3, z4, z5, z6, z7⟩ := S1.out.eight
  obtain ⟨fz0, fz1, fz2, fz3, fz4, fz5, fz6, fz7⟩ := S1.out.frees
  clear b1
  rcases HG.out with ⟨hok, rfl⟩ | ⟨hno, rfl⟩
  · obtain rfl : r = true := hr.2 hok
    have HO2 := Lib.hid (HO.out hok)
    clear hr hok HO
    go_wp2_with fail
    refine (HO2.out _ (H.out.same (sm B1.out lo hh)) (by omega)).mono ?_
    rintro e w2 ⟨u2, rfl, ho, b2⟩
    obtain ⟨uu, rfl, ho⟩ := ho
    obtain ⟨A2, n2, c2, rfl⟩ := ho.slice
    have T1 := Lib.hid (S1.out.below b2 (by omega))
    have B2 := Lib.hid (B1.out.trans (b2.mono (by omega)))
    have HO3 := Lib.hid ho
    have hsz2 := b2.size
    clear z0 z1 z2 z3 z4 z5 z6 z7 fz0 fz1 fz2 fz3 fz4 fz5 fz6 fz7 b2
    obtain ⟨z0, z1, z2, z3, z4, z5, z6, z7⟩ := T1.out.eightA
    obtain ⟨fz0, fz1, fz2, fz3, fz4, fz5, fz6, fz7⟩ := T1.out.freesA
    unfold flc
    simp only
    go_wp2
    refine bodyPost_ret (results_cell_row Try.results49 _ _ _ _ #[.int .i64 d, .int .i64 b, .int .i64 p, .slice A2 n2 c2, .int .i64 (-1), .int .i64 ke, .bool false, .int .i64 op] _ _ rfl
      ((T1.out.alloc _).put8 _ _ _ _ _ _ _ _) Try.underlying54 rfl infoFl8) rfl ?_
    refine ⟨_, rfl, ⟨_, rfl, (HO3.out.same ?_).wide (by omega) (by simp)⟩, ?_⟩
    · repeat refine sset ?_ (.inl (by omega)) _
      exact sm ((Below.refl _ _).alloc (Nat.le_refl _) _) _ (Nat.le_refl _)
    · repeat refine bset ?_ (by omega) _
      exact B2.out.alloc B2.out.size _
  · obtain rfl : r = false := (bool_of r hr).2 hno
    clear hr hno HO
    go_wp2
    refine bodyPost_ret (results_cell_row Try.results49 _ _ _ _ #[.int .i64 0, .int .i64 0, .int .i64 0, .slice none 0 0, .int .i64 0, .int .i64 0, .bool false, .int .i64 0] _ _ rfl
      (S1.out.put8 _ _ _ _ _ _ _ _) Try.underlying54 rfl infoFl8) rfl ?_
    refine ⟨_, rfl, zeroOwn _ _ _, ?_⟩
    repeat refine bset ?_ (by omega) _
    exact B1.out
set_option maxHeartbeats 1000000 in
theorem implOn_any (v : Value) (F G : Fl) (w : World) (lo hi : Nat) (h : FlIn w lo hi v F) (hh : hi ≤ w.heap.size) (hG : OnEnds F G) (hl : FlLen F) :
    Calls Try.prog 50 #[v] w (OwnPost G w) := by
  obtain ⟨r, hr⟩ := prop_dec (FlOk F)
  obtain ⟨u, rfl, hb⟩ := h
  have hv : ∀ W : World, BksIn W lo hi u F.bs → FlIn W lo hi (.agg (flc F u)) F := fun W a => ⟨u, rfl, a⟩
  have HV := Lib.hid (fun (W : World) (a : BksIn W lo hi u F.bs) (c : hi ≤ W.heap.size) => implValid_any (.agg (flc F u)) F r W lo hi (hv W a) c hr hl)
  have HO := Lib.hid (fun (hok : FlOk F) (W : World) (a : BksIn W lo hi u F.bs) (c : hi ≤ W.heap.size) => clone_any (.agg (flc F u)) F W lo hi (hv W a) c hok)
  have H := Lib.hid hb
  obtain ⟨Au, nu, cu, rfl⟩ := hb.slice
  clear hb hv hl
  obtain ⟨d, b, p, bs, fu, ke, off, op⟩ := F
  unfold flc at *
  simp only at *
  obtain ⟨r0, r1, b0⟩ := Rw.two_new w 54 54 #[.int .i64 d, .int .i64 b, .int .i64 p, .slice Au nu cu, .int .i64 fu, .int .i64 ke, .bool off, .int .i64 op]
    #[.int .i64 0, .int .i64 0, .int .i64 0, .slice none 0 0, .int .i64 0, .int .i64 0, .bool false, .int .i64 0]
  have R0 := Lib.hid r0
  have R1 := Lib.hid r1
  have B0 := Lib.hid b0
  clear r0 r1 b0
  have HG := Lib.hid hG
  clear hG
  go_enter Try.func50, Try.ntmps50
  go_wp2_with fail
  refine (HV.out _ (H.out.same (sm B0.out lo hh)) (by simp; omega)).mono ?_
  rintro e w1 ⟨rfl, b1⟩
  have S0 := Lib.hid (R0.out.below b1 (by simp; omega))
  have S1 := Lib.hid (R1.out.below b1 (by simp))
  have B1 := Lib.hid (B0.out.trans (b1.mono (by simp; omega)))
  have hsz1 := b1.size
  simp only [World.size_alloc] at hsz1
  obtain ⟨a0, a1, a2, a3, a4, a5, a6, a7⟩ := S0.out.eight
  obtain ⟨z0, z1, z2, z3, z4, z5, z6, z7⟩ := S1.out.eight
  obtain ⟨fz0, fz1, fz2, fz3, fz4, fz5, fz6, fz7⟩ := S1.out.frees
  clear b1
  rcases HG.out with ⟨hok, rfl⟩ | ⟨hno, rfl⟩
  · obtain rfl : r = true := hr.2 hok
    have HO2 := Lib.hid (HO.out hok)
    clear hr hok HO
    go_wp2_with fail
    refine (HO2.out _ (H.out.same (sm B1.out lo hh)) (by omega)).mono ?_
    rintro e w2 ⟨u2, rfl, ho, b2⟩
    obtain ⟨uu, rfl, ho⟩ := ho
    obtain ⟨A2, n2, c2, rfl⟩ := ho.slice
    have T1 := Lib.hid (S1.out.below b2 (by omega))
    have B2 := Lib.hid (B1.out.trans (b2.mono (by omega)))
    have HO3 := Lib.hid ho
    have hsz2 := b2.size
    clear z0 z1 z2 z3 z4 z5 z6 z7 fz0 fz1 fz2 fz3 fz4 fz5 fz6 fz7 b2
    obtain ⟨z0, z1, z2, z3, z4, z5, z6, z7⟩ := T1.out.eightA
    obtain ⟨fz0, fz1, fz2, fz3, fz4, fz5, fz6, fz7⟩ := T1.out.freesA
    unfold flc
    simp only
    go_wp2
    refine bodyPost_ret (results_cell_row Try.results50 _ _ _ _ #[.int .i64 d, .int .i64 b, .int .i64 p, .slice A2 n2 c2, .int .i64 (-1), .int .i64 ke, .bool false, .int .i64 op] _ _ rfl
      ((T1.out.alloc _).put8 _ _ _ _ _ _ _ _) Try.underlying54 rfl infoFl8) rfl ?_
    refine ⟨_, rfl, ⟨_, rfl, (HO3.out.same ?_).wide (by omega) (by simp)⟩, ?_⟩
    · repeat refine sset ?_ (.inl (by omega)) _
      exact sm ((Below.refl _ _).alloc (Nat.le_refl _) _) _ (Nat.le_refl _)
    · repeat refine bset ?_ (by omega) _
      exact B2.out.alloc B2.out.size _
  · obtain rfl : r = false := (bool_of r hr).2 hno
    clear hr hno HO
    go_wp2
    refine bodyPost_ret (results_cell_row Try.results50 _ _ _ _ #[.int .i64 0, .int .i64 0, .int .i64 0, .slice none 0 0, .int .i64 0, .int .i64 0, .bool false, .int .i64 0] _ _ rfl
      (S1.out.put8 _ _ _ _ _ _ _ _) Try.underlying54 rfl infoFl8) rfl ?_
    refine ⟨_, rfl, zeroOwn _ _ _, ?_⟩
    repeat refine bset ?_ (by omega) _
    exact B1.out
set_option maxHeartbeats 1000000 in
theorem implArm_any (v : Value) (fuse keep : Int) (F G : Fl) (c : Int) (w : World) (lo hi : Nat) (h : FlIn w lo hi v F) (hh : hi ≤ w.heap.size) (hG : ArmEnds F fuse keep G c) (hl : FlLen F) :
    Calls Try.prog 52 #[v, .int .i64 fuse, .int .i64 keep] w (FlPost G c w) := by
  obtain ⟨r, hr⟩ := prop_dec (FlOk F)
  obtain ⟨u, rfl, hb⟩ := h
  have hv : ∀ W : World, BksIn W lo hi u F.bs → FlIn W lo hi (.agg (flc F u)) F := fun W a => ⟨u, rfl, a⟩
  have HV := Lib.hid (fun (W : World) (a : BksIn W lo hi u F.bs) (c : hi ≤ W.heap.size) => implValid_any (.agg (flc F u)) F r W lo hi (hv W a) c hr hl)
  have HO := Lib.hid (fun (hok : FlOk F) (W : World) (a : BksIn W lo hi u F.bs) (c : hi ≤ W.heap.size) => clone_any (.agg (flc F u)) F W lo hi (hv W a) c hok)
  have H := Lib.hid hb
  obtain ⟨Au, nu, cu, rfl⟩ := hb.slice
  clear hb hv hl
  obtain ⟨d, b, p, bs, fu, ke, off, op⟩ := F
  unfold flc at *
  simp only at *
  obtain ⟨r0, r1, b0⟩ := Rw.two_new w 54 54 #[.int .i64 d, .int .i64 b, .int .i64 p, .slice Au nu cu, .int .i64 fu, .int .i64 ke, .bool off, .int .i64 op]
    #[.int .i64 0, .int .i64 0, .int .i64 0, .slice none 0 0, .int .i64 0, .int .i64 0, .bool false, .int .i64 0]
  have R0 := Lib.hid r0
  have R1 := Lib.hid r1
  have B0 := Lib.hid b0
  clear r0 r1 b0
  have HG := Lib.hid hG
  clear hG
  go_enter Try.func52, Try.ntmps52
  go_wp2_with fail
  refine (HV.out _ (H.out.same (sm B0.out lo hh)) (by simp; omega)).mono ?_
  rintro e w1 ⟨rfl, b1⟩
  have S0 := Lib.hid (R0.out.below b1 (by simp; omega))
  have S1 := Lib.hid (R1.out.below b1 (by simp))
  have B1 := Lib.hid (B0.out.trans (b1.mono (by simp; omega)))
  have hsz1 := b1.size
  simp only [World.size_alloc] at hsz1
  obtain ⟨a0, a1, a2, a3, a4, a5, a6, a7⟩ := S0.out.eight
  obtain ⟨z0, z1, z2, z3, z4, z5, z6, z7⟩ := S1.out.eight
  obtain ⟨fz0, fz1, fz2, fz3, fz4, fz5, fz6, fz7⟩ := S1.out.frees
  clear b1
  have ZERO : Hid (∀ c : Int, FlPost Fl.zero c w (.returned (.tuple #[.agg #[.int .i64 0, .int .i64 0, .int .i64 0, .slice none 0 0, .int .i64 0, .int .i64 0, .bool false, .int .i64 0], .int .i64 c])) ((((((((w1.setCell ⟨w.heap.size + 1, 0, none⟩ (.int .i64 0)).setCell ⟨w.heap.size + 1, 1, none⟩ (.int .i64 0)).setCell ⟨w.heap.size + 1, 2, none⟩ (.int .i64 0)).setCell ⟨w.heap.size + 1, 3, none⟩ (.slice none 0 0)).setCell ⟨w.heap.size + 1, 4, none⟩ (.int .i64 0)).setCell ⟨w.heap.size + 1, 5, none⟩ (.int .i64 0)).setCell ⟨w.heap.size + 1, 6, none⟩ (.bool false)).setCell ⟨w.heap.size + 1, 7, none⟩ (.int .i64 0))) := Lib.hid (fun c => by
    refine ⟨_, rfl, zeroOwn _ _ _, ?_⟩
    repeat refine bset ?_ (by omega) _
    exact B1.out)
  rcases HG.out with hno | ⟨hok, ho⟩ | ⟨hok, ho, hrg⟩ | ⟨hok, ho, h2, h3⟩
  · obtain rfl : r = false := (bool_of r hr).2 hno
    clear hr hno HO
    go_wp2
    exact bodyPost_ret (results_row_tmp Try.results52 _ _ _ _ #[.int .i64 0, .int .i64 0, .int .i64 0, .slice none 0 0, .int .i64 0, .int .i64 0, .bool false, .int .i64 0] _ _ rfl
      (S1.out.put8 _ _ _ _ _ _ _ _) Try.underlying54 rfl infoFl8) rfl (ZERO.out 1)
  · obtain rfl : r = true := hr.2 hok
    simp only at ho
    subst ho
    clear hr hok HO
    go_wp2
    exact bodyPost_ret (results_row_tmp Try.results52 _ _ _ _ #[.int .i64 0, .int .i64 0, .int .i64 0, .slice none 0 0, .int .i64 0, .int .i64 0, .bool false, .int .i64 0] _ _ rfl
      (S1.out.put8 _ _ _ _ _ _ _ _) Try.underlying54 rfl infoFl8) rfl (ZERO.out 8)
  · obtain rfl : r = true := hr.2 hok
    simp only at ho
    subst ho
    clear hr hok HO
    by_cases g1 : -1 ≤ fuse ∧ fuse ≤ 1000000
    · have g2 : ¬ (0 ≤ keep ∧ keep ≤ 91) := by
        rcases hrg with q | q
        · exact absurd g1 q
        · exact q
      have K1 := Lib.hid (fun (W : World) => validFuse_any fuse true W (by simp; omega))
      have K2 := Lib.hid (fun (W : World) => validKeep_any keep false W (by simp; omega))
      clear hrg g1 g2
      go_wp2_with fail
      refine (K1.out _).mono ?_
      rintro e w2 ⟨rfl, rfl⟩
      go_wp2_with fail
      refine (K2.out _).mono ?_
      rintro e w2 ⟨rfl, rfl⟩
      go_wp2
      exact bodyPost_ret (results_row_tmp Try.results52 _ _ _ _ #[.int .i64 0, .int .i64 0, .int .i64 0, .slice none 0 0, .int .i64 0, .int .i64 0, .bool false, .int .i64 0] _ _ rfl
        (S1.out.put8 _ _ _ _ _ _ _ _) Try.underlying54 rfl infoFl8) rfl (ZERO.out 2)
    · have K1 := Lib.hid (fun (W : World) => validFuse_any fuse false W (by simp; omega))
      clear hrg g1
      go_wp2_with fail
      refine (K1.out _).mono ?_
      rintro e w2 ⟨rfl, rfl⟩
      go_wp2
      exact bodyPost_ret (results_row_tmp Try.results52 _ _ _ _ #[.int .i64 0, .int .i64 0, .int .i64 0, .slice none 0 0, .int .i64 0, .int .i64 0, .bool false, .int .i64 0] _ _ rfl
        (S1.out.put8 _ _ _ _ _ _ _ _) Try.underlying54 rfl infoFl8) rfl (ZERO.out 2)
  · obtain rfl : r = true := hr.2 hok
    simp only at ho
    subst ho
    have HO2 := Lib.hid (HO.out hok)
    have K1 := Lib.hid (fun (W : World) => validFuse_any fuse true W (by simp; omega))
    have K2 := Lib.hid (fun (W : World) => validKeep_any keep true W (by simp; omega))
    clear hr hok HO ZERO h2 h3
    go_wp2_with fail
    refine (K1.out _).mono ?_
    rintro e w2 ⟨rfl, rfl⟩
    go_wp2_with fail
    refine (K2.out _).mono ?_
    rintro e w2 ⟨rfl, rfl⟩
    go_wp2_with fail
    refine (HO2.out _ (H.out.same (sm B1.out lo hh)) (by omega)).mono ?_
    rintro e w2 ⟨u2, rfl, ho, b2⟩
    obtain ⟨uu, rfl, ho⟩ := ho
    obtain ⟨A2, n2, c2, rfl⟩ := ho.slice
    have T1 := Lib.hid (S1.out.below b2 (by omega))
    have B2 := Lib.hid (B1.out.trans (b2.mono (by omega)))
    have HO3 := Lib.hid ho
    have hsz2 := b2.size
    clear z0 z1 z2 z3 z4 z5 z6 z7 fz0 fz1 fz2 fz3 fz4 fz5 fz6 fz7 b2
    obtain ⟨z0, z1, z2, z3, z4, z5, z6, z7⟩ := T1.out.eightA
    obtain ⟨fz0, fz1, fz2, fz3, fz4, fz5, fz6, fz7⟩ := T1.out.freesA
    unfold flc
    simp only
    go_wp2
    refine bodyPost_ret (results_row_tmp Try.results52 _ _ _ _ #[.int .i64 d, .int .i64 b, .int .i64 p, .slice A2 n2 c2, .int .i64 fuse, .int .i64 keep, .bool false, .int .i64 op] _ _ rfl
      ((T1.out.alloc _).put8 _ _ _ _ _ _ _ _) Try.underlying54 rfl infoFl8) rfl ?_
    refine ⟨_, rfl, ⟨_, rfl, (HO3.out.same ?_).wide (by omega) (by simp)⟩, ?_⟩
    · repeat refine sset ?_ (.inl (by omega)) _
      exact sm ((Below.refl _ _).alloc (Nat.le_refl _) _) _ (Nat.le_refl _)
    · repeat refine bset ?_ (by omega) _
      exact B2.out.alloc B2.out.size _
set_option maxHeartbeats 1000000 in
theorem specArm_any (v : Value) (fuse keep : Int) (F G : Fl) (c : Int) (w : World) (lo hi : Nat) (h : FlIn w lo hi v F) (hh : hi ≤ w.heap.size) (hG : ArmEnds F fuse keep G c) (hl : FlLen F) :
    Calls Try.prog 51 #[v, .int .i64 fuse, .int .i64 keep] w (FlPost G c w) := by
  obtain ⟨r, hr⟩ := prop_dec (FlOk F)
  obtain ⟨u, rfl, hb⟩ := h
  have hv : ∀ W : World, BksIn W lo hi u F.bs → FlIn W lo hi (.agg (flc F u)) F := fun W a => ⟨u, rfl, a⟩
  have HV := Lib.hid (fun (W : World) (a : BksIn W lo hi u F.bs) (c : hi ≤ W.heap.size) => specValid_any (.agg (flc F u)) F r W lo hi (hv W a) c hr hl)
  have HO := Lib.hid (fun (hok : FlOk F) (W : World) (a : BksIn W lo hi u F.bs) (c : hi ≤ W.heap.size) => l06Own_any (.agg (flc F u)) F W lo hi (hv W a) c (by have := hok.len; omega) (fun i hi => by have := hok.plen hi; omega))
  have H := Lib.hid hb
  obtain ⟨Au, nu, cu, rfl⟩ := hb.slice
  clear hb hv hl
  obtain ⟨d, b, p, bs, fu, ke, off, op⟩ := F
  unfold flc at *
  simp only at *
  obtain ⟨r0, r1, b0⟩ := Rw.two_new w 54 54 #[.int .i64 d, .int .i64 b, .int .i64 p, .slice Au nu cu, .int .i64 fu, .int .i64 ke, .bool off, .int .i64 op]
    #[.int .i64 0, .int .i64 0, .int .i64 0, .slice none 0 0, .int .i64 0, .int .i64 0, .bool false, .int .i64 0]
  have R0 := Lib.hid r0
  have R1 := Lib.hid r1
  have B0 := Lib.hid b0
  clear r0 r1 b0
  have HG := Lib.hid hG
  clear hG
  go_enter Try.func51, Try.ntmps51
  go_wp2_with fail
  refine (HV.out _ (H.out.same (sm B0.out lo hh)) (by simp; omega)).mono ?_
  rintro e w1 ⟨rfl, b1⟩
  have S0 := Lib.hid (R0.out.below b1 (by simp; omega))
  have S1 := Lib.hid (R1.out.below b1 (by simp))
  have B1 := Lib.hid (B0.out.trans (b1.mono (by simp; omega)))
  have hsz1 := b1.size
  simp only [World.size_alloc] at hsz1
  obtain ⟨a0, a1, a2, a3, a4, a5, a6, a7⟩ := S0.out.eight
  obtain ⟨z0, z1, z2, z3, z4, z5, z6, z7⟩ := S1.out.eight
  obtain ⟨fz0, fz1, fz2, fz3, fz4, fz5, fz6, fz7⟩ := S1.out.frees
  clear b1
  have ZERO : Hid (∀ c : Int, FlPost Fl.zero c w (.returned (.tuple #[.agg #[.int .i64 0, .int .i64 0, .int .i64 0, .slice none 0 0, .int .i64 0, .int .i64 0, .bool false, .int .i64 0], .int .i64 c])) ((((((((w1.setCell ⟨w.heap.size + 1, 0, none⟩ (.int .i64 0)).setCell ⟨w.heap.size + 1, 1, none⟩ (.int .i64 0)).setCell ⟨w.heap.size + 1, 2, none⟩ (.int .i64 0)).setCell ⟨w.heap.size + 1, 3, none⟩ (.slice none 0 0)).setCell ⟨w.heap.size + 1, 4, none⟩ (.int .i64 0)).setCell ⟨w.heap.size + 1, 5, none⟩ (.int .i64 0)).setCell ⟨w.heap.size + 1, 6, none⟩ (.bool false)).setCell ⟨w.heap.size + 1, 7, none⟩ (.int .i64 0))) := Lib.hid (fun c => by
    refine ⟨_, rfl, zeroOwn _ _ _, ?_⟩
    repeat refine bset ?_ (by omega) _
    exact B1.out)
  rcases HG.out with hno | ⟨hok, ho⟩ | ⟨hok, ho, hrg⟩ | ⟨hok, ho, h2, h3⟩
  · obtain rfl : r = false := (bool_of r hr).2 hno
    clear hr hno HO
    go_wp2
    exact bodyPost_ret (results_row_tmp Try.results51 _ _ _ _ #[.int .i64 0, .int .i64 0, .int .i64 0, .slice none 0 0, .int .i64 0, .int .i64 0, .bool false, .int .i64 0] _ _ rfl
      (S1.out.put8 _ _ _ _ _ _ _ _) Try.underlying54 rfl infoFl8) rfl (ZERO.out 1)
  · obtain rfl : r = true := hr.2 hok
    simp only at ho
    subst ho
    clear hr hok HO
    go_wp2
    exact bodyPost_ret (results_row_tmp Try.results51 _ _ _ _ #[.int .i64 0, .int .i64 0, .int .i64 0, .slice none 0 0, .int .i64 0, .int .i64 0, .bool false, .int .i64 0] _ _ rfl
      (S1.out.put8 _ _ _ _ _ _ _ _) Try.underlying54 rfl infoFl8) rfl (ZERO.out 8)
  · obtain rfl : r = true := hr.2 hok
    simp only at ho
    subst ho
    clear hr hok HO
    by_cases g1 : -1 ≤ fuse ∧ fuse ≤ 1000000
    · have g2 : ¬ (0 ≤ keep ∧ keep ≤ 91) := by
        rcases hrg with q | q
        · exact absurd g1 q
        · exact q
      have K1 := Lib.hid (fun (W : World) => inr_yes fuse (-1) 1000000 W g1.1 g1.2)
      have K2 := Lib.hid (fun (W : World) => inr_no keep 0 91 W g2)
      clear hrg g1 g2
      go_wp2_with fail
      refine (K1.out _).mono ?_
      rintro e w2 ⟨rfl, rfl⟩
      go_wp2_with fail
      refine (K2.out _).mono ?_
      rintro e w2 ⟨rfl, rfl⟩
      go_wp2
      exact bodyPost_ret (results_row_tmp Try.results51 _ _ _ _ #[.int .i64 0, .int .i64 0, .int .i64 0, .slice none 0 0, .int .i64 0, .int .i64 0, .bool false, .int .i64 0] _ _ rfl
        (S1.out.put8 _ _ _ _ _ _ _ _) Try.underlying54 rfl infoFl8) rfl (ZERO.out 2)
    · have K1 := Lib.hid (fun (W : World) => inr_no fuse (-1) 1000000 W g1)
      clear hrg g1
      go_wp2_with fail
      refine (K1.out _).mono ?_
      rintro e w2 ⟨rfl, rfl⟩
      go_wp2
      exact bodyPost_ret (results_row_tmp Try.results51 _ _ _ _ #[.int .i64 0, .int .i64 0, .int .i64 0, .slice none 0 0, .int .i64 0, .int .i64 0, .bool false, .int .i64 0] _ _ rfl
        (S1.out.put8 _ _ _ _ _ _ _ _) Try.underlying54 rfl infoFl8) rfl (ZERO.out 2)
  · obtain rfl : r = true := hr.2 hok
    simp only at ho
    subst ho
    have HO2 := Lib.hid (HO.out hok)
    have K1 := Lib.hid (fun (W : World) => inr_yes fuse (-1) 1000000 W h2.1 h2.2)
    have K2 := Lib.hid (fun (W : World) => inr_yes keep 0 91 W h3.1 h3.2)
    clear hr hok HO ZERO h2 h3
    go_wp2_with fail
    refine (K1.out _).mono ?_
    rintro e w2 ⟨rfl, rfl⟩
    go_wp2_with fail
    refine (K2.out _).mono ?_
    rintro e w2 ⟨rfl, rfl⟩
    go_wp2_with fail
    refine (HO2.out _ (H.out.same (sm B1.out lo hh)) (by omega)).mono ?_
    rintro e w2 ⟨u2, rfl, ho, b2⟩
    obtain ⟨uu, rfl, ho⟩ := ho
    obtain ⟨A2, n2, c2, rfl⟩ := ho.slice
    have T1 := Lib.hid (S1.out.below b2 (by omega))
    have B2 := Lib.hid (B1.out.trans (b2.mono (by omega)))
    have HO3 := Lib.hid ho
    have hsz2 := b2.size
    clear z0 z1 z2 z3 z4 z5 z6 z7 fz0 fz1 fz2 fz3 fz4 fz5 fz6 fz7 b2
    obtain ⟨z0, z1, z2, z3, z4, z5, z6, z7⟩ := T1.out.eightA
    obtain ⟨fz0, fz1, fz2, fz3, fz4, fz5, fz6, fz7⟩ := T1.out.freesA
    unfold flc
    simp only
    go_wp2
    refine bodyPost_ret (results_row_tmp Try.results51 _ _ _ _ #[.int .i64 d, .int .i64 b, .int .i64 p, .slice A2 n2 c2, .int .i64 fuse, .int .i64 keep, .bool false, .int .i64 op] _ _ rfl
      ((T1.out.alloc _).put8 _ _ _ _ _ _ _ _) Try.underlying54 rfl infoFl8) rfl ?_
    refine ⟨_, rfl, ⟨_, rfl, (HO3.out.same ?_).wide (by omega) (by simp)⟩, ?_⟩
    · repeat refine sset ?_ (.inl (by omega)) _
      exact sm ((Below.refl _ _).alloc (Nat.le_refl _) _) _ (Nat.le_refl _)
    · repeat refine bset ?_ (by omega) _
      exact B2.out.alloc B2.out.size _
end Go.Proofs.Ytbehoeabnomlaaa
