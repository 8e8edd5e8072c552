/- Two maps of logical pages compared, in the model and in the program: the contracts. -/
import Derived.Test.YtfnccbanmgfkeaaProg
import Derived.Test.YtfnccbanmgfkeaaEqB
import Derived.Test.YtfnccbanmgfkeaaPmM
namespace Go.Proofs.Ytfnccbanmgfkeaa
open Go.RowKit
set_option linter.unusedVariables false
theorem pm_eq {b p b' p' : Int} {L M : List Int} {K N : List Bool} : (⟨b, p, L, K⟩ : Pm) = ⟨b', p', M, N⟩ ↔ b = b' ∧ p = p' ∧ L = M ∧ K = N := by
  constructor
  · intro e; injection e; simp_all
  · rintro ⟨rfl, rfl, rfl, rfl⟩; rfl
set_option maxHeartbeats 4000000 in
set_option maxRecDepth 100000 in
theorem specSamePm_any (u v : Value) (F G : Pm) (r : Bool) (w : World) (hi hi' : Nat) (hu : PmIn w hi u F) (hv : PmIn w hi' v G) (h1 : hi ≤ w.heap.size) (h2 : hi' ≤ w.heap.size) (hr : r = true ↔ F = G) (hl : PmSz F) (hl' : PmSz G) :
    Calls Try.prog 21 #[u, v] w fun e w' => e = .returned (.bool r) ∧ Below w.heap.size w w' := by
  obtain ⟨u, x, rfl, hu, hx⟩ := hu
  obtain ⟨v, y, rfl, hv, hy⟩ := hv
  unfold PmSz at hl hl'
  obtain ⟨q, hq⟩ := prop_dec' (F.mp = G.mp)
  have HS := Lib.hid (fun (W : World) (a : NI W hi u F.mp) (b : NI W hi' v G.mp) (c : hi ≤ W.heap.size) (d : hi' ≤ W.heap.size) => specEqI_any u v F.mp G.mp q W hi hi' a b c d hq (by omega) (by omega))
  obtain ⟨A, n, c, rfl⟩ := hu.slice
  obtain ⟨A', n', c', rfl⟩ := hv.slice
  obtain ⟨A2, n2, c2, rfl⟩ := hx.slice
  obtain ⟨A2', n2', c2', rfl⟩ := hy.slice
  obtain ⟨b, p, L, K⟩ := F
  obtain ⟨b', p', M, N⟩ := G
  unfold pmc
  rw [pm_eq] at hr
  simp only at *
  obtain ⟨r0, r1, b0⟩ := Rw.two_new w 28 28 #[.int .i64 b, .int .i64 p, .slice A n c, .slice A2 n2 c2] #[.int .i64 b', .int .i64 p', .slice A' n' c', .slice A2' n2' c2']
  have HB := Lib.hid b0
  have HU := Lib.hid (hu.below b0 h1)
  have HV := Lib.hid (hv.below b0 h2)
  have HX := Lib.hid (hx.below b0 h1)
  have HY := Lib.hid (hy.below b0 h2)
  have R0 := Lib.hid r0
  have R1 := Lib.hid r1
  have HR := Lib.hid hr
  have HQ := Lib.hid hq
  clear hu hv hx hy hr hq b0 r0 r1
  by_cases e1 : b = b'
  case neg =>
    obtain rfl : r = false := not_true HR.out (fun e => e1 e.1)
    have n1 : (b != b') = true := by simpa using e1
    clear e1 HS HR HU HV HX HY
    go_enter Try.func21, Try.ntmps21
    go_wp2
    go_ret
    exact ⟨rfl, HB.out⟩
  subst e1
  have n1 : (b != b) = false := by simp
  by_cases e1 : p = p'
  case neg =>
    obtain rfl : r = false := not_true HR.out (fun e => e1 e.2.1)
    have n2 : (p != p') = true := by simpa using e1
    clear e1 HS HR HU HV HX HY
    go_enter Try.func21, Try.ntmps21
    go_wp2
    go_ret
    exact ⟨rfl, HB.out⟩
  subst e1
  have nn2 : (p != p) = false := by simp
  by_cases e1 : L = M
  case neg =>
    obtain rfl : r = false := not_true HR.out (fun e => e1 e.2.2.1)
    obtain rfl : q = false := not_true HQ.out e1
    clear e1 HR HQ
    go_enter Try.func21, Try.ntmps21
    go_wp2_with fail
    refine (HS.out _ HU.out HV.out (by simp; omega) (by simp; omega)).mono ?_
    rintro e w1 ⟨rfl, b1⟩
    simp only [World.size_alloc] at b1
    have B1 := Lib.hid (HB.out.trans (b1.mono (by omega)))
    clear b1 HS HU HV HX HY HB
    go_wp2
    go_ret
    exact ⟨rfl, B1.out⟩
  subst e1
  obtain rfl : q = true := HQ.out.2 rfl
  have HRR := Lib.hid (show r = true ↔ K = N from by rw [HR.out]; simp)
  clear HR HQ
  obtain ⟨X1, X2, X3, eX, hx1, hx2, hx3, hxc⟩ := HX.out
  obtain ⟨rfl, rfl, rfl⟩ : A2 = X1 ∧ n2 = X2 ∧ c2 = X3 := by injection eX with e1 e2 e3; exact ⟨e1, e2, e3⟩
  obtain ⟨Y1, Y2, Y3, eY, hy1, hy2, hy3, hyc⟩ := HY.out
  obtain ⟨rfl, rfl, rfl⟩ : A2' = Y1 ∧ n2' = Y2 ∧ c2' = Y3 := by injection eY with e1 e2 e3; exact ⟨e1, e2, e3⟩
  have HC := Lib.hid hxc
  have HC' := Lib.hid hyc
  have hnm : (n2 : Int) ≤ 1048576 := by omega
  have HL := Lib.hid (show K.length = n2 ∧ N.length = n2' from ⟨hx3, hy3⟩)
  clear hxc hyc eX eY hx1 hx2 hy1 hy2 hx3 hy3 HX HY hl hl'
  by_cases e1 : n2 = n2'
  case neg =>
    obtain rfl : r = false := not_true HRR.out (fun e => e1 (by rw [← HL.out.1, ← HL.out.2, e]))
    have n4 : ((n2 : Int) != (n2' : Int)) = true := cast_ne e1
    clear HRR e1
    go_enter Try.func21, Try.ntmps21
    go_wp2_with fail
    refine (HS.out _ HU.out HV.out (by simp; omega) (by simp; omega)).mono ?_
    rintro e w1 ⟨rfl, b1⟩
    simp only [World.size_alloc] at b1
    have B1 := Lib.hid (HB.out.trans (b1.mono (by omega)))
    obtain ⟨c0, c1, c2, c3⟩ := (Lib.hid (R0.out.below b1 (by omega))).out.four
    obtain ⟨d0, d1, d2, d3⟩ := (Lib.hid (R1.out.below b1 (by omega))).out.four
    clear b1 HS HU HV HB R0 R1
    go_wp2
    go_ret
    exact ⟨rfl, B1.out⟩
  subst e1
  have n4 : ((n2 : Int) != (n2 : Int)) = false := by simp
  go_enter Try.func21, Try.ntmps21
  go_wp2_with fail
  refine (HS.out _ HU.out HV.out (by simp; omega) (by simp; omega)).mono ?_
  rintro e w1 ⟨rfl, b1⟩
  simp only [World.size_alloc] at b1
  have B1 := Lib.hid (HB.out.trans (b1.mono (by omega)))
  have BQ := Lib.hid b1
  have R0' := Lib.hid (R0.out.below b1 (by omega))
  have R1' := Lib.hid (R1.out.below b1 (by omega))
  obtain ⟨c0, c1, c2, c3⟩ := R0'.out.four
  obtain ⟨d0, d1, d2, d3⟩ := R1'.out.four
  have z1 := b1.size
  simp only [World.size_alloc] at z1
  clear b1 HS HU HV HB R0 R1
  go_wp2
  clear c0 c1 c2 c3 d0 d1 d2 d3
  go_loopw [5] (fun i wr => ∃ k : Nat, k ≤ n2 ∧ i = .int .i64 k ∧ Hid (∀ j, j < k → K.getD j false = N.getD j false) ∧ Hid (Below w1.heap.size w1 wr)) (fun i _ => n2 - (intOf i).toNat)
  case atStart => exact ⟨0, by omega, rfl, Lib.hid fun j hj => by omega, Lib.hid (Below.refl _ _)⟩
  case round =>
    obtain ⟨k, hk, rfl, HAL, HBB⟩ := hrel
    obtain ⟨c0, c1, c2, c3⟩ := (R0'.out.below HBB.out (by omega)).four
    obtain ⟨d0, d1, d2, d3⟩ := (R1'.out.below HBB.out (by omega)).four
    by_cases hlt : k < n2
    · have hki : (k : Int) < (n2 : Int) := by omega
      obtain ⟨pb, po, rfl, hp2, hpx⟩ := HC.out (by omega)
      obtain ⟨pb', po', rfl, hp2', hpx'⟩ := HC'.out (by omega)
      have e1 := (HBB.out.cell (p := ⟨pb, po + k, none⟩) (by show pb < _; omega)).trans ((BQ.out.cell (p := ⟨pb, po + k, none⟩) (by show pb < _; omega)).trans (hpx k hlt))
      have e2 := (HBB.out.cell (p := ⟨pb', po' + k, none⟩) (by show pb' < _; omega)).trans ((BQ.out.cell (p := ⟨pb', po' + k, none⟩) (by show pb' < _; omega)).trans (hpx' k hlt))
      clear hpx hpx' hp2 hp2' HC HC'
      by_cases he : K.getD k false = N.getD k false
      · have HE := Lib.hid he
        rw [he] at e1
        clear he
        generalize hz : N.getD k false = z at *
        have hs : (z != z) = false := by simp
        have HZ := Lib.hid hz
        clear hz
        go_wp2_with fail
        go_quiet (fail)
        go_wp2
        go_roundw
        case rel => exact ⟨k + 1, by omega, by go_num, Lib.hid fun j hj => by
          by_cases e : j = k
          · subst e; exact HE.out.trans HZ.out.symm
          · exact HAL.out j (by omega), Lib.hid (below_drewN HBB.out _)⟩
        case measure => simp [intOf]; omega
      · have hs : (K.getD k false != N.getD k false) = true := by simpa using he
        obtain rfl : r = false := not_true HRR.out (fun e => he (by rw [e]))
        clear HRR he
        generalize K.getD k false = z at *
        generalize N.getD k false = z' at *
        have hs2 : (!z == z') = true := by cases z <;> cases z' <;> simp_all
        go_wp2_with fail
        go_quiet (fail)
        go_wp2
        go_ret
        exact ⟨rfl, below_drewN (B1.out.trans (HBB.out.mono (by omega))) _⟩
    · obtain rfl : k = n2 := by omega
      have hf : r = true := HRR.out.2 (list_same (d := false) (by have := HL.out; omega) fun i hi => HAL.out i (by have := HL.out; omega))
      subst hf
      clear HRR
      go_wp2
      go_ret
      exact ⟨rfl, B1.out.trans (HBB.out.mono (by omega))⟩
set_option maxHeartbeats 4000000 in
set_option maxRecDepth 100000 in
theorem implSamePm_any (u v : Value) (F G : Pm) (r : Bool) (w : World) (hi hi' : Nat) (hu : PmIn w hi u F) (hv : PmIn w hi' v G) (h1 : hi ≤ w.heap.size) (h2 : hi' ≤ w.heap.size) (hr : r = true ↔ F = G) (hl : PmSz F) (hl' : PmSz G) :
    Calls Try.prog 22 #[u, v] w fun e w' => e = .returned (.bool r) ∧ Below w.heap.size w w' := by
  obtain ⟨u, x, rfl, hu, hx⟩ := hu
  obtain ⟨v, y, rfl, hv, hy⟩ := hv
  unfold PmSz at hl hl'
  obtain ⟨q, hq⟩ := prop_dec' (F.mp = G.mp)
  obtain ⟨q2, hq2⟩ := prop_dec' (F.tr = G.tr)
  have HS := Lib.hid (fun (W : World) (a : NI W hi u F.mp) (b : NI W hi' v G.mp) (c : hi ≤ W.heap.size) (d : hi' ≤ W.heap.size) => slEqI_any u v F.mp G.mp q W hi hi' a b c d hq (by omega) (by omega))
  have HT := Lib.hid (fun (W : World) (a : NB W hi x F.tr) (b : NB W hi' y G.tr) (c : hi ≤ W.heap.size) (d : hi' ≤ W.heap.size) => slEqB_any x y F.tr G.tr q2 W hi hi' a b c d hq2 (by omega) (by omega))
  obtain ⟨A, n, c, rfl⟩ := hu.slice
  obtain ⟨A', n', c', rfl⟩ := hv.slice
  obtain ⟨A2, n2, c2, rfl⟩ := hx.slice
  obtain ⟨A2', n2', c2', rfl⟩ := hy.slice
  obtain ⟨b, p, L, K⟩ := F
  obtain ⟨b', p', M, N⟩ := G
  unfold pmc
  rw [pm_eq] at hr
  simp only at *
  obtain ⟨r0, r1, b0⟩ := Rw.two_new w 28 28 #[.int .i64 b, .int .i64 p, .slice A n c, .slice A2 n2 c2] #[.int .i64 b', .int .i64 p', .slice A' n' c', .slice A2' n2' c2']
  have HB := Lib.hid b0
  have HU := Lib.hid (hu.below b0 h1)
  have HV := Lib.hid (hv.below b0 h2)
  have HX := Lib.hid (hx.below b0 h1)
  have HY := Lib.hid (hy.below b0 h2)
  have R0 := Lib.hid r0
  have R1 := Lib.hid r1
  have HR := Lib.hid hr
  have HQ := Lib.hid hq
  have HQ2 := Lib.hid hq2
  clear hu hv hx hy hr hq hq2 hl hl' b0 r0 r1
  by_cases e1 : b = b'
  case neg =>
    obtain rfl : r = false := not_true HR.out (fun e => e1 e.1)
    have n1 : (b == b') = false := by simpa using e1
    clear e1 HS HT HR HU HV HX HY
    go_enter Try.func22, Try.ntmps22
    go_wp2
    go_ret
    exact ⟨rfl, HB.out⟩
  subst e1
  by_cases e1 : p = p'
  case neg =>
    obtain rfl : r = false := not_true HR.out (fun e => e1 e.2.1)
    have n1 : (b == b) = true := by simp
    have n2 : (p == p') = false := by simpa using e1
    clear e1 HS HT HR HU HV HX HY
    go_enter Try.func22, Try.ntmps22
    go_wp2
    go_ret
    exact ⟨rfl, HB.out⟩
  subst e1
  have n1 : (b == b) = true := by simp
  have n2 : (p == p) = true := by simp
  by_cases e1 : L = M
  case neg =>
    obtain rfl : r = false := not_true HR.out (fun e => e1 e.2.2.1)
    obtain rfl : q = false := not_true HQ.out e1
    clear e1 HR HQ HQ2
    go_enter Try.func22, Try.ntmps22
    go_wp2_with fail
    refine (HS.out _ HU.out HV.out (by simp; omega) (by simp; omega)).mono ?_
    rintro e w1 ⟨rfl, b1⟩
    simp only [World.size_alloc] at b1
    have B1 := Lib.hid (HB.out.trans (b1.mono (by omega)))
    clear b1 HS HT HU HV HX HY HB
    go_wp2
    go_ret
    exact ⟨rfl, B1.out⟩
  subst e1
  obtain rfl : q = true := HQ.out.2 rfl
  have HRR := Lib.hid (show r = true ↔ K = N from by rw [HR.out]; simp)
  clear HR HQ
  obtain rfl : q2 = r := by rw [Bool.eq_iff_iff, HQ2.out, HRR.out]
  clear HRR HQ2
  go_enter Try.func22, Try.ntmps22
  go_wp2_with fail
  refine (HS.out _ HU.out HV.out (by simp; omega) (by simp; omega)).mono ?_
  rintro e w1 ⟨rfl, b1⟩
  simp only [World.size_alloc] at b1
  have B1 := Lib.hid (HB.out.trans (b1.mono (by omega)))
  have X1 := Lib.hid (HX.out.below b1 (by omega))
  have Y1 := Lib.hid (HY.out.below b1 (by omega))
  have z1 := b1.size
  simp only [World.size_alloc] at z1
  obtain ⟨c0, c1, c2, c3⟩ := (Lib.hid (R0.out.below b1 (by omega))).out.four
  obtain ⟨d0, d1, d2, d3⟩ := (Lib.hid (R1.out.below b1 (by omega))).out.four
  clear b1 HS HU HV HX HY HB R0 R1
  go_wp2_with fail
  refine (HT.out _ X1.out Y1.out (by omega) (by omega)).mono ?_
  rintro e w2 ⟨rfl, b2⟩
  have B2 := Lib.hid (B1.out.trans (b2.mono (by omega)))
  clear c0 c1 c2 c3 d0 d1 d2 d3 b2 B1
  go_wp2
  go_ret
  exact ⟨rfl, B2.out⟩
end Go.Proofs.Ytfnccbanmgfkeaa
