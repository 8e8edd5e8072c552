/- Two tables of bad blocks compared, in the model and in the program: the contracts. -/
import Derived.Test.YtikdmkfngdihhabProg
import Derived.Test.YtikdmkfngdihhabEqI
import Derived.Test.YtikdmkfngdihhabFlG
namespace Go.Proofs.Ytikdmkfngdihhab
open Go.RowKit
set_option linter.unusedVariables false
theorem tb_eq {d b p sp d' b' p' sp' : Int} {L K M N : List Int} : (⟨d, b, p, sp, L, K⟩ : Tb) = ⟨d', b', p', sp', M, N⟩ ↔ (d = d' ∧ b = b' ∧ p = p') ∧ sp = sp' ∧ L = M ∧ K = N := by
  constructor
  · intro e; injection e; simp_all
  · rintro ⟨⟨rfl, rfl, rfl⟩, rfl, rfl, rfl⟩; rfl
set_option maxHeartbeats 4000000 in
set_option maxRecDepth 100000 in
theorem specSameTb_any (u v : Value) (F G : Tb) (r : Bool) (w : World) (hi hi' : Nat) (hu : TbIn w hi u F) (hv : TbIn w hi' v G) (h1 : hi ≤ w.heap.size) (h2 : hi' ≤ w.heap.size) (hr : r = true ↔ F = G) (hl : TbSz F) (hl' : TbSz G) :
    Calls Try.prog 23 #[u, v] w fun e w' => e = .returned (.bool r) ∧ Below w.heap.size w w' := by
  obtain ⟨u, x, rfl, hu, hx⟩ := hu
  obtain ⟨v, y, rfl, hv, hy⟩ := hv
  unfold TbSz at hl hl'
  obtain ⟨q, hq⟩ := prop_dec' (F.bad = G.bad)
  obtain ⟨q2, hq2⟩ := prop_dec' (F.rm = G.rm)
  have HS := Lib.hid (fun (W : World) (a : NI W hi u F.bad) (b : NI W hi' v G.bad) (c : hi ≤ W.heap.size) (d : hi' ≤ W.heap.size) => specEqI_any u v F.bad G.bad q W hi hi' a b c d hq (by omega) (by omega))
  have HT := Lib.hid (fun (W : World) (a : NI W hi x F.rm) (b : NI W hi' y G.rm) (c : hi ≤ W.heap.size) (d : hi' ≤ W.heap.size) => specEqI_any x y F.rm G.rm q2 W hi hi' a b c d hq2 (by omega) (by omega))
  obtain ⟨A, n, c, rfl⟩ := hu.slice
  obtain ⟨A', n', c', rfl⟩ := hv.slice
  obtain ⟨A2, n2, c2, rfl⟩ := hx.slice
  obtain ⟨A2', n2', c2', rfl⟩ := hy.slice
  obtain ⟨d, b, p, sp, L, K⟩ := F
  obtain ⟨d', b', p', sp', M, N⟩ := G
  unfold tbc
  rw [tb_eq] at hr
  simp only at *
  obtain ⟨r0, r1, b0⟩ := Rw.two_new w 50 50 #[.int .i64 d, .int .i64 b, .int .i64 p, .int .i64 sp, .slice A n c, .slice A2 n2 c2] #[.int .i64 d', .int .i64 b', .int .i64 p', .int .i64 sp', .slice A' n' c', .slice A2' n2' c2']
  have HB := Lib.hid b0
  have HU := Lib.hid (hu.below b0 h1)
  have HV := Lib.hid (hv.below b0 h2)
  have HX := Lib.hid (hx.below b0 h1)
  have HY := Lib.hid (hy.below b0 h2)
  have R0 := Lib.hid r0
  have R1 := Lib.hid r1
  have HR := Lib.hid hr
  have HQ := Lib.hid hq
  have HQ2 := Lib.hid hq2
  clear hu hv hx hy hr hq hq2 hl hl' b0 r0 r1
  by_cases e1 : d = d'
  case neg =>
    obtain rfl : r = false := not_true HR.out (fun e => e1 e.1.1)
    have n0 : (d == d') = false := by simpa using e1
    clear e1 HS HT HR HU HV HX HY
    go_enter Try.func23, Try.ntmps23
    go_wp2
    go_ret
    exact ⟨rfl, HB.out⟩
  subst e1
  by_cases e1 : b = b'
  case neg =>
    obtain rfl : r = false := not_true HR.out (fun e => e1 e.1.2.1)
    have n0 : (d == d) = true := by simp
    have n1 : (b == b') = false := by simpa using e1
    clear e1 HS HT HR HU HV HX HY
    go_enter Try.func23, Try.ntmps23
    go_wp2
    go_ret
    exact ⟨rfl, HB.out⟩
  subst e1
  by_cases e1 : p = p'
  case neg =>
    obtain rfl : r = false := not_true HR.out (fun e => e1 e.1.2.2)
    have n0 : (d == d) = true := by simp
    have n1 : (b == b) = true := by simp
    have n2 : (p == p') = false := by simpa using e1
    clear e1 HS HT HR HU HV HX HY
    go_enter Try.func23, Try.ntmps23
    go_wp2
    go_ret
    exact ⟨rfl, HB.out⟩
  subst e1
  by_cases e1 : sp = sp'
  case neg =>
    obtain rfl : r = false := not_true HR.out (fun e => e1 e.2.1)
    have n0 : (d == d) = true := by simp
    have n1 : (b == b) = true := by simp
    have n2 : (p == p) = true := by simp
    have n3 : (sp == sp') = false := by simpa using e1
    clear e1 HS HT HR HU HV HX HY
    go_enter Try.func23, Try.ntmps23
    go_wp2
    go_ret
    exact ⟨rfl, HB.out⟩
  subst e1
  have n0 : (d == d) = true := by simp
  have n1 : (b == b) = true := by simp
  have n2 : (p == p) = true := by simp
  have n3 : (sp == sp) = true := by simp
  by_cases e1 : L = M
  case neg =>
    obtain rfl : r = false := not_true HR.out (fun e => e1 e.2.2.1)
    obtain rfl : q = false := not_true HQ.out e1
    clear e1 HR HQ HQ2
    go_enter Try.func23, Try.ntmps23
    go_wp2_with fail
    refine (HS.out _ HU.out HV.out (by simp; omega) (by simp; omega)).mono ?_
    rintro e w1 ⟨rfl, b1⟩
    simp only [World.size_alloc] at b1
    have B1 := Lib.hid (HB.out.trans (b1.mono (by omega)))
    clear b1 HS HT HU HV HX HY HB
    go_wp2
    go_ret
    exact ⟨rfl, B1.out⟩
  subst e1
  obtain rfl : q = true := HQ.out.2 rfl
  have HRR := Lib.hid (show r = true ↔ K = N from by rw [HR.out]; simp)
  clear HR HQ
  obtain rfl : q2 = r := by rw [Bool.eq_iff_iff, HQ2.out, HRR.out]
  clear HRR HQ2
  go_enter Try.func23, Try.ntmps23
  go_wp2_with fail
  refine (HS.out _ HU.out HV.out (by simp; omega) (by simp; omega)).mono ?_
  rintro e w1 ⟨rfl, b1⟩
  simp only [World.size_alloc] at b1
  have B1 := Lib.hid (HB.out.trans (b1.mono (by omega)))
  have X1 := Lib.hid (HX.out.below b1 (by omega))
  have Y1 := Lib.hid (HY.out.below b1 (by omega))
  have z1 := b1.size
  simp only [World.size_alloc] at z1
  obtain ⟨c0, c1, c2, c3, c4, c5⟩ := (Lib.hid (R0.out.below b1 (by omega))).out.six
  obtain ⟨d0, d1, d2, d3, d4, d5⟩ := (Lib.hid (R1.out.below b1 (by omega))).out.six
  clear b1 HS HU HV HX HY HB R0 R1
  go_wp2_with fail
  refine (HT.out _ X1.out Y1.out (by omega) (by omega)).mono ?_
  rintro e w2 ⟨rfl, b2⟩
  have B2 := Lib.hid (B1.out.trans (b2.mono (by omega)))
  clear c0 c1 c2 c3 c4 c5 d0 d1 d2 d3 d4 d5 b2 B1
  go_wp2
  go_ret
  exact ⟨rfl, B2.out⟩
set_option maxHeartbeats 4000000 in
set_option maxRecDepth 100000 in
theorem implSameTb_any (u v : Value) (F G : Tb) (r : Bool) (w : World) (hi hi' : Nat) (hu : TbIn w hi u F) (hv : TbIn w hi' v G) (h1 : hi ≤ w.heap.size) (h2 : hi' ≤ w.heap.size) (hr : r = true ↔ F = G) (hl : TbSz F) (hl' : TbSz G) :
    Calls Try.prog 24 #[u, v] w fun e w' => e = .returned (.bool r) ∧ Below w.heap.size w w' := by
  obtain ⟨u, x, rfl, hu, hx⟩ := hu
  obtain ⟨v, y, rfl, hv, hy⟩ := hv
  unfold TbSz at hl hl'
  obtain ⟨q, hq⟩ := prop_dec' (F.bad = G.bad)
  obtain ⟨q2, hq2⟩ := prop_dec' (F.rm = G.rm)
  have HS := Lib.hid (fun (W : World) (a : NI W hi u F.bad) (b : NI W hi' v G.bad) (c : hi ≤ W.heap.size) (d : hi' ≤ W.heap.size) => slEqI_any u v F.bad G.bad q W hi hi' a b c d hq (by omega) (by omega))
  have HT := Lib.hid (fun (W : World) (a : NI W hi x F.rm) (b : NI W hi' y G.rm) (c : hi ≤ W.heap.size) (d : hi' ≤ W.heap.size) => slEqI_any x y F.rm G.rm q2 W hi hi' a b c d hq2 (by omega) (by omega))
  obtain ⟨A, n, c, rfl⟩ := hu.slice
  obtain ⟨A', n', c', rfl⟩ := hv.slice
  obtain ⟨A2, n2, c2, rfl⟩ := hx.slice
  obtain ⟨A2', n2', c2', rfl⟩ := hy.slice
  obtain ⟨d, b, p, sp, L, K⟩ := F
  obtain ⟨d', b', p', sp', M, N⟩ := G
  unfold tbc
  rw [tb_eq] at hr
  simp only at *
  obtain ⟨r0, r1, b0⟩ := Rw.two_new w 50 50 #[.int .i64 d, .int .i64 b, .int .i64 p, .int .i64 sp, .slice A n c, .slice A2 n2 c2] #[.int .i64 d', .int .i64 b', .int .i64 p', .int .i64 sp', .slice A' n' c', .slice A2' n2' c2']
  have HB := Lib.hid b0
  have HU := Lib.hid (hu.below b0 h1)
  have HV := Lib.hid (hv.below b0 h2)
  have HX := Lib.hid (hx.below b0 h1)
  have HY := Lib.hid (hy.below b0 h2)
  have R0 := Lib.hid r0
  have R1 := Lib.hid r1
  have HR := Lib.hid hr
  have HQ := Lib.hid hq
  have HQ2 := Lib.hid hq2
  clear hu hv hx hy hr hq hq2 hl hl' b0 r0 r1
  by_cases e1 : d = d'
  case neg =>
    obtain rfl : r = false := not_true HR.out (fun e => e1 e.1.1)
    have n0 : (d == d') = false := by simpa using e1
    clear e1 HS HT HR HU HV HX HY
    go_enter Try.func24, Try.ntmps24
    go_wp2
    go_ret
    exact ⟨rfl, HB.out⟩
  subst e1
  by_cases e1 : b = b'
  case neg =>
    obtain rfl : r = false := not_true HR.out (fun e => e1 e.1.2.1)
    have n0 : (d == d) = true := by simp
    have n1 : (b == b') = false := by simpa using e1
    clear e1 HS HT HR HU HV HX HY
    go_enter Try.func24, Try.ntmps24
    go_wp2
    go_ret
    exact ⟨rfl, HB.out⟩
  subst e1
  by_cases e1 : p = p'
  case neg =>
    obtain rfl : r = false := not_true HR.out (fun e => e1 e.1.2.2)
    have n0 : (d == d) = true := by simp
    have n1 : (b == b) = true := by simp
    have n2 : (p == p') = false := by simpa using e1
    clear e1 HS HT HR HU HV HX HY
    go_enter Try.func24, Try.ntmps24
    go_wp2
    go_ret
    exact ⟨rfl, HB.out⟩
  subst e1
  by_cases e1 : sp = sp'
  case neg =>
    obtain rfl : r = false := not_true HR.out (fun e => e1 e.2.1)
    have n0 : (d == d) = true := by simp
    have n1 : (b == b) = true := by simp
    have n2 : (p == p) = true := by simp
    have n3 : (sp == sp') = false := by simpa using e1
    clear e1 HS HT HR HU HV HX HY
    go_enter Try.func24, Try.ntmps24
    go_wp2
    go_ret
    exact ⟨rfl, HB.out⟩
  subst e1
  have n0 : (d == d) = true := by simp
  have n1 : (b == b) = true := by simp
  have n2 : (p == p) = true := by simp
  have n3 : (sp == sp) = true := by simp
  by_cases e1 : L = M
  case neg =>
    obtain rfl : r = false := not_true HR.out (fun e => e1 e.2.2.1)
    obtain rfl : q = false := not_true HQ.out e1
    clear e1 HR HQ HQ2
    go_enter Try.func24, Try.ntmps24
    go_wp2_with fail
    refine (HS.out _ HU.out HV.out (by simp; omega) (by simp; omega)).mono ?_
    rintro e w1 ⟨rfl, b1⟩
    simp only [World.size_alloc] at b1
    have B1 := Lib.hid (HB.out.trans (b1.mono (by omega)))
    clear b1 HS HT HU HV HX HY HB
    go_wp2
    go_ret
    exact ⟨rfl, B1.out⟩
  subst e1
  obtain rfl : q = true := HQ.out.2 rfl
  have HRR := Lib.hid (show r = true ↔ K = N from by rw [HR.out]; simp)
  clear HR HQ
  obtain rfl : q2 = r := by rw [Bool.eq_iff_iff, HQ2.out, HRR.out]
  clear HRR HQ2
  go_enter Try.func24, Try.ntmps24
  go_wp2_with fail
  refine (HS.out _ HU.out HV.out (by simp; omega) (by simp; omega)).mono ?_
  rintro e w1 ⟨rfl, b1⟩
  simp only [World.size_alloc] at b1
  have B1 := Lib.hid (HB.out.trans (b1.mono (by omega)))
  have X1 := Lib.hid (HX.out.below b1 (by omega))
  have Y1 := Lib.hid (HY.out.below b1 (by omega))
  have z1 := b1.size
  simp only [World.size_alloc] at z1
  obtain ⟨c0, c1, c2, c3, c4, c5⟩ := (Lib.hid (R0.out.below b1 (by omega))).out.six
  obtain ⟨d0, d1, d2, d3, d4, d5⟩ := (Lib.hid (R1.out.below b1 (by omega))).out.six
  clear b1 HS HU HV HX HY HB R0 R1
  go_wp2_with fail
  refine (HT.out _ X1.out Y1.out (by omega) (by omega)).mono ?_
  rintro e w2 ⟨rfl, b2⟩
  have B2 := Lib.hid (B1.out.trans (b2.mono (by omega)))
  clear c0 c1 c2 c3 c4 c5 d0 d1 d2 d3 d4 d5 b2 B1
  go_wp2
  go_ret
  exact ⟨rfl, B2.out⟩
end Go.Proofs.Ytikdmkfngdihhab
