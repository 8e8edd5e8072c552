/- LogicalAt, in the program and in the model: the contracts. -/
import Derived.Test.YtbehoeabnomlaaaProg
import Derived.Test.YtbehoeabnomlaaaPmL
namespace Go.Proofs.Ytbehoeabnomlaaa
open Go.RowKit
set_option linter.unusedVariables false
set_option linter.unusedSimpArgs false
def logV (r : Bool) (a : Int) : Int := if r = true ∧ 0 ≤ a then a else 0
def logB (r : Bool) (a : Int) : Bool := r && decide (0 ≤ a)
theorem AtIs.own {H : Int} {mp : List Int} {tr : List Bool} {n : Nat} {z a : Int} (h : AtIs mp n z a) (hn : n ≤ mp.length) (he : ∀ i, i < n → EntOk H mp tr i) : (ownF mp n z).getD 0 = logV true a ∧ (ownF mp n z).isSome = logB true a := by
  rcases h with ⟨k, h1, h2, h3, h4, rfl⟩ | ⟨h1, rfl⟩
  · rw [ownF_some hn he h2 h1 h3]; simp [logV, logB]
  · rw [ownF_none he h1]; simp [logV, logB]
theorem AtIs.low {mp : List Int} {n : Nat} {z a : Int} (h : AtIs mp n z a) : a = -1 ∨ (0 ≤ a ∧ a < n) := by
  rcases h with ⟨k, h1, h2, h3, h4, rfl⟩ | ⟨h1, rfl⟩
  · exact .inr ⟨by omega, by omega⟩
  · exact .inl rfl
set_option maxHeartbeats 1000000 in
theorem specLog_any (u : Value) (M : Pm) (z a : Int) (r : Bool) (w : World) (hi : Nat) (h : PmIn w hi u M) (hh : hi ≤ w.heap.size) (hr : r = true ↔ PmOk M) (ha : AtIs M.mp M.mp.length z a) (hl : PmSz M) (hW : PmW M) :
    Calls Try.prog 26 #[u, .int .i64 z] w fun e w' => e = .returned (.tuple #[.int .i64 (logV r a), .bool (logB r a)]) ∧ Below w.heap.size w w' := by
  obtain ⟨x, y, rfl, h1, h2⟩ := h
  obtain ⟨A, n, c, rfl⟩ := h1.slice
  obtain ⟨A', n', c', rfl⟩ := h2.slice
  obtain ⟨bb, p, mp, tr⟩ := M
  unfold pmc
  simp only at *
  have hlo := ha.low
  have r0 := Rw.new w 28 #[.int .i64 bb, .int .i64 p, .slice A n c, .slice A' n' c']
  have b0 := (Below.refl w.heap.size w).alloc (Nat.le_refl _) (.cells #[.int .i64 bb, .int .i64 p, .slice A n c, .slice A' n' c'] 28)
  have hz : (w.alloc (.cells #[.int .i64 bb, .int .i64 p, .slice A n c, .slice A' n' c'] 28)).heap.size = w.heap.size + 1 := by simp
  have HS := Lib.hid (specOkP_any w.heap.size bb p mp tr _ _ r _ hi r0 (h1.below b0 hh) (h2.below b0 hh) (by simp; omega) hr (by unfold PmSz at hl; simpa using hl))
  have HA := Lib.hid (fun (W : World) (hb : Below w.heap.size w W) (hR : Rw W w.heap.size 28 #[.int .i64 bb, .int .i64 p, .slice A n c, .slice A' n' c']) => specAt_any w.heap.size bb p mp _ _ z a W hi hR (h1.below hb hh) (Nat.le_trans hh hb.size) ha (by unfold PmSz at hl; simp only at hl; omega))
  have B0 := Lib.hid b0
  have R0 := Lib.hid r0
  clear h1 h2 r0 b0 hr hl ha
  go_enter Try.func26, Try.ntmps26
  go_wp2_with fail
  refine HS.out.mono ?_
  rintro e w1 ⟨rfl, b1⟩
  rw [hz] at b1
  have B1 := Lib.hid (B0.out.trans (b1.mono (by omega)))
  have R1 := Lib.hid (R0.out.below b1 (by omega))
  clear b1 HS B0 R0 hz
  cases r with
  | false =>
    go_wp2
    go_ret2
    exact ⟨by simp [logV, logB], B1.out⟩
  | true =>
    have HA1 := Lib.hid (HA.out w1 B1.out R1.out)
    go_wp2_with fail
    refine HA1.out.mono ?_
    rintro e w2 ⟨rfl, q, rfl⟩
    rcases hlo with hlo | hlo
    · subst hlo
      go_wp2
      go_ret2
      exact ⟨by simp [logV, logB], below_drewN B1.out q⟩
    · have d1 : decide (a < 0) = false := by simp; omega
      have HL := Lib.hid (show logV true a = a ∧ logB true a = true from by simp [logV, logB]; omega)
      have HA2 := Lib.hid (HA.out (w1.drewN q) (below_drewN B1.out q) R1.out)
      clear HA HA1 hlo
      go_wp2_with fail
      refine HA2.out.mono ?_
      rintro e w3 ⟨rfl, q', rfl⟩
      go_wp2
      go_ret2
      exact ⟨by rw [HL.out.1, HL.out.2]; rfl, below_drewN B1.out _⟩
set_option maxHeartbeats 1000000 in
theorem implLog_any (u : Value) (M : Pm) (z a : Int) (r : Bool) (w : World) (hi : Nat) (h : PmIn w hi u M) (hh : hi ≤ w.heap.size) (hr : r = true ↔ PmOk M) (ha : AtIs M.mp M.mp.length z a) (hl : PmSz M) (hW : PmW M) (hz : WfI z) :
    Calls Try.prog 27 #[u, .int .i64 z] w fun e w' => e = .returned (.tuple #[.int .i64 (logV r a), .bool (logB r a)]) ∧ Below w.heap.size w w' := by
  have HV := Lib.hid (fun (W : World) (hb : Below w.heap.size w W) => implPmOk_any u M r W hi (h.below hb hh) (Nat.le_trans hh hb.size) hr hl hW)
  obtain ⟨x, y, rfl, h1, h2⟩ := h
  obtain ⟨A, n, c, rfl⟩ := h1.slice
  obtain ⟨A', n', c', rfl⟩ := h2.slice
  obtain ⟨bb, p, mp, tr⟩ := M
  unfold pmc at *
  simp only at *
  have hn : mp.length = n := by obtain ⟨X1, X2, X3, e, _, _, hn, _⟩ := h1; injection e with e1 e2 e3; omega
  have HO := Lib.hid (fun (W : World) (hb : Below w.heap.size w W) => owners_any bb p mp A A' n c n' c' W hi (h1.below hb hh) (Nat.le_trans hh hb.size) hW.2 (by unfold PmSz at hl; simp only at hl; omega))
  have HE := Lib.hid (fun (e : r = true) => ha.own (tr := tr) (H := bb * p) (Nat.le_refl _) (hr.1 e).2.2)
  have R0 := Lib.hid (Rw.new w 28 #[.int .i64 bb, .int .i64 p, .slice A n c, .slice A' n' c'])
  have B0 := Lib.hid ((Below.refl w.heap.size w).alloc (Nat.le_refl _) (.cells #[.int .i64 bb, .int .i64 p, .slice A n c, .slice A' n' c'] 28))
  have hz0 : (w.alloc (.cells #[.int .i64 bb, .int .i64 p, .slice A n c, .slice A' n' c'] 28)).heap.size = w.heap.size + 1 := by simp
  have HZ := Lib.hid hz
  rw [hn] at HE
  clear h1 h2 hr hl ha hW hz hn
  go_enter Try.func27, Try.ntmps27
  go_wp2_with fail
  refine (HV.out _ B0.out).mono ?_
  rintro e w1 ⟨rfl, b1⟩
  rw [hz0] at b1
  have B1 := Lib.hid (B0.out.trans (b1.mono (by omega)))
  obtain ⟨c0, c1, c2, c3⟩ := (Lib.hid (R0.out.below b1 (by omega))).out.four
  clear b1 HV B0 R0 hz0
  cases r with
  | false =>
    go_wp2
    go_ret2
    exact ⟨by simp [logV, logB], B1.out⟩
  | true =>
    obtain ⟨e1, e2⟩ := HE.out rfl
    have E1 := Lib.hid e1
    have E2 := Lib.hid e2
    clear e1 e2 HE
    go_wp2_with fail
    refine (HO.out w1 B1.out).mono ?_
    rintro e w2 ⟨g, rfl, hg, hm, b2⟩
    have hlk := hm.look HZ.out
    rw [E1.out, E2.out] at hlk
    have B2 := Lib.hid (B1.out.trans (b2.mono B1.out.size))
    clear hm b2 HO
    obtain ⟨v1, hv1⟩ : ∃ v, v = logV true a := ⟨_, rfl⟩
    obtain ⟨v2, hv2⟩ : ∃ v, v = logB true a := ⟨_, rfl⟩
    rw [← hv1, ← hv2] at hlk
    have V1 := Lib.hid hv1
    have V2 := Lib.hid hv2
    clear hv1 hv2 E1 E2
    go_wp2
    go_ret2
    exact ⟨by rw [← V1.out, ← V2.out]; rfl, B2.out⟩
end Go.Proofs.Ytbehoeabnomlaaa
