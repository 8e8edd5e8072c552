/- The proof's own lemmas, part 29: CxL. -/
import Derived.Test.YtgamoiagpglcmaaProg
import Derived.Test.YtgamoiagpglcmaaMg14
import Derived.Test.YtgamoiagpglcmaaMg13
import Derived.Test.YtgamoiagpglcmaaMg17
import Derived.Deep.RegionLaw
import Derived.StillTailTactics
/- LeaksPattern, in the model and in the program: the contracts. -/
namespace Go.Proofs.Ytgamoiagpglcmaa
open Go.RowKit
set_option linter.unusedVariables false
set_option linter.unusedSimpArgs false

theorem leak1_any (x y0 : Int) (q : Bool) (g pb po n c : Nat) (w : World) (hR : Rw w g 42 #[.slice (some ⟨pb, po, none⟩) n c]) (h0 : 0 < n) (hc : w.cell? ⟨pb, po, none⟩ = some (.int .i64 y0)) (hq : q = true ↔ x ≠ y0) :
    Calls Try.prog 95 #[.int .i64 x, .pointer (some ⟨g, 0, none⟩)] w fun e w' => e = .returned (.bool q) ∧ w = w' := by
  have q0 := hR.one
  have hni : (0 : Int) < (n : Int) := by omega
  obtain rfl : q = (x != y0) := by rw [Bool.eq_iff_iff, hq]; simp
  have hc' : w.cell? ⟨pb, po + 0, none⟩ = some (.int .i64 y0) := hc
  clear hR hq
  go_enter Try.func95, Try.ntmps95
  go_wp2
  go_ret
  exact ⟨rfl, rfl⟩
set_option maxRecDepth 100000 in
theorem idxLk_any (p : Int → Prop) (v : Value) (cs : List Int) (r : Bool) (w : World) (hi : Nat) (gl : Nat) (hv : NI w hi v cs) (hh : hi ≤ w.heap.size) (HC : ∀ (W : World) (y : Int) (q : Bool), Below w.heap.size w W → 0 < cs.length → (q = true ↔ p y) → Calls Try.prog 95 #[.int .i64 y, .pointer (some ⟨gl, 0, none⟩)] W fun e w' => e = .returned (.bool q) ∧ W = w') (hr : r = true ↔ ∃ i, i < cs.length ∧ p (cs.getD i 0)) (hl : cs.length ≤ 1048576) :
    Calls Try.prog 152 #[v, .func (.func 95) #[] #[.pointer (some ⟨gl, 0, none⟩)]] w fun e w' => ∃ x : Int, e = .returned (.int .i64 x) ∧ (r = true ↔ 0 ≤ x) ∧ Below w.heap.size w w' := by
  obtain ⟨A, n, c, rfl, _, _, hn, hA⟩ := hv
  have HR := Lib.hid hr
  have HA := Lib.hid hA
  have HN := Lib.hid hn
  have HH := Lib.hid hh
  have HO := Lib.hid HC
  have hnm : (n : Int) ≤ 1048576 := by omega
  clear hA hr hn hl hh HC
  go_enter Try.func152, Try.ntmps152
  go_wp2
  go_loopw [5, 8] (fun i0 i wr => ∃ k : Nat, k ≤ n ∧ i = .int .i64 k ∧ Hid (∀ j, j < k → ¬ p (cs.getD j 0)) ∧ Hid (Below w.heap.size w wr)) (fun _ i _ => n - (intOf i).toNat)
  case atStart => exact ⟨0, by omega, rfl, Lib.hid (fun j hj => by omega), Lib.hid (Below.refl _ _)⟩
  case round =>
    obtain ⟨k, hk, rfl, HE, HB⟩ := hrel
    by_cases hlt : k < n
    · have hki : (k : Int) < (n : Int) := by omega
      obtain ⟨pb, po, rfl, hp2, hpx⟩ := HA.out (by omega)
      have e1 := (HB.out.cell (p := ⟨pb, po + k, none⟩) (by have := HH.out; show pb < _; omega)).trans (hpx k hlt)
      obtain ⟨q, hq⟩ := prop_dec' (p (cs.getD k 0))
      have HO1 := Lib.hid (fun (W : World) (B : Below w.heap.size w W) => HO.out W (cs.getD k 0) q B (by rw [HN.out]; omega) hq)
      have HF := Lib.hid (fun (e : q = true) => HR.out.2 ⟨k, by rw [HN.out]; exact hlt, hq.1 e⟩)
      have HY := Lib.hid (fun (e : q = false) => show ∀ j, j < k + 1 → ¬ p (cs.getD j 0) from fun j hj => by
        by_cases f : j = k
        · subst f
          intro h
          have := hq.2 h; rw [e] at this; cases this
        · exact HE.out j (by omega))
      clear hq hpx hp2 HR HE
      generalize cs.getD k 0 = y at *
      go_wp2_with fail
      refine (HO1.out _ HB.out).mono ?_
      rintro e w1 ⟨rfl, rfl⟩
      cases q with
      | true =>
        have HG := Lib.hid (HF.out rfl)
        clear HF HY
        go_wp2
        go_ret
        exact ⟨_, rfl, ⟨fun _ => by omega, fun _ => HG.out⟩, HB.out⟩
      | false =>
        have HG := Lib.hid (HY.out rfl)
        clear HF HY
        go_wp2
        go_roundw
        case rel => exact ⟨k + 1, by omega, by go_num, HG, HB⟩
        case measure => simp [intOf]; omega
    · obtain rfl : k = n := by omega
      have HG := Lib.hid (not_true HR.out (fun ⟨i, hi, e⟩ => HE.out i (by rw [HN.out] at hi; exact hi) e))
      clear HR HE
      go_wp2
      go_ret
      exact ⟨_, rfl, ⟨fun e => absurd (HG.out.symm.trans e) (by decide), fun e => by omega⟩, HB.out⟩
theorem hasLk_any (p : Int → Prop) (v : Value) (cs : List Int) (r : Bool) (w : World) (hi : Nat) (gl : Nat) (hv : NI w hi v cs) (hh : hi ≤ w.heap.size) (HC : ∀ (W : World) (y : Int) (q : Bool), Below w.heap.size w W → 0 < cs.length → (q = true ↔ p y) → Calls Try.prog 95 #[.int .i64 y, .pointer (some ⟨gl, 0, none⟩)] W fun e w' => e = .returned (.bool q) ∧ W = w') (hr : r = true ↔ ∃ i, i < cs.length ∧ p (cs.getD i 0)) (hl : cs.length ≤ 1048576) :
    Calls Try.prog 94 #[v, .func (.func 95) #[] #[.pointer (some ⟨gl, 0, none⟩)]] w fun e w' => e = .returned (.bool r) ∧ Below w.heap.size w w' := by
  obtain ⟨A, n, c, rfl⟩ := hv.slice
  have HI := Lib.hid (idxLk_any p _ cs r w hi gl hv hh HC hr hl)
  clear hv hr hl hh HC
  go_enter Try.func94, Try.ntmps94
  go_wp2_with fail
  refine HI.out.mono ?_
  rintro e w1 ⟨x, rfl, hx, b⟩
  have HB := Lib.hid b
  have HX := Lib.hid hx
  clear b hx
  go_wp2
  go_ret
  exact ⟨ret_bool (by rw [Bool.eq_iff_iff, HX.out]; simp), HB.out⟩
set_option maxHeartbeats 2000000 in
theorem implLeak_any (u : Value) (M : Ce) (r l : Bool) (w : World) (hi : Nat) (h : CeIn w hi u M) (hh : hi ≤ w.heap.size) (hr : r = true ↔ CeOk M) (hlk : l = true ↔ Leaks M) (hl : CeSz M) :
    Calls Try.prog 33 #[u] w fun e w' => e = .returned (.bool (r && l)) ∧ Below w.heap.size w w' := by
  obtain ⟨a, rfl, h1⟩ := h
  obtain ⟨A, n, c, rfl⟩ := h1.slice
  have HV := Lib.hid (fun (W : World) (b : Below w.heap.size w W) => implCeOk_any (.agg #[.slice A n c]) M r W hi ⟨_, rfl, h1.below b hh⟩ (by have := b.size; omega) hr hl)
  obtain ⟨cs⟩ := M
  unfold cec
  unfold CeSz at hl
  unfold Leaks at hlk
  simp only at *
  have hn : cs.length = n := h1.len_.1
  have r0 := Rw.new w 42 #[.slice A n c]
  have b0 := (Below.refl w.heap.size w).alloc (Nat.le_refl _) (.cells #[.slice A n c] 42)
  have q0 := r0.one
  have R0 := Lib.hid r0
  have B0 := Lib.hid b0
  have HL := Lib.hid (fun (W : World) (b : Below (w.heap.size + 1) (w.alloc (.cells #[.slice A n c] 42)) W) => hasLk_any (fun y => y ≠ cs.getD 0 0) (.slice A n c) cs l W hi w.heap.size
    (h1.below (b0.trans (b.mono (by omega))) hh) (by have := b.size; simp at this; omega) (fun W2 y q b2 h0 hq => by
      obtain ⟨_, _, _, e, _, _, _, hA⟩ := h1
      injection e with e1 e2 e3
      subst e1 e2 e3
      rw [hn] at h0
      obtain ⟨pb, po, rfl, hp, hx⟩ := hA h0
      have b3 := b.trans (b2.mono (by have := b.size; simpa using this))
      exact leak1_any y (cs.getD 0 0) q w.heap.size pb po n c W2 (r0.below b3 (by omega)) h0 (((b0.trans (b3.mono (by omega))).cell (p := ⟨pb, po, none⟩) (by show pb < _; omega)).trans (by simpa using hx 0 h0)) hq) hlk hl)
  clear h1 r0 b0 hr hlk
  go_enter Try.func33, Try.ntmps33
  go_wp2_with fail
  refine (HV.out _ B0.out).mono ?_
  rintro e w1 ⟨rfl, b1⟩
  have b1' : Below (w.heap.size + 1) (w.alloc (.cells #[.slice A n c] 42)) w1 := by simpa using b1
  have HB1 := Lib.hid (B0.out.trans (b1'.mono (by omega)))
  have R1 := Lib.hid (R0.out.below b1' (by omega))
  have HL1 := Lib.hid (HL.out w1 b1')
  clear q0 b1 b1'
  have q1 := R1.out.one
  cases r with
  | false =>
    clear HL HV HL1
    go_wp2
    go_ret
    exact ⟨rfl, HB1.out⟩
  | true =>
    go_wp2_with fail
    refine HL1.out.mono ?_
    rintro e w2 ⟨rfl, b2⟩
    have HB2 := Lib.hid (HB1.out.trans (b2.mono HB1.out.size))
    clear b2 HL HL1 HV
    go_wp2
    go_ret
    exact ⟨ret_bool (by simp), HB2.out⟩
end Go.Proofs.Ytgamoiagpglcmaa
