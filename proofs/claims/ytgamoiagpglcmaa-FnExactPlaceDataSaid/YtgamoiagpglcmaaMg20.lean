/- The proof's own lemmas, part 21: CxI CxS CxA CxE. -/
import Derived.Test.YtgamoiagpglcmaaProg
import Derived.Test.YtgamoiagpglcmaaMg19
import Derived.Test.YtgamoiagpglcmaaMg17
import Derived.Test.YtgamoiagpglcmaaMg5
import Derived.Deep.RegionLaw
import Derived.StillTailTactics
/- Which cells are valid, in the program: the contracts. -/
namespace Go.Proofs.Ytgamoiagpglcmaa
open Go.RowKit
set_option linter.unusedVariables false
set_option linter.unusedSimpArgs false
theorem outC_any (x : Int) (r : Bool) (w : World) (hr : r = true ↔ ¬ (0 ≤ x ∧ x ≤ 255)) : Calls Try.prog 93 #[.int .i64 x] w fun e w' => e = .returned (.bool r) ∧ w = w' := by
  by_cases h1 : 0 ≤ x
  case neg =>
    obtain rfl : r = true := hr.2 (fun e => h1 e.1)
    have d1 : decide (x < 0) = true := by simp; omega
    clear hr
    go_enter Try.func93, Try.ntmps93
    go_wp2
    go_ret
    exact ⟨rfl, rfl⟩
  have d1 : decide (x < 0) = false := by simp; omega
  obtain rfl : r = decide (x > 255) := by
    rw [Bool.eq_iff_iff, hr]; simp only [decide_eq_true_eq]; omega
  clear hr
  go_enter Try.func93, Try.ntmps93
  go_wp2
  go_ret
  exact ⟨rfl, rfl⟩
set_option maxRecDepth 100000 in
theorem idxVc_any (p : Int → Prop) (v : Value) (cs : List Int) (r : Bool) (w : World) (hi : Nat) (hv : NI w hi v cs) (hh : hi ≤ w.heap.size) (HC : ∀ (W : World) (y : Int) (q : Bool), Below w.heap.size w W → 0 < cs.length → (q = true ↔ p y) → Calls Try.prog 93 #[.int .i64 y] W fun e w' => e = .returned (.bool q) ∧ W = w') (hr : r = true ↔ ∃ i, i < cs.length ∧ p (cs.getD i 0)) (hl : cs.length ≤ 1048576) :
    Calls Try.prog 152 #[v, .func (.func 93) #[] #[]] w fun e w' => ∃ x : Int, e = .returned (.int .i64 x) ∧ (r = true ↔ 0 ≤ x) ∧ Below w.heap.size w w' := by
  obtain ⟨A, n, c, rfl, _, _, hn, hA⟩ := hv
  have HR := Lib.hid hr
  have HA := Lib.hid hA
  have HN := Lib.hid hn
  have HH := Lib.hid hh
  have HO := Lib.hid HC
  have hnm : (n : Int) ≤ 1048576 := by omega
  clear hA hr hn hl hh HC
  go_enter Try.func152, Try.ntmps152
  go_wp2
  go_loopw [5, 8] (fun i0 i wr => ∃ k : Nat, k ≤ n ∧ i = .int .i64 k ∧ Hid (∀ j, j < k → ¬ p (cs.getD j 0)) ∧ Hid (Below w.heap.size w wr)) (fun _ i _ => n - (intOf i).toNat)
  case atStart => exact ⟨0, by omega, rfl, Lib.hid (fun j hj => by omega), Lib.hid (Below.refl _ _)⟩
  case round =>
    obtain ⟨k, hk, rfl, HE, HB⟩ := hrel
    by_cases hlt : k < n
    · have hki : (k : Int) < (n : Int) := by omega
      obtain ⟨pb, po, rfl, hp2, hpx⟩ := HA.out (by omega)
      have e1 := (HB.out.cell (p := ⟨pb, po + k, none⟩) (by have := HH.out; show pb < _; omega)).trans (hpx k hlt)
      obtain ⟨q, hq⟩ := prop_dec' (p (cs.getD k 0))
      have HO1 := Lib.hid (fun (W : World) (B : Below w.heap.size w W) => HO.out W (cs.getD k 0) q B (by rw [HN.out]; omega) hq)
      have HF := Lib.hid (fun (e : q = true) => HR.out.2 ⟨k, by rw [HN.out]; exact hlt, hq.1 e⟩)
      have HY := Lib.hid (fun (e : q = false) => show ∀ j, j < k + 1 → ¬ p (cs.getD j 0) from fun j hj => by
        by_cases f : j = k
        · subst f
          intro h
          have := hq.2 h; rw [e] at this; cases this
        · exact HE.out j (by omega))
      clear hq hpx hp2 HR HE
      generalize cs.getD k 0 = y at *
      go_wp2_with fail
      refine (HO1.out _ HB.out).mono ?_
      rintro e w1 ⟨rfl, rfl⟩
      cases q with
      | true =>
        have HG := Lib.hid (HF.out rfl)
        clear HF HY
        go_wp2
        go_ret
        exact ⟨_, rfl, ⟨fun _ => by omega, fun _ => HG.out⟩, HB.out⟩
      | false =>
        have HG := Lib.hid (HY.out rfl)
        clear HF HY
        go_wp2
        go_roundw
        case rel => exact ⟨k + 1, by omega, by go_num, HG, HB⟩
        case measure => simp [intOf]; omega
    · obtain rfl : k = n := by omega
      have HG := Lib.hid (not_true HR.out (fun ⟨i, hi, e⟩ => HE.out i (by rw [HN.out] at hi; exact hi) e))
      clear HR HE
      go_wp2
      go_ret
      exact ⟨_, rfl, ⟨fun e => absurd (HG.out.symm.trans e) (by decide), fun e => by omega⟩, HB.out⟩
theorem hasVc_any (p : Int → Prop) (v : Value) (cs : List Int) (r : Bool) (w : World) (hi : Nat) (hv : NI w hi v cs) (hh : hi ≤ w.heap.size) (HC : ∀ (W : World) (y : Int) (q : Bool), Below w.heap.size w W → 0 < cs.length → (q = true ↔ p y) → Calls Try.prog 93 #[.int .i64 y] W fun e w' => e = .returned (.bool q) ∧ W = w') (hr : r = true ↔ ∃ i, i < cs.length ∧ p (cs.getD i 0)) (hl : cs.length ≤ 1048576) :
    Calls Try.prog 94 #[v, .func (.func 93) #[] #[]] w fun e w' => e = .returned (.bool r) ∧ Below w.heap.size w w' := by
  obtain ⟨A, n, c, rfl⟩ := hv.slice
  have HI := Lib.hid (idxVc_any p _ cs r w hi hv hh HC hr hl)
  clear hv hr hl hh HC
  go_enter Try.func94, Try.ntmps94
  go_wp2_with fail
  refine HI.out.mono ?_
  rintro e w1 ⟨x, rfl, hx, b⟩
  have HB := Lib.hid b
  have HX := Lib.hid hx
  clear b hx
  go_wp2
  go_ret
  exact ⟨ret_bool (by rw [Bool.eq_iff_iff, HX.out]; simp), HB.out⟩
set_option maxHeartbeats 2000000 in
set_option maxRecDepth 100000 in
theorem implCeOk_any (u : Value) (M : Ce) (r : Bool) (w : World) (hi : Nat) (h : CeIn w hi u M) (hh : hi ≤ w.heap.size) (hr : r = true ↔ CeOk M) (hl : CeSz M) :
    Calls Try.prog 31 #[u] w fun e w' => e = .returned (.bool r) ∧ Below w.heap.size w w' := by
  obtain ⟨a, rfl, h1⟩ := h
  obtain ⟨A, n, c, rfl⟩ := h1.slice
  obtain ⟨cs⟩ := M
  unfold cec
  unfold CeSz at hl
  simp only at *
  obtain ⟨qo, hqo⟩ := prop_dec' (∃ i, i < cs.length ∧ ¬ (0 ≤ cs.getD i 0 ∧ cs.getD i 0 ≤ 255))
  have hn : cs.length = n := by
    obtain ⟨X1, X2, X3, e', _, _, hn, _⟩ := h1
    injection e' with e1 e2 e3
    subst e2; exact hn
  have hnm : (n : Int) ≤ 1048576 := by omega
  have HR := Lib.hid (show r = true ↔ (n ≤ 64 ∧ qo = false) by
    rw [hr, CeOk]
    simp only [hn]
    refine ⟨fun ⟨a, c⟩ => ⟨a, not_true hqo (fun ⟨i, hi, e⟩ => e (c i (by rw [hn] at hi; exact hi)))⟩, fun ⟨a, c⟩ => ⟨a, fun i hi => ?_⟩⟩
    rcases Classical.em (ChOk cs i) with h | h
    · exact h
    · have := hqo.2 ⟨i, by rw [hn]; exact hi, h⟩; rw [c] at this; cases this)
  have r0 := Rw.new w 42 #[.slice A n c]
  have b0 := (Below.refl w.heap.size w).alloc (Nat.le_refl _) (.cells #[.slice A n c] 42)
  have q0 := r0.one
  have B0 := Lib.hid b0
  have HO := Lib.hid (hasVc_any (fun y => ¬ (0 ≤ y ∧ y ≤ 255)) (.slice A n c) cs qo _ hi (h1.below b0 hh) (by simp; omega) (fun W y q _ _ hq => outC_any y q W hq) hqo hl)
  clear h1 hr hl r0 b0 hh hn hqo
  by_cases h2 : n ≤ 64
  case neg =>
    have d2 : decide ((n : Int) ≤ 64) = false := by simp; omega
    obtain rfl : r = false := not_true HR.out (fun e => h2 e.1)
    clear HR h2 HO
    go_enter Try.func31, Try.ntmps31
    go_wp2
    go_ret
    exact ⟨rfl, B0.out⟩
  have d2 : decide ((n : Int) ≤ 64) = true := by simp; omega
  have HG := Lib.hid (show r = !qo by rw [Bool.eq_iff_iff, HR.out]; simp; exact fun _ => h2)
  clear HR h2
  go_enter Try.func31, Try.ntmps31
  go_wp2_with fail
  refine HO.out.mono ?_
  rintro e w1 ⟨rfl, b⟩
  have B1 := Lib.hid (B0.out.trans (b.mono (by simp)))
  clear b
  go_wp2
  go_ret
  exact ⟨ret_bool HG.out.symm, B1.out⟩
end Go.Proofs.Ytgamoiagpglcmaa
/- Which cells are valid, in the model: the contracts. -/
namespace Go.Proofs.Ytgamoiagpglcmaa
open Go.RowKit
set_option linter.unusedVariables false
set_option linter.unusedSimpArgs false
set_option maxHeartbeats 4000000 in
set_option maxRecDepth 100000 in
theorem specCeOk_any (u : Value) (M : Ce) (r : Bool) (w : World) (hi : Nat) (h : CeIn w hi u M) (hh : hi ≤ w.heap.size) (hr : r = true ↔ CeOk M) (hl : CeSz M) :
    Calls Try.prog 32 #[u] w fun e w' => e = .returned (.bool r) ∧ Below w.heap.size w w' := by
  obtain ⟨a, rfl, h1⟩ := h
  obtain ⟨A, n, c, rfl, _, _, hn, hA⟩ := h1
  obtain ⟨cs⟩ := M
  unfold cec
  unfold CeSz at hl
  simp only at *
  have r0 := Rw.new w 42 #[.slice A n c]
  have b0 := (Below.refl w.heap.size w).alloc (Nat.le_refl _) (.cells #[.slice A n c] 42)
  have q0 := r0.one
  have R0 := Lib.hid r0
  have B0 := Lib.hid b0
  have HR := Lib.hid (show r = true ↔ (n ≤ 64 ∧ ∀ i, i < n → ChOk cs i) by rw [hr, CeOk]; simp only [hn])
  have HA := Lib.hid hA
  have HN := Lib.hid hn
  have HH := Lib.hid hh
  have hnm : (n : Int) ≤ 1048576 := by omega
  clear r0 b0 hA hr hn hl hh
  by_cases g1 : n ≤ 64
  case neg =>
    obtain rfl : r = false := not_true HR.out (fun e => g1 e.1)
    have d1 : decide ((n : Int) > 64) = true := by simp; omega
    have d1' : decide (64 < (n : Int)) = true := by simp; omega
    clear HR HA g1
    go_enter Try.func32, Try.ntmps32
    go_wp2
    go_ret
    exact ⟨rfl, B0.out⟩
  have d1 : decide ((n : Int) > 64) = false := by simp; omega
  have d1' : decide (64 < (n : Int)) = false := by simp; omega
  have HG := Lib.hid g1
  go_enter Try.func32, Try.ntmps32
  go_wp2
  clear d1 d1'
  go_loopw [3] (fun i wr => ∃ k : Nat, k ≤ n ∧ i = .int .i64 k ∧ Hid (∀ j, j < k → ChOk cs j) ∧ Hid (Below w.heap.size w wr) ∧ Hid (Rw wr w.heap.size 42 #[.slice A n c])) (fun i _ => n - (intOf i).toNat)
  case atStart => exact ⟨0, by omega, rfl, Lib.hid (fun j hj => by omega), B0, R0⟩
  case round =>
    obtain ⟨k, hk, rfl, HE, HB, HRw⟩ := hrel
    clear q0
    have q0 := HRw.out.one
    by_cases hlt : k < n
    · have hki : (k : Int) < (n : Int) := by omega
      obtain ⟨pb, po, rfl, hp2, hpx⟩ := HA.out (by omega)
      have e1 := (HB.out.cell (p := ⟨pb, po + k, none⟩) (by have := HH.out; show pb < _; omega)).trans (hpx k hlt)
      have HF := Lib.hid (fun (e : ¬ ChOk cs k) => not_true HR.out (fun f => e (f.2 k hlt)))
      have HY := Lib.hid (fun (e : ChOk cs k) => show ∀ j, j < k + 1 → ChOk cs j from fun j hj => by
        by_cases f : j = k
        · subst f; exact e
        · exact HE.out j (by omega))
      unfold ChOk at HF HY
      generalize cs.getD k 0 = y at *
      clear hpx hp2
      by_cases hin : 0 ≤ y ∧ y ≤ 255
      case neg =>
        have HG2 := Lib.hid (HF.out hin)
        have HI := Lib.hid (fun (W : World) => inr_no y 0 255 W hin)
        clear HF HY HR HA hin HG HE
        go_wp2_with fail
        refine (HI.out _).mono ?_
        rintro e w1 ⟨rfl, rfl⟩
        go_wp2
        go_ret
        exact ⟨ret_bool HG2.out.symm, HB.out⟩
      have HI := Lib.hid (fun (W : World) => inr_yes y 0 255 W hin.1 hin.2)
      have HY2 := Lib.hid (HY.out hin)
      clear HF HY HR HA hin HG HE
      go_wp2_with fail
      refine (HI.out _).mono ?_
      rintro e w1 ⟨rfl, rfl⟩
      go_wp2
      go_roundw
      case rel => exact ⟨k + 1, by omega, by go_num, HY2, HB, HRw⟩
      case measure => simp [intOf]; omega
    · obtain rfl : k = n := by omega
      have hf : r = true := HR.out.2 ⟨HG.out, HE.out⟩
      subst hf
      clear HR HA HG HE
      go_wp2
      go_ret
      exact ⟨rfl, HB.out⟩
end Go.Proofs.Ytgamoiagpglcmaa
/- One number, or several, appended to a list of the call's own inside a region that draws its order. -/
namespace Go.Proofs.Ytgamoiagpglcmaa
open Go.RowKit
set_option linter.unusedVariables false
set_option linter.unusedSimpArgs false

theorem step_append_intL {Q : Exit → Act → World → Prop} {K : Act → World → Prop} {E : Prop} {ops : Array Oper} {o : Oper} {a : Act} {w0 wr : World} {B : Nat} (hgd : o.guard = none) (s x : Operand)
    (ho : o.op = .call { callee := .builtin .append, args := #[s, x], argTypes := #[22, 22] })
    (v : Value) (l : List Int) (hs : a.eval s = v) (hown : IntsOwn wr B v l) (hb : Below B w0 wr) (hB : B ≤ wr.heap.size)
    (pb po m c : Nat) (L : List Int) (hx : a.eval x = .slice (some ⟨pb, po, none⟩) m c) (hL : L.length = m) (hc : ∀ i, i < m → wr.cell? ⟨pb, po + i, none⟩ = some (.int .i64 (L.getD i 0))) (hl : l.length + m ≤ 2097152)
    (h : ∀ v' w', IntsOwn w' B v' (l ++ L) → Below B w0 w' → wr.grownBy w' v.ownBlock → K (a.put o.dst v') w') :
    if Region.wanted o (yielded ops a.tmps) = true then Oper.wp Try.prog o a wr K Q else E := by
  have hw : Region.wanted o (yielded ops a.tmps) = true := by simp [Region.wanted, hgd]
  rw [if_pos hw]
  obtain ⟨i0, hi, hz0, hz1, hz2⟩ := info_parts info64
  refine wp_append_own wr s x _ ho B 2 i0 (.int .i64 0) 1 8 Try.underlying22 hi hz0 hz1 hz2 rfl (by decide) v l.length (l.map (Value.int .i64)) hs hown ⟨pb, po, none⟩ m c (L.map (Value.int .i64)) hx (by simp [hL]) ?_ ?_ (by unfold maxLen; omega) (by omega) hB ?_
  · intro j u hj
    have hlt : j < L.length := by
      rcases Nat.lt_or_ge j L.length with h | h
      · exact h
      · rw [List.getElem?_eq_none (by simpa using h)] at hj; cases hj
    rw [Addr.add_lit, hc j (by omega)]
    simp [hlt] at hj ⊢
    exact hj
  · intro u hu; simp at hu; obtain ⟨_, _, rfl⟩ := hu; rfl
  · intro v' w' h1 h2 _
    refine h v' w' ?_ (hb.grown h2 hB fun k hk => (World.ownsRow.lt hown k hk).1) h2
    unfold IntsOwn; simpa [hL] using h1
/-- A block of one number. -/
theorem oneCell (w : World) (x : Int) (t : TypeId) (i : Nat) (h : i < 1) : (w.alloc (.cells #[.int .i64 x] t)).cell? ⟨w.heap.size, 0 + i, none⟩ = some (.int .i64 ([x].getD i 0)) := by
  obtain rfl : i = 0 := by omega
  exact (Rw.new w t #[.int .i64 x]).cell 0
end Go.Proofs.Ytgamoiagpglcmaa
/- EraseCells, in the model: the contract. -/
namespace Go.Proofs.Ytgamoiagpglcmaa
open Go.RowKit
set_option linter.unusedVariables false
set_option linter.unusedSimpArgs false

def CePost1 (G : Ce) (w : World) (e : Ending) (w' : World) : Prop := ∃ u, e = .returned u ∧ CeOwn w' w.heap.size w'.heap.size u G ∧ Below w.heap.size w w'
theorem tdiv4 {y : Int} (h : 0 ≤ y) : y.tdiv 4 = y / 4 := Int.tdiv_eq_ediv_of_nonneg h
theorem take_map_succ {α β : Type} (f : α → β) (l : List α) (k : Nat) (h : k < l.length) (d : α) : (l.map f).take (k + 1) = (l.map f).take k ++ [f (l.getD k d)] := by
  rw [List.take_succ_eq_append_getElem (by simpa using h)]
  simp [List.getD_eq_getElem?_getD, h]
end Go.Proofs.Ytgamoiagpglcmaa
