/- PhysOf, in the program and in the model: the contracts. -/
import Derived.Test.YtbehoeabnomlaaaProg
import Derived.Test.YtbehoeabnomlaaaPmL
namespace Go.Proofs.Ytbehoeabnomlaaa
open Go.RowKit
set_option linter.unusedVariables false
set_option linter.unusedSimpArgs false
/-- What PhysOf answers. -/
def PhIs (M : Pm) (r : Bool) (l v : Int) (ok : Bool) : Prop :=
  (∃ k : Nat, r = true ∧ k < M.mp.length ∧ l = k ∧ M.mp.getD k 0 ≠ -1 ∧ M.tr.getD k false = false ∧ v = M.mp.getD k 0 ∧ ok = true) ∨
  (∃ k : Nat, r = true ∧ k < M.mp.length ∧ l = k ∧ (M.mp.getD k 0 = -1 ∨ (M.mp.getD k 0 ≠ -1 ∧ M.tr.getD k false = true)) ∧ v = 0 ∧ ok = false) ∨
  (r = true ∧ ¬ (0 ≤ l ∧ l < M.mp.length) ∧ v = 0 ∧ ok = false) ∨ (r = false ∧ v = 0 ∧ ok = false)
theorem phIs (M : Pm) (r : Bool) (l : Int) : ∃ v ok, PhIs M r l v ok := by
  cases r
  · exact ⟨0, false, .inr (.inr (.inr ⟨rfl, rfl, rfl⟩))⟩
  · by_cases h : 0 ≤ l ∧ l < M.mp.length
    · obtain ⟨k, rfl⟩ : ∃ k : Nat, l = k := ⟨l.toNat, by omega⟩
      have hk : k < M.mp.length := by omega
      by_cases e : M.mp.getD k 0 = -1
      · exact ⟨0, false, .inr (.inl ⟨k, rfl, hk, rfl, .inl e, rfl, rfl⟩)⟩
      · cases t : M.tr.getD k false
        · exact ⟨_, true, .inl ⟨k, rfl, hk, rfl, e, t, rfl, rfl⟩⟩
        · exact ⟨0, false, .inr (.inl ⟨k, rfl, hk, rfl, .inr ⟨e, t⟩, rfl, rfl⟩)⟩
    · exact ⟨0, false, .inr (.inr (.inl ⟨rfl, h, rfl, rfl⟩))⟩
theorem hasLogical_any (b p l : Int) (A A' : Option Addr) (n c n' c' : Nat) (r : Bool) (w : World) (hn : (n : Int) ≤ 9223372036854775807) (hr : r = true ↔ (0 ≤ l ∧ l < n)) :
    Calls Try.prog 67 #[.agg #[.int .i64 b, .int .i64 p, .slice A n c, .slice A' n' c'], .int .i64 l] w fun e w' => e = .returned (.bool r) ∧ Below w.heap.size w w' := by
  have B0 := Lib.hid ((Below.refl w.heap.size w).alloc (Nat.le_refl _) (.cells #[.int .i64 b, .int .i64 p, .slice A n c, .slice A' n' c'] 28))
  have HR := Lib.hid hr
  have HL := Lib.hid (fun (W : World) => logicalPages_any b p A A' n c n' c' W hn)
  clear hr
  by_cases h1 : 0 ≤ l
  case neg =>
    have d1 : decide (0 ≤ l) = false := by simp; omega
    have d2 : decide (l ≥ 0) = false := by simp; omega
    obtain rfl : r = false := not_true HR.out (fun e => h1 e.1)
    clear HR h1
    go_enter Try.func67, Try.ntmps67
    go_wp2
    go_ret
    exact ⟨rfl, B0.out⟩
  have d1 : decide (0 ≤ l) = true := by simp; omega
  have d2 : decide (l ≥ 0) = true := by simp; omega
  obtain rfl : r = decide (l < (n : Int)) := by
    rw [Bool.eq_iff_iff, HR.out]; simp; omega
  clear HR h1
  go_enter Try.func67, Try.ntmps67
  go_wp2_with fail
  refine (HL.out _).mono ?_
  rintro e w1 ⟨rfl, b1⟩
  have B1 := Lib.hid (B0.out.trans (b1.mono (by simp)))
  go_wp2
  go_ret
  exact ⟨rfl, B1.out⟩
set_option maxHeartbeats 1000000 in
theorem hasData_any (b p : Int) (mp : List Int) (tr : List Bool) (A A' : Option Addr) (n c n' c' : Nat) (k : Nat) (r : Bool) (w : World) (hi : Nat) (ha : NI w hi (.slice A n c) mp) (hy : NB w hi (.slice A' n' c') tr) (hh : hi ≤ w.heap.size) (hk : k < n) (hk' : k < n') (hl : n ≤ 1048576) (hr : r = true ↔ (mp.getD k 0 ≠ -1 ∧ tr.getD k false = false)) :
    Calls Try.prog 68 #[.agg #[.int .i64 b, .int .i64 p, .slice A n c, .slice A' n' c'], .int .i64 (k : Int)] w fun e w' => e = .returned (.bool r) ∧ Below w.heap.size w w' := by
  obtain ⟨X1, X2, X3, e, _, _, hn, hA⟩ := ha
  obtain ⟨rfl, rfl, rfl⟩ : A = X1 ∧ n = X2 ∧ c = X3 := by injection e with e1 e2 e3; exact ⟨e1, e2, e3⟩
  clear e
  obtain ⟨X1, X2, X3, e, _, _, hn', hA'⟩ := hy
  obtain ⟨rfl, rfl, rfl⟩ : A' = X1 ∧ n' = X2 ∧ c' = X3 := by injection e with e1 e2 e3; exact ⟨e1, e2, e3⟩
  clear e
  obtain ⟨pb, po, rfl, hp2, hpx⟩ := hA (by omega)
  obtain ⟨pb', po', rfl, hp2', hpx'⟩ := hA' (by omega)
  have R0 := Rw.new w 28 #[.int .i64 b, .int .i64 p, .slice (some ⟨pb, po, none⟩) n c, .slice (some ⟨pb', po', none⟩) n' c']
  have B0 := Lib.hid ((Below.refl w.heap.size w).alloc (Nat.le_refl _) (.cells #[.int .i64 b, .int .i64 p, .slice (some ⟨pb, po, none⟩) n c, .slice (some ⟨pb', po', none⟩) n' c'] 28))
  have e1 := (B0.out.cell (p := ⟨pb, po + k, none⟩) (by show pb < _; omega)).trans (hpx k hk)
  have e2 := (B0.out.cell (p := ⟨pb', po' + k, none⟩) (by show pb' < _; omega)).trans (hpx' k hk')
  have hki : (k : Int) < (n : Int) := by omega
  have hki' : (k : Int) < (n' : Int) := by omega
  have hnm : (n : Int) ≤ 1048576 := by omega
  have HR := Lib.hid hr
  clear hpx hpx' hA hA' hr hn hn' hp2 hp2'
  generalize mp.getD k 0 = x at *
  generalize tr.getD k false = t at *
  obtain ⟨c0, c1, c2, c3⟩ := R0.four
  by_cases hx : x = -1
  · have dx : (x != -1) = false := by simpa using hx
    obtain rfl : r = false := not_true HR.out (fun e => e.1 hx)
    clear hx HR
    go_enter Try.func68, Try.ntmps68
    go_wp2
    go_ret
    exact ⟨rfl, B0.out⟩
  · have dx : (x != -1) = true := by simpa using hx
    obtain rfl : r = !t := by
      rw [Bool.eq_iff_iff, HR.out]; cases t <;> simp [hx]
    clear hx HR
    go_enter Try.func68, Try.ntmps68
    go_wp2
    go_ret
    exact ⟨rfl, B0.out⟩
set_option maxHeartbeats 2000000 in
theorem implPhys_any (u : Value) (M : Pm) (l v : Int) (r ok : Bool) (w : World) (hi : Nat) (h : PmIn w hi u M) (hh : hi ≤ w.heap.size) (hr : r = true ↔ PmOk M) (hp : PhIs M r l v ok) (hl : PmSz M) (hW : PmW M) :
    Calls Try.prog 25 #[u, .int .i64 l] w fun e w' => e = .returned (.tuple #[.int .i64 v, .bool ok]) ∧ Below w.heap.size w w' := by
  have HV := Lib.hid (fun (W : World) (hb : Below w.heap.size w W) => implPmOk_any u M r W hi (h.below hb hh) (Nat.le_trans hh hb.size) hr hl hW)
  obtain ⟨x, y, rfl, h1, h2⟩ := h
  obtain ⟨A, n, c, rfl⟩ := h1.slice
  obtain ⟨A', n', c', rfl⟩ := h2.slice
  obtain ⟨bb, p, mp, tr⟩ := M
  unfold pmc at *
  unfold PhIs at hp
  simp only at *
  have hn : mp.length = n := by obtain ⟨X1, X2, X3, e, _, _, hn, _⟩ := h1; injection e with e1 e2 e3; omega
  have hn' : tr.length = n' := by obtain ⟨X1, X2, X3, e, _, _, hn, _⟩ := h2; injection e with e1 e2 e3; omega
  have hlen : r = true → n' = n := fun e => by have := (hr.1 e).2.1; simp only at this; omega
  have hln : n ≤ 1048576 := by unfold PmSz at hl; simp only at hl; omega
  have hnm : (n : Int) ≤ 9223372036854775807 := by omega
  rw [hn] at hp
  have HL := Lib.hid (fun (W : World) (rl : Bool) (e : rl = true ↔ (0 ≤ l ∧ l < n)) => hasLogical_any bb p l A A' n c n' c' rl W hnm e)
  have HD := Lib.hid (fun (W : World) (hb : Below w.heap.size w W) (k : Nat) (rd : Bool) (hk : k < n) (hk' : k < n') (e : rd = true ↔ (mp.getD k 0 ≠ -1 ∧ tr.getD k false = false)) => hasData_any bb p mp tr A A' n c n' c' k rd W hi (h1.below hb hh) (h2.below hb hh) (Nat.le_trans hh hb.size) hk hk' hln e)
  have HX := Lib.hid (fun (W : World) (hb : Below w.heap.size w W) => h1.below hb hh)
  have R0 := Lib.hid (Rw.new w 28 #[.int .i64 bb, .int .i64 p, .slice A n c, .slice A' n' c'])
  have B0 := Lib.hid ((Below.refl w.heap.size w).alloc (Nat.le_refl _) (.cells #[.int .i64 bb, .int .i64 p, .slice A n c, .slice A' n' c'] 28))
  have hz0 : (w.alloc (.cells #[.int .i64 bb, .int .i64 p, .slice A n c, .slice A' n' c'] 28)).heap.size = w.heap.size + 1 := by simp
  clear h1 h2 hr hl hW hn hn'
  go_enter Try.func25, Try.ntmps25
  go_wp2_with fail
  refine (HV.out _ B0.out).mono ?_
  rintro e w1 ⟨rfl, b1⟩
  rw [hz0] at b1
  have B1 := Lib.hid (B0.out.trans (b1.mono (by omega)))
  have R1 := Lib.hid (R0.out.below b1 (by omega))
  obtain ⟨c0, c1, c2, c3⟩ := R1.out.four
  clear b1 HV B0 R0 hz0
  rcases hp with ⟨k, rfl, hk, rfl, hx, ht, rfl, rfl⟩ | ⟨k, rfl, hk, rfl, hx, rfl, rfl⟩ | ⟨rfl, hk, rfl, rfl⟩ | ⟨rfl, rfl, rfl⟩
  · have hki : (k : Int) < (n : Int) := by omega
    have HLL := Lib.hid (HL.out w1 true (by simp; omega))
    have hkn' : k < n' := by rw [hlen rfl]; exact hk
    have HDD := Lib.hid (fun (W : World) (hb : Below w.heap.size w W) => HD.out W hb k true hk hkn' ⟨fun _ => ⟨hx, ht⟩, fun _ => rfl⟩)
    clear HL HD hx ht hlen
    go_wp2_with fail
    refine HLL.out.mono ?_
    rintro e w2 ⟨rfl, b2⟩
    have B2 := Lib.hid (B1.out.trans (b2.mono B1.out.size))
    have R2 := Lib.hid (R1.out.below b2 R1.out.lt)
    clear b2 HLL c0 c1 c2 c3
    obtain ⟨c0, c1, c2, c3⟩ := R2.out.four
    go_wp2_with fail
    refine (HDD.out _ B2.out).mono ?_
    rintro e w3 ⟨rfl, b3⟩
    have B3 := Lib.hid (B2.out.trans (b3.mono B2.out.size))
    have R3 := Lib.hid (R2.out.below b3 R2.out.lt)
    clear b3 HDD c0 c1 c2 c3
    obtain ⟨c0, c1, c2, c3⟩ := R3.out.four
    obtain ⟨X1, X2, X3, e', _, _, _, hA⟩ := HX.out _ B3.out
    injection e' with e1 e2 e3
    subst e1 e2 e3
    obtain ⟨pb, po, rfl, hp2, hpx⟩ := hA (by omega)
    have e1 := hpx k hk
    clear hA hpx hp2
    obtain ⟨x, hx⟩ : ∃ x, x = mp.getD k 0 := ⟨_, rfl⟩
    rw [← hx] at e1
    have HXX := Lib.hid hx
    clear hx
    go_wp2
    go_ret2
    exact ⟨by rw [← HXX.out]; rfl, B3.out⟩
  · have hki : (k : Int) < (n : Int) := by omega
    have HLL := Lib.hid (HL.out w1 true (by simp; omega))
    have hkn' : k < n' := by rw [hlen rfl]; exact hk
    have HDD := Lib.hid (fun (W : World) (hb : Below w.heap.size w W) => HD.out W hb k false hk hkn' ⟨fun e => (by cases e), fun e => (by rcases hx with h | h; exact absurd h e.1; exact absurd (h.2.symm.trans e.2) (by simp))⟩)
    clear HL HD hx hlen
    go_wp2_with fail
    refine HLL.out.mono ?_
    rintro e w2 ⟨rfl, b2⟩
    have B2 := Lib.hid (B1.out.trans (b2.mono B1.out.size))
    have R2 := Lib.hid (R1.out.below b2 R1.out.lt)
    clear b2 HLL c0 c1 c2 c3
    obtain ⟨c0, c1, c2, c3⟩ := R2.out.four
    go_wp2_with fail
    refine (HDD.out _ B2.out).mono ?_
    rintro e w3 ⟨rfl, b3⟩
    have B3 := Lib.hid (B2.out.trans (b3.mono B2.out.size))
    clear b3 HDD c0 c1 c2 c3
    go_wp2
    go_ret2
    exact ⟨rfl, B3.out⟩
  · have HLL := Lib.hid (HL.out w1 false (by simp; omega))
    clear HL HD hlen hk
    go_wp2_with fail
    refine HLL.out.mono ?_
    rintro e w2 ⟨rfl, b2⟩
    have B2 := Lib.hid (B1.out.trans (b2.mono B1.out.size))
    clear b2 HLL c0 c1 c2 c3
    go_wp2
    go_ret2
    exact ⟨rfl, B2.out⟩
  · clear HL HD hlen
    go_wp2
    go_ret2
    exact ⟨rfl, B1.out⟩
set_option maxHeartbeats 2000000 in
/-- The model's helper: of a map whose entries are right. -/
theorem specPhysP_any (g : Nat) (b p : Int) (mp : List Int) (tr : List Bool) (u v : Value) (l x : Int) (ok : Bool) (w : World) (hi : Nat) (hR : Rw w g 28 #[.int .i64 b, .int .i64 p, u, v]) (hu : NI w hi u mp) (hv : NB w hi v tr) (hh : hi ≤ w.heap.size) (hr : PmOk ⟨b, p, mp, tr⟩) (hp : PhIs ⟨b, p, mp, tr⟩ true l x ok) :
    Calls Try.prog 66 #[.pointer (some ⟨g, 0, none⟩), .int .i64 l] w fun e w' => e = .returned (.tuple #[.int .i64 x, .bool ok]) ∧ w = w' := by
  obtain ⟨A, n, c, rfl, _, _, hn, hA⟩ := hu
  obtain ⟨A', n', c', rfl, _, _, hn', hA'⟩ := hv
  obtain ⟨q0, q1, q2, q3⟩ := hR.four
  unfold PhIs at hp
  unfold PmOk at hr
  simp only at hp hr
  rw [hn] at hp hr
  rw [hn'] at hr
  obtain ⟨hs, rfl, he⟩ := hr
  have hnm : (n' : Int) ≤ 48 := hs.1.2
  clear hR hn hn' hs
  rcases hp with ⟨k, _, hk, rfl, hx, ht, rfl, rfl⟩ | ⟨k, _, hk, rfl, hx, rfl, rfl⟩ | ⟨_, hk, rfl, rfl⟩ | ⟨h, _⟩
  · have hki : (k : Int) < (n' : Int) := by omega
    obtain ⟨pb, po, rfl, _, hpx⟩ := hA (by omega)
    obtain ⟨pb', po', rfl, _, hpx'⟩ := hA' (by omega)
    have e1 := hpx k hk
    have e2 := hpx' k hk
    have hx0 : 0 ≤ mp.getD k 0 := by rcases he k hk with e | e; exact absurd e.1 hx; exact e.1.1
    rw [ht] at e2
    have HI := Lib.hid (fun (W : World) => inr_yes (k : Int) 0 ((n' : Int) - 1) W (by omega) (by omega))
    clear hA hA' hpx hpx' he hx ht
    obtain ⟨z, hz⟩ : ∃ z, z = mp.getD k 0 := ⟨_, rfl⟩
    rw [← hz] at e1 hx0
    have HZ := Lib.hid hz
    have d1 : decide (z < 0) = false := by simp; omega
    clear hz hx0
    go_enter Try.func66, Try.ntmps66
    go_wp2_with (go_at_call 75; refine (HI.out _).mono ?_; rintro e w' ⟨rfl, rfl⟩)
    go_ret2
    exact ⟨by rw [← HZ.out]; rfl, rfl⟩
  · have hki : (k : Int) < (n' : Int) := by omega
    obtain ⟨pb, po, rfl, _, hpx⟩ := hA (by omega)
    obtain ⟨pb', po', rfl, _, hpx'⟩ := hA' (by omega)
    have e1 := hpx k hk
    have e2 := hpx' k hk
    have HI := Lib.hid (fun (W : World) => inr_yes (k : Int) 0 ((n' : Int) - 1) W (by omega) (by omega))
    rcases hx with hx | ⟨hx, ht⟩
    · rw [hx] at e1
      clear hA hA' hpx hpx' he hx
      go_enter Try.func66, Try.ntmps66
      go_wp2_with (go_at_call 75; refine (HI.out _).mono ?_; rintro e w' ⟨rfl, rfl⟩)
      go_ret2
      exact ⟨rfl, rfl⟩
    · have hx0 : 0 ≤ mp.getD k 0 := by rcases he k hk with e | e; exact absurd e.1 hx; exact e.1.1
      rw [ht] at e2
      clear hA hA' hpx hpx' he hx ht
      generalize mp.getD k 0 = z at *
      have d1 : decide (z < 0) = false := by simp; omega
      clear hx0
      go_enter Try.func66, Try.ntmps66
      go_wp2_with (go_at_call 75; refine (HI.out _).mono ?_; rintro e w' ⟨rfl, rfl⟩)
      go_ret2
      exact ⟨rfl, rfl⟩
  · have HI := Lib.hid (fun (W : World) => inr_no l 0 ((n' : Int) - 1) W (by omega))
    clear hA hA' he hk
    go_enter Try.func66, Try.ntmps66
    go_wp2_with (go_at_call 75; refine (HI.out _).mono ?_; rintro e w' ⟨rfl, rfl⟩)
    go_ret2
    exact ⟨rfl, rfl⟩
  · cases h
set_option maxHeartbeats 1000000 in
theorem specPhys_any (u : Value) (M : Pm) (l v : Int) (r ok : Bool) (w : World) (hi : Nat) (h : PmIn w hi u M) (hh : hi ≤ w.heap.size) (hr : r = true ↔ PmOk M) (hp : PhIs M r l v ok) (hl : PmSz M) (hW : PmW M) :
    Calls Try.prog 24 #[u, .int .i64 l] w fun e w' => e = .returned (.tuple #[.int .i64 v, .bool ok]) ∧ Below w.heap.size w w' := by
  obtain ⟨x, y, rfl, h1, h2⟩ := h
  obtain ⟨A, n, c, rfl⟩ := h1.slice
  obtain ⟨A', n', c', rfl⟩ := h2.slice
  obtain ⟨bb, p, mp, tr⟩ := M
  unfold pmc
  simp only at *
  have r0 := Rw.new w 28 #[.int .i64 bb, .int .i64 p, .slice A n c, .slice A' n' c']
  have b0 := (Below.refl w.heap.size w).alloc (Nat.le_refl _) (.cells #[.int .i64 bb, .int .i64 p, .slice A n c, .slice A' n' c'] 28)
  have hz : (w.alloc (.cells #[.int .i64 bb, .int .i64 p, .slice A n c, .slice A' n' c'] 28)).heap.size = w.heap.size + 1 := by simp
  have HS := Lib.hid (specOkP_any w.heap.size bb p mp tr _ _ r _ hi r0 (h1.below b0 hh) (h2.below b0 hh) (by simp; omega) hr (by unfold PmSz at hl; simpa using hl))
  have B0 := Lib.hid b0
  have R0 := Lib.hid r0
  cases r with
  | false =>
    obtain ⟨rfl, rfl⟩ : v = 0 ∧ ok = false := by
      rcases hp with ⟨_, e, _⟩ | ⟨_, e, _⟩ | ⟨e, _⟩ | ⟨_, e⟩
      · cases e
      · cases e
      · cases e
      · exact e
    clear h1 h2 r0 b0 hr hl hp
    go_enter Try.func24, Try.ntmps24
    go_wp2_with fail
    refine HS.out.mono ?_
    rintro e w1 ⟨rfl, b1⟩
    rw [hz] at b1
    have B1 := Lib.hid (B0.out.trans (b1.mono (by omega)))
    go_wp2
    go_ret2
    exact ⟨rfl, B1.out⟩
  | true =>
    have HP := Lib.hid (fun (W : World) (hb : Below w.heap.size w W) (hR : Rw W w.heap.size 28 #[.int .i64 bb, .int .i64 p, .slice A n c, .slice A' n' c']) => specPhysP_any w.heap.size bb p mp tr _ _ l v ok W hi hR (h1.below hb hh) (h2.below hb hh) (Nat.le_trans hh hb.size) (hr.1 rfl) hp)
    clear h1 h2 r0 b0 hr hl hp
    go_enter Try.func24, Try.ntmps24
    go_wp2_with fail
    refine HS.out.mono ?_
    rintro e w1 ⟨rfl, b1⟩
    rw [hz] at b1
    have B1 := Lib.hid (B0.out.trans (b1.mono (by omega)))
    have R1 := Lib.hid (R0.out.below b1 (by omega))
    clear b1
    go_wp2_with fail
    refine (HP.out _ B1.out R1.out).mono ?_
    rintro e w2 ⟨rfl, rfl⟩
    go_wp2
    go_ret2
    exact ⟨rfl, B1.out⟩
end Go.Proofs.Ytbehoeabnomlaaa
