/- Which logical page owns a physical one, in the program and in the model: the contracts. -/
import Derived.Test.YtbehoeabnomlaaaProg
import Derived.Test.YtbehoeabnomlaaaPmI
import Derived.Test.YtbehoeabnomlaaaPmS
import Derived.Test.YtbehoeabnomlaaaIm
namespace Go.Proofs.Ytbehoeabnomlaaa
open Go.RowKit
set_option linter.unusedVariables false
set_option linter.unusedSimpArgs false
theorem wfI_nat (k : Nat) (h : (k : Int) ≤ 9223372036854775807) : WfI (k : Int) := by
  have h1 : IntKind.i64.min = -9223372036854775808 := by decide
  have h2 : IntKind.i64.max = 9223372036854775807 := by decide
  simp [WfI, Lit.wf]
  omega
/-- Of the first k entries: the last one that holds z, where z is a physical page. -/
def ownF (mp : List Int) : Nat → Int → Option Int
  | 0, _ => none
  | k + 1, z => if mp.getD k 0 ≠ -1 ∧ z = mp.getD k 0 then some (k : Int) else ownF mp k z
theorem ownF_none {H : Int} {mp : List Int} {tr : List Bool} {n : Nat} (he : ∀ i, i < n → EntOk H mp tr i) {z : Int} (h : ¬ (0 ≤ z ∧ ∃ k, k < n ∧ mp.getD k 0 = z)) : ownF mp n z = none := by
  induction n with
  | zero => rfl
  | succ n ih =>
    unfold ownF
    rw [if_neg, ih (fun i hi => he i (by omega)) (fun ⟨h1, k, h2, h3⟩ => h ⟨h1, k, by omega, h3⟩)]
    rintro ⟨e1, e2⟩
    rcases he n (by omega) with e | e
    · exact e1 e.1
    · exact h ⟨by omega, n, by omega, e2.symm⟩
theorem ent_ne {H : Int} {mp : List Int} {tr : List Bool} {i j : Nat} (hj : j < mp.length) (hij : i < j) (he : EntOk H mp tr j) (hz : 0 ≤ mp.getD j 0) : mp.getD i 0 ≠ mp.getD j 0 := by
  rcases he with e | e
  · omega
  · exact fun q => e.2 ((mem_take_iff (by omega)).2 ⟨i, hij, q⟩)
theorem ownF_some {H : Int} {mp : List Int} {tr : List Bool} {n k : Nat} (hn : n ≤ mp.length) (he : ∀ i, i < n → EntOk H mp tr i) {z : Int} (h0 : 0 ≤ z) (hk : k < n) (hz : mp.getD k 0 = z) : ownF mp n z = some (k : Int) := by
  induction n with
  | zero => omega
  | succ n ih =>
    unfold ownF
    by_cases e : k = n
    · subst e
      rw [if_pos ⟨by omega, hz.symm⟩]
    · rw [if_neg, ih (by omega) (fun i hi => he i (by omega)) (by omega)]
      rintro ⟨e1, e2⟩
      exact ent_ne (i := k) (by omega) (by omega) (he n (by omega)) (by omega) (by omega)
set_option maxHeartbeats 4000000 in
set_option maxRecDepth 100000 in
theorem owners_any (b p : Int) (mp : List Int) (A A' : Option Addr) (n c n' c' : Nat) (w : World) (hi : Nat) (ha : NI w hi (.slice A n c) mp) (hh : hi ≤ w.heap.size) (hwf : WfL mp) (hl : n ≤ 1048576) :
    Calls Try.prog 70 #[.agg #[.int .i64 b, .int .i64 p, .slice A n c, .slice A' n' c']] w fun e w' => ∃ g, e = .returned (.map (some g)) ∧ w.heap.size ≤ g ∧ IMp w' g (ownF mp n) n ∧ Below w.heap.size w w' := by
  obtain ⟨X1, X2, X3, e, _, _, hn, hA⟩ := ha
  obtain ⟨rfl, rfl, rfl⟩ : A = X1 ∧ n = X2 ∧ c = X3 := by injection e with e1 e2 e3; exact ⟨e1, e2, e3⟩
  clear e
  have R0 := Lib.hid (Rw.new w 28 #[.int .i64 b, .int .i64 p, .slice A n c, .slice A' n' c'])
  have B0 := Lib.hid ((Below.refl w.heap.size w).alloc (Nat.le_refl _) (.cells #[.int .i64 b, .int .i64 p, .slice A n c, .slice A' n' c'] 28))
  have HA := Lib.hid hA
  have HN := Lib.hid hn
  have HW := Lib.hid hwf
  have HH := Lib.hid hh
  have hnm : (n : Int) ≤ 1048576 := by omega
  clear hA hn hwf hh hl
  have HS0 := Lib.hid (IMp.made (w.alloc (.cells #[.int .i64 b, .int .i64 p, .slice A n c, .slice A' n' c'] 28)))
  rw [show (w.alloc (.cells #[.int .i64 b, .int .i64 p, .slice A n c, .slice A' n' c'] 28)).heap.size = w.heap.size + 1 by simp] at HS0
  have HB2 := Lib.hid (B0.out.alloc (by simp) (.map #[] 0))
  have RM := Lib.hid (R0.out.alloc (.map #[] 0))
  have hmm := @run_makeMap Try.prog
  obtain ⟨c0, c1, c2, c3⟩ := RM.out.four
  have hz2 : ((w.alloc (.cells #[.int .i64 b, .int .i64 p, .slice A n c, .slice A' n' c'] 28)).alloc (.map #[] 0)).heap.size = w.heap.size + 2 := by simp
  have HZ2 := Lib.hid hz2
  clear hz2
  go_enter Try.func70, Try.ntmps70
  go_wp2_with fail
  clear hmm
  go_loopw [10] (fun i wr => ∃ k : Nat, k ≤ n ∧ i = .int .i64 k ∧ Hid (IMp wr (w.heap.size + 1) (ownF mp k) k) ∧ Hid (Below w.heap.size w wr) ∧ Hid (w.heap.size + 2 ≤ wr.heap.size)) (fun i _ => n - (intOf i).toNat)
  case atStart => exact ⟨0, by omega, rfl, HS0, HB2, Lib.hid (by rw [HZ2.out]; omega)⟩
  case round =>
    clear c0 c1 c2 c3 HS0 RM HB2
    obtain ⟨k, hk, rfl, HS, HB, HZ⟩ := hrel
    by_cases hlt : k < n
    · have hki : (k : Int) < (n : Int) := by omega
      obtain ⟨pb, po, rfl, hp2, hpx⟩ := HA.out (by omega)
      have e1 := (HB.out.cell (p := ⟨pb, po + k, none⟩) (by have := HH.out; show pb < _; omega)).trans (hpx k hlt)
      have HWX := Lib.hid (HW.out k (by have := HN.out; omega))
      have HO := Lib.hid (show ∀ z, ownF mp (k + 1) z = if mp.getD k 0 ≠ -1 ∧ z = mp.getD k 0 then some (k : Int) else ownF mp k z from fun z => rfl)
      have HWK := Lib.hid (wfI_nat k (by omega))
      clear hp2 hpx
      generalize mp.getD k 0 = x at *
      by_cases hx : x = -1
      · have dx : (x != -1) = false := by simpa using hx
        have HS2 := Lib.hid ((HS.out.mono (show k ≤ k + 1 by omega)).alike (f' := ownF mp (k + 1)) (fun z _ => by rw [HO.out z, if_neg (fun e => e.1 hx)]))
        clear hx
        go_wp2
        go_roundw
        case rel => exact ⟨k + 1, by omega, by go_num, HS2, HB, HZ⟩
        case measure => simp [intOf]; omega
      · have dx : (x != -1) = true := by simpa using hx
        obtain ⟨w4, hpt, hs4, hg4⟩ := HS.out.put (by omega) HWX.out HWK.out
        have HB4 := Lib.hid (HB.out.grown hg4 HB.out.size (fun j e => by injection e with e; omega))
        have HZ4 := Lib.hid (show w.heap.size + 2 ≤ w4.heap.size from Nat.le_trans HZ.out hg4.size)
        have HS4 := Lib.hid (hs4.alike (f' := ownF mp (k + 1)) (fun z _ => by
          rw [HO.out z]
          by_cases e : z = x
          · rw [if_pos e, if_pos ⟨hx, e⟩]
          · rw [if_neg e, if_neg (fun q => e q.2)]))
        clear hx hs4 hg4
        go_wp2_with fail
        go_roundw
        case rel => exact ⟨k + 1, by omega, by go_num, HS4, HB4, HZ4⟩
        case measure => simp [intOf]; omega
    · obtain rfl : k = n := by omega
      go_wp2
      go_ret
      exact ⟨_, rfl, by omega, HS.out, HB.out⟩
/-- What the model says of the owner. -/
def AtIs (mp : List Int) (n : Nat) (z a : Int) : Prop := (∃ k : Nat, k < n ∧ 0 ≤ z ∧ mp.getD k 0 = z ∧ (∀ j, j < k → mp.getD j 0 ≠ z) ∧ a = k) ∨ (¬ (0 ≤ z ∧ ∃ k, k < n ∧ mp.getD k 0 = z) ∧ a = -1)
theorem atIs (mp : List Int) (n : Nat) (z : Int) : ∃ a, AtIs mp n z a := by
  by_cases h : 0 ≤ z ∧ ∃ k, k < n ∧ mp.getD k 0 = z
  · obtain ⟨h0, hk⟩ := h
    obtain ⟨k, h1, h2, h3⟩ : ∃ k, k < n ∧ mp.getD k 0 = z ∧ ∀ j, j < k → mp.getD j 0 ≠ z := by
      obtain ⟨k, hk1, hk2⟩ := hk
      induction k using Nat.strongRecOn with
      | ind k ih =>
        by_cases e : ∃ j, j < k ∧ mp.getD j 0 = z
        · obtain ⟨j, e1, e2⟩ := e
          exact ih j e1 (by omega) e2
        · exact ⟨k, hk1, hk2, fun j hj q => e ⟨j, hj, q⟩⟩
    exact ⟨k, .inl ⟨k, h1, h0, h2, h3, rfl⟩⟩
  · exact ⟨-1, .inr ⟨h, rfl⟩⟩
set_option maxHeartbeats 4000000 in
set_option maxRecDepth 100000 in
theorem specAt_any (g : Nat) (b p : Int) (mp : List Int) (u v : Value) (z a : Int) (w : World) (hi : Nat) (hR : Rw w g 28 #[.int .i64 b, .int .i64 p, u, v]) (hu : NI w hi u mp) (hh : hi ≤ w.heap.size) (ha : AtIs mp mp.length z a) (hl : mp.length ≤ 1048576) :
    Calls Try.prog 69 #[.pointer (some ⟨g, 0, none⟩), .int .i64 z] w fun e w' => e = .returned (.int .i64 a) ∧ ∃ q, w' = w.drewN q := by
  obtain ⟨A, n, c, rfl, _, _, hn, hA⟩ := hu
  rw [hn] at ha
  obtain ⟨q0, q1, q2, q3⟩ := hR.four
  have HA := Lib.hid hA
  have HAT := Lib.hid ha
  have hnm : (n : Int) ≤ 1048576 := by omega
  clear hR hA ha hn hl
  by_cases hz : 0 ≤ z
  case neg =>
    have d1 : decide (z ≥ 0) = false := by simp; omega
    have d2 : decide (0 ≤ z) = false := by simp; omega
    obtain rfl : a = -1 := by
      rcases HAT.out with ⟨k, _, h, _⟩ | h
      · exact absurd h hz
      · exact h.2
    clear HAT hz
    go_enter Try.func69, Try.ntmps69
    go_wp2
    go_loopw [5] (fun i wr => ∃ k : Nat, k ≤ n ∧ i = .int .i64 k ∧ ∃ q, wr = w.drewN q) (fun i _ => n - (intOf i).toNat)
    case atStart => exact ⟨0, by omega, rfl, 0, rfl⟩
    case round =>
      obtain ⟨k, hk, rfl, q, rfl⟩ := hrel
      by_cases hlt : k < n
      · have hki : (k : Int) < (n : Int) := by omega
        go_wp2
        go_roundw
        case rel => exact ⟨k + 1, by omega, by go_num, q, rfl⟩
        case measure => simp [intOf]; omega
      · obtain rfl : k = n := by omega
        go_wp2
        go_ret
        exact ⟨rfl, q, rfl⟩
  have d1 : decide (z ≥ 0) = true := by simp; omega
  have d2 : decide (0 ≤ z) = true := by simp; omega
  have HZ := Lib.hid hz
  clear hz
  go_enter Try.func69, Try.ntmps69
  go_wp2
  go_loopw [5] (fun i wr => ∃ k : Nat, k ≤ n ∧ i = .int .i64 k ∧ Hid (∀ j, j < k → mp.getD j 0 ≠ z) ∧ ∃ q, wr = w.drewN q) (fun i _ => n - (intOf i).toNat)
  case atStart => exact ⟨0, by omega, rfl, Lib.hid (fun j hj => by omega), 0, rfl⟩
  case round =>
    obtain ⟨k, hk, rfl, HQ, q, rfl⟩ := hrel
    by_cases hlt : k < n
    · have hki : (k : Int) < (n : Int) := by omega
      obtain ⟨pb, po, rfl, hp2, hpx⟩ := HA.out (by omega)
      have e1 := hpx k hlt
      by_cases hy : mp.getD k 0 = z
      · have HE := Lib.hid (show a = (k : Int) from by
          rcases HAT.out with ⟨j, h1, h2, h3, h4, h5⟩ | h
          · rcases Nat.lt_trichotomy j k with e | e | e
            · exact absurd h3 (HQ.out j e)
            · omega
            · exact absurd hy (h4 k e)
          · exact absurd ⟨HZ.out, k, hlt, hy⟩ h.1)
        rw [hy] at e1
        have hyy : (z == z) = true := by simp
        clear hy HAT hpx
        go_wp2
        go_ret
        exact ⟨by rw [HE.out]; rfl, q, rfl⟩
      · have hyy : (mp.getD k 0 == z) = false := by simpa using hy
        have HY2 := Lib.hid hy
        generalize hx : mp.getD k 0 = x at *
        have HX := Lib.hid hx
        clear hy hx hpx
        go_wp2
        go_roundw
        case rel => exact ⟨k + 1, by omega, by go_num, Lib.hid (fun i hi => by
          by_cases f : i = k
          · subst f; rw [HX.out]; exact HY2.out
          · exact HQ.out i (by omega)), q, rfl⟩
        case measure => simp [intOf]; omega
    · obtain rfl : k = n := by omega
      have HE := Lib.hid (show a = -1 from by
        rcases HAT.out with ⟨j, h1, h2, h3, h4, h5⟩ | h
        · exact absurd h3 (HQ.out j h1)
        · exact h.2)
      go_wp2
      go_ret
      exact ⟨by rw [HE.out]; rfl, q, rfl⟩
end Go.Proofs.Ytbehoeabnomlaaa
