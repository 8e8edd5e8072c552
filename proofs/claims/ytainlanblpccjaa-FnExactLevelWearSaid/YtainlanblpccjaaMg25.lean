/- The proof's own lemmas, part 26: PmL PmA PmP PmE. -/
import Derived.Test.YtainlanblpccjaaProg
import Derived.Test.YtainlanblpccjaaMg23
import Derived.Test.YtainlanblpccjaaMg24
/- Which logical page owns a physical one, in the program and in the model: the contracts. -/
namespace Go.Proofs.Ytainlanblpccjaa
open Go.RowKit
set_option linter.unusedVariables false
set_option linter.unusedSimpArgs false
theorem wfI_nat (k : Nat) (h : (k : Int) ≤ 9223372036854775807) : WfI (k : Int) := by
  have h1 : IntKind.i64.min = -9223372036854775808 := by decide
  have h2 : IntKind.i64.max = 9223372036854775807 := by decide
  simp [WfI, Lit.wf]
  omega
/-- Of the first k entries: the last one that holds z, where z is a physical page. -/
def ownF (mp : List Int) : Nat → Int → Option Int
  | 0, _ => none
  | k + 1, z => if mp.getD k 0 ≠ -1 ∧ z = mp.getD k 0 then some (k : Int) else ownF mp k z
theorem ownF_none {H : Int} {mp : List Int} {tr : List Bool} {n : Nat} (he : ∀ i, i < n → EntOk H mp tr i) {z : Int} (h : ¬ (0 ≤ z ∧ ∃ k, k < n ∧ mp.getD k 0 = z)) : ownF mp n z = none := by
  induction n with
  | zero => rfl
  | succ n ih =>
    unfold ownF
    rw [if_neg, ih (fun i hi => he i (by omega)) (fun ⟨h1, k, h2, h3⟩ => h ⟨h1, k, by omega, h3⟩)]
    rintro ⟨e1, e2⟩
    rcases he n (by omega) with e | e
    · exact e1 e.1
    · exact h ⟨by omega, n, by omega, e2.symm⟩
theorem ent_ne {H : Int} {mp : List Int} {tr : List Bool} {i j : Nat} (hj : j < mp.length) (hij : i < j) (he : EntOk H mp tr j) (hz : 0 ≤ mp.getD j 0) : mp.getD i 0 ≠ mp.getD j 0 := by
  rcases he with e | e
  · omega
  · exact fun q => e.2 ((mem_take_iff (by omega)).2 ⟨i, hij, q⟩)
theorem ownF_some {H : Int} {mp : List Int} {tr : List Bool} {n k : Nat} (hn : n ≤ mp.length) (he : ∀ i, i < n → EntOk H mp tr i) {z : Int} (h0 : 0 ≤ z) (hk : k < n) (hz : mp.getD k 0 = z) : ownF mp n z = some (k : Int) := by
  induction n with
  | zero => omega
  | succ n ih =>
    unfold ownF
    by_cases e : k = n
    · subst e
      rw [if_pos ⟨by omega, hz.symm⟩]
    · rw [if_neg, ih (by omega) (fun i hi => he i (by omega)) (by omega)]
      rintro ⟨e1, e2⟩
      exact ent_ne (i := k) (by omega) (by omega) (he n (by omega)) (by omega) (by omega)
set_option maxHeartbeats 4000000 in
set_option maxRecDepth 100000 in
theorem owners_any (b p : Int) (mp : List Int) (A A' : Option Addr) (n c n' c' : Nat) (w : World) (hi : Nat) (ha : NI w hi (.slice A n c) mp) (hh : hi ≤ w.heap.size) (hwf : WfL mp) (hl : n ≤ 1048576) :
    Calls Try.prog 212 #[.agg #[.int .i64 b, .int .i64 p, .slice A n c, .slice A' n' c']] w fun e w' => ∃ g, e = .returned (.map (some g)) ∧ w.heap.size ≤ g ∧ IMp w' g (ownF mp n) n ∧ Below w.heap.size w w' := by
  obtain ⟨X1, X2, X3, e, _, _, hn, hA⟩ := ha
  obtain ⟨rfl, rfl, rfl⟩ : A = X1 ∧ n = X2 ∧ c = X3 := by injection e with e1 e2 e3; exact ⟨e1, e2, e3⟩
  clear e
  have R0 := Lib.hid (Rw.new w 104 #[.int .i64 b, .int .i64 p, .slice A n c, .slice A' n' c'])
  have B0 := Lib.hid ((Below.refl w.heap.size w).alloc (Nat.le_refl _) (.cells #[.int .i64 b, .int .i64 p, .slice A n c, .slice A' n' c'] 104))
  have HA := Lib.hid hA
  have HN := Lib.hid hn
  have HW := Lib.hid hwf
  have HH := Lib.hid hh
  have hnm : (n : Int) ≤ 1048576 := by omega
  clear hA hn hwf hh hl
  have HS0 := Lib.hid (IMp.made (w.alloc (.cells #[.int .i64 b, .int .i64 p, .slice A n c, .slice A' n' c'] 104)))
  rw [show (w.alloc (.cells #[.int .i64 b, .int .i64 p, .slice A n c, .slice A' n' c'] 104)).heap.size = w.heap.size + 1 by simp] at HS0
  have HB2 := Lib.hid (B0.out.alloc (by simp) (.map #[] 0))
  have RM := Lib.hid (R0.out.alloc (.map #[] 0))
  have hmm := @run_makeMap Try.prog
  obtain ⟨c0, c1, c2, c3⟩ := RM.out.four
  have hz2 : ((w.alloc (.cells #[.int .i64 b, .int .i64 p, .slice A n c, .slice A' n' c'] 104)).alloc (.map #[] 0)).heap.size = w.heap.size + 2 := by simp
  have HZ2 := Lib.hid hz2
  clear hz2
  go_enter Try.func212, Try.ntmps212
  go_wp2_with fail
  clear hmm
  go_loopw [10] (fun i wr => ∃ k : Nat, k ≤ n ∧ i = .int .i64 k ∧ Hid (IMp wr (w.heap.size + 1) (ownF mp k) k) ∧ Hid (Below w.heap.size w wr) ∧ Hid (w.heap.size + 2 ≤ wr.heap.size)) (fun i _ => n - (intOf i).toNat)
  case atStart => exact ⟨0, by omega, rfl, HS0, HB2, Lib.hid (by rw [HZ2.out]; omega)⟩
  case round =>
    clear c0 c1 c2 c3 HS0 RM HB2
    obtain ⟨k, hk, rfl, HS, HB, HZ⟩ := hrel
    by_cases hlt : k < n
    · have hki : (k : Int) < (n : Int) := by omega
      obtain ⟨pb, po, rfl, hp2, hpx⟩ := HA.out (by omega)
      have e1 := (HB.out.cell (p := ⟨pb, po + k, none⟩) (by have := HH.out; show pb < _; omega)).trans (hpx k hlt)
      have HWX := Lib.hid (HW.out k (by have := HN.out; omega))
      have HO := Lib.hid (show ∀ z, ownF mp (k + 1) z = if mp.getD k 0 ≠ -1 ∧ z = mp.getD k 0 then some (k : Int) else ownF mp k z from fun z => rfl)
      have HWK := Lib.hid (wfI_nat k (by omega))
      clear hp2 hpx
      generalize mp.getD k 0 = x at *
      by_cases hx : x = -1
      · have dx : (x != -1) = false := by simpa using hx
        have HS2 := Lib.hid ((HS.out.mono (show k ≤ k + 1 by omega)).alike (f' := ownF mp (k + 1)) (fun z _ => by rw [HO.out z, if_neg (fun e => e.1 hx)]))
        clear hx
        go_wp2
        go_roundw
        case rel => exact ⟨k + 1, by omega, by go_num, HS2, HB, HZ⟩
        case measure => simp [intOf]; omega
      · have dx : (x != -1) = true := by simpa using hx
        obtain ⟨w4, hpt, hs4, hg4⟩ := HS.out.put (by omega) HWX.out HWK.out
        have HB4 := Lib.hid (HB.out.grown hg4 HB.out.size (fun j e => by injection e with e; omega))
        have HZ4 := Lib.hid (show w.heap.size + 2 ≤ w4.heap.size from Nat.le_trans HZ.out hg4.size)
        have HS4 := Lib.hid (hs4.alike (f' := ownF mp (k + 1)) (fun z _ => by
          rw [HO.out z]
          by_cases e : z = x
          · rw [if_pos e, if_pos ⟨hx, e⟩]
          · rw [if_neg e, if_neg (fun q => e q.2)]))
        clear hx hs4 hg4
        go_wp2_with fail
        go_roundw
        case rel => exact ⟨k + 1, by omega, by go_num, HS4, HB4, HZ4⟩
        case measure => simp [intOf]; omega
    · obtain rfl : k = n := by omega
      go_wp2
      go_ret
      exact ⟨_, rfl, by omega, HS.out, HB.out⟩
/-- What the model says of the owner. -/
def AtIs (mp : List Int) (n : Nat) (z a : Int) : Prop := (∃ k : Nat, k < n ∧ 0 ≤ z ∧ mp.getD k 0 = z ∧ (∀ j, j < k → mp.getD j 0 ≠ z) ∧ a = k) ∨ (¬ (0 ≤ z ∧ ∃ k, k < n ∧ mp.getD k 0 = z) ∧ a = -1)
theorem atIs (mp : List Int) (n : Nat) (z : Int) : ∃ a, AtIs mp n z a := by
  by_cases h : 0 ≤ z ∧ ∃ k, k < n ∧ mp.getD k 0 = z
  · obtain ⟨h0, hk⟩ := h
    obtain ⟨k, h1, h2, h3⟩ : ∃ k, k < n ∧ mp.getD k 0 = z ∧ ∀ j, j < k → mp.getD j 0 ≠ z := by
      obtain ⟨k, hk1, hk2⟩ := hk
      induction k using Nat.strongRecOn with
      | ind k ih =>
        by_cases e : ∃ j, j < k ∧ mp.getD j 0 = z
        · obtain ⟨j, e1, e2⟩ := e
          exact ih j e1 (by omega) e2
        · exact ⟨k, hk1, hk2, fun j hj q => e ⟨j, hj, q⟩⟩
    exact ⟨k, .inl ⟨k, h1, h0, h2, h3, rfl⟩⟩
  · exact ⟨-1, .inr ⟨h, rfl⟩⟩
set_option maxHeartbeats 4000000 in
set_option maxRecDepth 100000 in
theorem specAt_any (g : Nat) (b p : Int) (mp : List Int) (u v : Value) (z a : Int) (w : World) (hi : Nat) (hR : Rw w g 104 #[.int .i64 b, .int .i64 p, u, v]) (hu : NI w hi u mp) (hh : hi ≤ w.heap.size) (ha : AtIs mp mp.length z a) (hl : mp.length ≤ 1048576) :
    Calls Try.prog 208 #[.pointer (some ⟨g, 0, none⟩), .int .i64 z] w fun e w' => e = .returned (.int .i64 a) ∧ ∃ q, w' = w.drewN q := by
  obtain ⟨A, n, c, rfl, _, _, hn, hA⟩ := hu
  rw [hn] at ha
  obtain ⟨q0, q1, q2, q3⟩ := hR.four
  have HA := Lib.hid hA
  have HAT := Lib.hid ha
  have hnm : (n : Int) ≤ 1048576 := by omega
  clear hR hA ha hn hl
  by_cases hz : 0 ≤ z
  case neg =>
    have d1 : decide (z ≥ 0) = false := by simp; omega
    have d2 : decide (0 ≤ z) = false := by simp; omega
    obtain rfl : a = -1 := by
      rcases HAT.out with ⟨k, _, h, _⟩ | h
      · exact absurd h hz
      · exact h.2
    clear HAT hz
    go_enter Try.func208, Try.ntmps208
    go_wp2
    go_loopw [5] (fun i wr => ∃ k : Nat, k ≤ n ∧ i = .int .i64 k ∧ ∃ q, wr = w.drewN q) (fun i _ => n - (intOf i).toNat)
    case atStart => exact ⟨0, by omega, rfl, 0, rfl⟩
    case round =>
      obtain ⟨k, hk, rfl, q, rfl⟩ := hrel
      by_cases hlt : k < n
      · have hki : (k : Int) < (n : Int) := by omega
        go_wp2
        go_roundw
        case rel => exact ⟨k + 1, by omega, by go_num, q, rfl⟩
        case measure => simp [intOf]; omega
      · obtain rfl : k = n := by omega
        go_wp2
        go_ret
        exact ⟨rfl, q, rfl⟩
  have d1 : decide (z ≥ 0) = true := by simp; omega
  have d2 : decide (0 ≤ z) = true := by simp; omega
  have HZ := Lib.hid hz
  clear hz
  go_enter Try.func208, Try.ntmps208
  go_wp2
  go_loopw [5] (fun i wr => ∃ k : Nat, k ≤ n ∧ i = .int .i64 k ∧ Hid (∀ j, j < k → mp.getD j 0 ≠ z) ∧ ∃ q, wr = w.drewN q) (fun i _ => n - (intOf i).toNat)
  case atStart => exact ⟨0, by omega, rfl, Lib.hid (fun j hj => by omega), 0, rfl⟩
  case round =>
    obtain ⟨k, hk, rfl, HQ, q, rfl⟩ := hrel
    by_cases hlt : k < n
    · have hki : (k : Int) < (n : Int) := by omega
      obtain ⟨pb, po, rfl, hp2, hpx⟩ := HA.out (by omega)
      have e1 := hpx k hlt
      by_cases hy : mp.getD k 0 = z
      · have HE := Lib.hid (show a = (k : Int) from by
          rcases HAT.out with ⟨j, h1, h2, h3, h4, h5⟩ | h
          · rcases Nat.lt_trichotomy j k with e | e | e
            · exact absurd h3 (HQ.out j e)
            · omega
            · exact absurd hy (h4 k e)
          · exact absurd ⟨HZ.out, k, hlt, hy⟩ h.1)
        rw [hy] at e1
        have hyy : (z == z) = true := by simp
        clear hy HAT hpx
        go_wp2
        go_ret
        exact ⟨by rw [HE.out]; rfl, q, rfl⟩
      · have hyy : (mp.getD k 0 == z) = false := by simpa using hy
        have HY2 := Lib.hid hy
        generalize hx : mp.getD k 0 = x at *
        have HX := Lib.hid hx
        clear hy hx hpx
        go_wp2
        go_roundw
        case rel => exact ⟨k + 1, by omega, by go_num, Lib.hid (fun i hi => by
          by_cases f : i = k
          · subst f; rw [HX.out]; exact HY2.out
          · exact HQ.out i (by omega)), q, rfl⟩
        case measure => simp [intOf]; omega
    · obtain rfl : k = n := by omega
      have HE := Lib.hid (show a = -1 from by
        rcases HAT.out with ⟨j, h1, h2, h3, h4, h5⟩ | h
        · exact absurd h3 (HQ.out j h1)
        · exact h.2)
      go_wp2
      go_ret
      exact ⟨by rw [HE.out]; rfl, q, rfl⟩
end Go.Proofs.Ytainlanblpccjaa
/- LogicalAt, in the program and in the model: the contracts. -/
namespace Go.Proofs.Ytainlanblpccjaa
open Go.RowKit
set_option linter.unusedVariables false
set_option linter.unusedSimpArgs false
def logV (r : Bool) (a : Int) : Int := if r = true ∧ 0 ≤ a then a else 0
def logB (r : Bool) (a : Int) : Bool := r && decide (0 ≤ a)
theorem AtIs.own {H : Int} {mp : List Int} {tr : List Bool} {n : Nat} {z a : Int} (h : AtIs mp n z a) (hn : n ≤ mp.length) (he : ∀ i, i < n → EntOk H mp tr i) : (ownF mp n z).getD 0 = logV true a ∧ (ownF mp n z).isSome = logB true a := by
  rcases h with ⟨k, h1, h2, h3, h4, rfl⟩ | ⟨h1, rfl⟩
  · rw [ownF_some hn he h2 h1 h3]; simp [logV, logB]
  · rw [ownF_none he h1]; simp [logV, logB]
theorem AtIs.low {mp : List Int} {n : Nat} {z a : Int} (h : AtIs mp n z a) : a = -1 ∨ (0 ≤ a ∧ a < n) := by
  rcases h with ⟨k, h1, h2, h3, h4, rfl⟩ | ⟨h1, rfl⟩
  · exact .inr ⟨by omega, by omega⟩
  · exact .inl rfl
end Go.Proofs.Ytainlanblpccjaa
/- PhysOf, in the program and in the model: the contracts. -/
namespace Go.Proofs.Ytainlanblpccjaa
open Go.RowKit
set_option linter.unusedVariables false
set_option linter.unusedSimpArgs false
/-- What PhysOf answers. -/
def PhIs (M : Pm) (r : Bool) (l v : Int) (ok : Bool) : Prop :=
  (∃ k : Nat, r = true ∧ k < M.mp.length ∧ l = k ∧ M.mp.getD k 0 ≠ -1 ∧ M.tr.getD k false = false ∧ v = M.mp.getD k 0 ∧ ok = true) ∨
  (∃ k : Nat, r = true ∧ k < M.mp.length ∧ l = k ∧ (M.mp.getD k 0 = -1 ∨ (M.mp.getD k 0 ≠ -1 ∧ M.tr.getD k false = true)) ∧ v = 0 ∧ ok = false) ∨
  (r = true ∧ ¬ (0 ≤ l ∧ l < M.mp.length) ∧ v = 0 ∧ ok = false) ∨ (r = false ∧ v = 0 ∧ ok = false)
theorem phIs (M : Pm) (r : Bool) (l : Int) : ∃ v ok, PhIs M r l v ok := by
  cases r
  · exact ⟨0, false, .inr (.inr (.inr ⟨rfl, rfl, rfl⟩))⟩
  · by_cases h : 0 ≤ l ∧ l < M.mp.length
    · obtain ⟨k, rfl⟩ : ∃ k : Nat, l = k := ⟨l.toNat, by omega⟩
      have hk : k < M.mp.length := by omega
      by_cases e : M.mp.getD k 0 = -1
      · exact ⟨0, false, .inr (.inl ⟨k, rfl, hk, rfl, .inl e, rfl, rfl⟩)⟩
      · cases t : M.tr.getD k false
        · exact ⟨_, true, .inl ⟨k, rfl, hk, rfl, e, t, rfl, rfl⟩⟩
        · exact ⟨0, false, .inr (.inl ⟨k, rfl, hk, rfl, .inr ⟨e, t⟩, rfl, rfl⟩)⟩
    · exact ⟨0, false, .inr (.inr (.inl ⟨rfl, h, rfl, rfl⟩))⟩
end Go.Proofs.Ytainlanblpccjaa
/- LiveIn, LivePages, in the program and in the model: the contracts. -/
namespace Go.Proofs.Ytainlanblpccjaa
open Go.RowKit
set_option linter.unusedVariables false
set_option linter.unusedSimpArgs false
theorem wfI_of {n : Int} (h0 : -9223372036854775808 ≤ n) (h : n ≤ 9223372036854775807) : WfI n := by
  have h1 : IntKind.i64.min = -9223372036854775808 := by decide
  have h2 : IntKind.i64.max = 9223372036854775807 := by decide
  simp [WfI, Lit.wf]
  omega
/-- The owners of the first k physical pages from z on. -/
def ownL (mp : List Int) (n : Nat) (z : Int) : Nat → List Int
  | 0 => []
  | k + 1 => match ownF mp n (z + (k : Int)) with
    | some a => ownL mp n z k ++ [a]
    | none => ownL mp n z k
theorem ownL_le (mp : List Int) (n : Nat) (z : Int) (k : Nat) : (ownL mp n z k).length ≤ k := by
  induction k with
  | zero => simp [ownL]
  | succ k ih =>
    unfold ownL
    split
    · simp; omega
    · omega
/-- What LiveIn answers. -/
def liveL (M : Pm) (r : Bool) (block : Int) : List Int := if r = true ∧ 0 ≤ block ∧ block < M.b then ownL M.mp M.mp.length (block * M.p) M.p.toNat else []
/-- The numbers of a block's pages. -/
theorem blockNums {b p block : Int} (hs : 1 ≤ b ∧ 1 ≤ p ∧ b * p ≤ 640) (h0 : 0 ≤ block) (h1 : block < b) : 0 ≤ block * p ∧ block * p + p ≤ 640 ∧ (block + 1) * p = block * p + p ∧ p ≤ 640 := by
  have a : (block + 1) * p ≤ b * p := Int.mul_le_mul_of_nonneg_right (by omega) (by omega)
  have c : (block + 1) * p = block * p + p := by rw [Int.add_mul, Int.one_mul]
  have d : 0 ≤ block * p := Int.mul_nonneg h0 (by omega)
  exact ⟨d, by omega, c, by omega⟩
set_option maxHeartbeats 4000000 in
set_option maxRecDepth 100000 in
theorem specLive_any (g : Nat) (b p block : Int) (mp : List Int) (tr : List Bool) (u v : Value) (w : World) (hi : Nat) (hR : Rw w g 104 #[.int .i64 b, .int .i64 p, u, v]) (hu : NI w hi u mp) (hh : hi ≤ w.heap.size) (hr : PmOk ⟨b, p, mp, tr⟩) :
    Calls Try.prog 159 #[.pointer (some ⟨g, 0, none⟩), .int .i64 block] w (CopyPostI (liveL ⟨b, p, mp, tr⟩ true block) w) := by
  have hg := hR.lt
  obtain ⟨⟨⟨hl1, hl2⟩, hb, hp, hbp⟩, ht, he⟩ := hr
  simp only at hl1 hl2 hb hp hbp ht he
  have hb3 := hb.1
  have hb4 := hb.2
  have HA := Lib.hid (fun (W : World) (hb : Below w.heap.size w W) (z a : Int) (ha : AtIs mp mp.length z a) => specAt_any g b p mp u v z a W hi (hR.below hb hg) (hu.below hb hh) (Nat.le_trans hh hb.size) ha (by omega))
  obtain ⟨q0, q1, q2, q3⟩ := hR.four
  have HO := Lib.hid (fun (z a : Int) (ha : AtIs mp mp.length z a) => ha.own (tr := tr) (H := b * p) (Nat.le_refl _) he)
  have HR := Lib.hid hR
  clear hR hu he ht
  by_cases hin : 0 ≤ block ∧ block < b
  case neg =>
    have HI := Lib.hid (fun (W : World) => inr_no block 0 (b - 1) W (by omega))
    have HL := Lib.hid (show liveL ⟨b, p, mp, tr⟩ true block = [] by unfold liveL; rw [if_neg (fun e => hin e.2)])
    have hi1 := IntsOwn.made w (B := w.heap.size) (Nat.le_refl _)
    have HB := Lib.hid ((Below.refl w.heap.size w).alloc (Nat.le_refl _) (.cells #[] 2))
    have q0a := (HR.out.alloc (.cells #[] 2)).four.1
    clear HA HO hin
    go_enter Try.func159, Try.ntmps159
    go_wp2_with (go_at_call 83; refine (HI.out _).mono ?_; rintro e w' ⟨rfl, rfl⟩)
    go_ret
    exact ⟨_, rfl, by rw [HL.out]; exact hi1, HB.out⟩
  obtain ⟨m0, m1, m2, m3⟩ := blockNums ⟨hb.1, hp.1, hbp⟩ hin.1 hin.2
  have HI := Lib.hid (fun (W : World) => inr_yes block 0 (b - 1) W (by omega) (by omega))
  have HL := Lib.hid (show liveL ⟨b, p, mp, tr⟩ true block = ownL mp mp.length (block * p) p.toNat by unfold liveL; rw [if_pos ⟨rfl, hin⟩])
  have hb1 := hin.1
  have hb2 := hin.2
  obtain ⟨P, rfl⟩ : ∃ P : Nat, p = P := ⟨p.toNat, by omega⟩
  generalize hz : block * (P : Int) = z0 at *
  generalize hE : (block + 1) * (P : Int) = E at *
  have w1 : IntKind.i64.wrap (block * (P : Int)) = z0 := by rw [hz]; exact IntWalk.i64_in _ (by omega)
  have w2 : IntKind.i64.wrap ((block + 1) * (P : Int)) = E := by rw [hE]; exact IntWalk.i64_in _ (by omega)
  have HPP := Lib.hid (show (P : Int).toNat = P by omega)
  have HM := Lib.hid m2
  have hEP : E = z0 + (P : Int) := by omega
  have HEP := Lib.hid hEP
  have HLEN := Lib.hid (ownL_le mp mp.length z0)
  have hi1 := IntsOwn.made w (B := w.heap.size) (Nat.le_refl _)
  have HB := Lib.hid ((Below.refl w.heap.size w).alloc (Nat.le_refl _) (.cells #[] 2))
  have HRa := Lib.hid (HR.out.alloc (.cells #[] 2))
  clear q0 q1 q2 q3
  obtain ⟨q0, q1, q2, q3⟩ := HRa.out.four
  clear hin hz hE m2 hEP hb hp hbp hl1 hl2
  go_enter Try.func159, Try.ntmps159
  go_wp2_with (go_at_call 83; refine (HI.out _).mono ?_; rintro e w' ⟨rfl, rfl⟩)
  go_loopw [5, 6] (fun v j wr => ∃ k : Nat, k ≤ P ∧ j = .int .i64 (z0 + (k : Int)) ∧ Hid (IntsOwn wr w.heap.size v (ownL mp mp.length z0 k)) ∧ Hid (Below w.heap.size w wr)) (fun _ j _ => (E - intOf j).toNat)
  case atStart => exact ⟨0, by omega, by simp, Lib.hid (by simpa [ownL] using hi1), HB⟩
  case round =>
    clear q0 q1 q2 q3 hi1 HB HRa
    obtain ⟨k, hk, rfl, hown, HB⟩ := hrel
    obtain ⟨q0, q1, q2, q3⟩ := (HR.out.below HB.out hg).four
    have hEP := HEP.out
    by_cases hlt : k < P
    · have hki : z0 + (k : Int) < E := by omega
      obtain ⟨a, ha⟩ := atIs mp mp.length (z0 + (k : Int))
      have HAT := Lib.hid (HA.out wr HB.out (z0 + (k : Int)) a ha)
      have ho := HO.out _ _ ha
      have hlow := ha.low
      have HNX := Lib.hid (show ownL mp mp.length z0 (k + 1) = match ownF mp mp.length (z0 + (k : Int)) with | some a => ownL mp mp.length z0 k ++ [a] | none => ownL mp mp.length z0 k from rfl)
      have hln := HLEN.out k
      clear ha
      go_wp2_with fail
      refine HAT.out.mono ?_
      rintro e w2 ⟨rfl, q, rfl⟩
      have HB2 := Lib.hid (below_drewN HB.out q)
      have hown2 : IntsOwn (wr.drewN q) w.heap.size u5 (ownL mp mp.length z0 k) := hown.out
      by_cases ha0 : 0 ≤ a
      · have d1 : decide (a ≥ 0) = true := by simpa using ha0
        have d2 : decide (0 ≤ a) = true := by simpa using ha0
        have HN2 := Lib.hid (show ownL mp mp.length z0 (k + 1) = ownL mp mp.length z0 k ++ [a] from by
          rw [HNX.out]
          cases hf : ownF mp mp.length (z0 + (k : Int)) with
          | none => rw [hf] at ho; simp [logB, ha0] at ho
          | some x => rw [hf] at ho; simp [logV, logB, ha0] at ho; rw [ho])
        have hb' := HB2.out
        have hz' := HB2.out.size
        clear HAT ho HNX hown HB hlow q0 q1 q2 q3
        go_wp2_with (at_builtin; refine wpList_append_int rfl _ _ rfl _ _ rfl hown2 hb' hz' _ _ rfl (by omega) ?_; intro v' w1 hown3 hb2; clear hown2 hb')
        go_roundw
        case rel => exact ⟨k + 1, by omega, congrArg (Value.int .i64) (by omega), Lib.hid (by rw [HN2.out]; exact hown3), Lib.hid hb2⟩
        case measure => simp [intOf]; omega
      · have d1 : decide (a ≥ 0) = false := by simp; omega
        have d2 : decide (0 ≤ a) = false := by simp; omega
        have HN2 := Lib.hid (show ownL mp mp.length z0 (k + 1) = ownL mp mp.length z0 k from by
          rw [HNX.out]
          cases hf : ownF mp mp.length (z0 + (k : Int)) with
          | none => rfl
          | some x => rw [hf] at ho; simp [logB, ha0] at ho)
        have HO2 := Lib.hid hown2
        clear HAT ho HNX hown HB hlow hown2
        go_wp2
        go_roundw
        case rel => exact ⟨k + 1, by omega, congrArg (Value.int .i64) (by omega), Lib.hid (by rw [HN2.out]; exact HO2.out), HB2⟩
        case measure => simp [intOf]; omega
    · obtain rfl : k = P := by omega
      have hki : ¬ (z0 + (k : Int) < E) := by omega
      go_wp2
      go_ret
      exact ⟨_, rfl, by rw [HL.out, HPP.out]; exact hown.out, HB.out⟩
theorem liveL_le {M : Pm} (h : PmOk M) (block : Int) : (liveL M true block).length ≤ 640 := by
  unfold liveL
  split
  · have := ownL_le M.mp M.mp.length (block * M.p) M.p.toNat
    have := h.1.2.2.1.2
    omega
  · simp
theorem liveL_no (M : Pm) (block : Int) : liveL M false block = [] := by unfold liveL; rw [if_neg (fun e => by cases e.1)]
theorem CopyPostI.low {L : List Int} {w w0 : World} {e : Ending} {w' : World} (h : CopyPostI L w e w') (hb : Below w0.heap.size w0 w) : CopyPostI L w0 e w' := by
  obtain ⟨v, h1, h2, h3⟩ := h
  exact ⟨v, h1, h2.low hb.size, hb.trans (h3.mono hb.size)⟩
end Go.Proofs.Ytainlanblpccjaa
