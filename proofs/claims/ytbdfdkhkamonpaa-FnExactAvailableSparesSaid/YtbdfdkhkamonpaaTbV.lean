/- Which tables of bad blocks are valid, in the program: the small contracts. -/
import Derived.Test.YtbdfdkhkamonpaaProg
import Derived.Test.YtbdfdkhkamonpaaEqI
import Derived.Test.YtbdfdkhkamonpaaTbA
import Derived.Test.YtbdfdkhkamonpaaFlO
import Derived.Test.YtbdfdkhkamonpaaShelf
namespace Go.Proofs.Ytbdfdkhkamonpaa
open Go.RowKit
set_option linter.unusedVariables false
set_option linter.unusedSimpArgs false
theorem validSpare_any (d b p sp : Int) (r : Bool) (w : World) (hg : GeoOk d b p) (hr : r = true ↔ ((1 ≤ sp ∧ sp ≤ 4) ∧ sp < b - 1)) :
    Calls Try.prog 83 #[.agg #[.int .i64 d, .int .i64 b, .int .i64 p], .int .i64 sp] w fun e w' => e = .returned (.bool r) ∧ Below w.heap.size w w' := by
  have B0 := Lib.hid ((Below.refl w.heap.size w).alloc (Nat.le_refl _) (.cells #[.int .i64 d, .int .i64 b, .int .i64 p] 50))
  have hb : 4 ≤ b ∧ b ≤ 12 := hg.2.1
  have w1 : IntKind.i64.wrap (b - 1) = b - 1 := IntWalk.i64_in _ (by omega)
  clear hg
  by_cases h1 : 1 ≤ sp
  case neg =>
    have d1 : decide (1 ≤ sp) = false := by simp; omega
    have d2 : decide (sp ≥ 1) = false := by simp; omega
    obtain rfl : r = false := not_true hr (fun e => h1 e.1.1)
    clear hr h1
    go_enter Try.func83, Try.ntmps83
    go_wp2
    go_ret
    exact ⟨rfl, B0.out⟩
  have d1 : decide (1 ≤ sp) = true := by simp; omega
  have d2 : decide (sp ≥ 1) = true := by simp; omega
  by_cases h2 : sp ≤ 4
  case neg =>
    have d3 : decide (sp ≤ 4) = false := by simp; omega
    obtain rfl : r = false := not_true hr (fun e => h2 e.1.2)
    clear hr h1 h2
    go_enter Try.func83, Try.ntmps83
    go_wp2
    go_ret
    exact ⟨rfl, B0.out⟩
  have d3 : decide (sp ≤ 4) = true := by simp; omega
  obtain rfl : r = decide (sp < b - 1) := by
    rw [Bool.eq_iff_iff, hr]; simp; omega
  clear hr h1 h2
  go_enter Try.func83, Try.ntmps83
  go_wp2
  go_ret
  exact ⟨rfl, B0.out⟩
def prv (l : List Int) : Nat → Int
  | 0 => -1
  | k + 1 => l.getD k 0
theorem prv_ok {l : List Int} {H : Int} {k : Nat} (h : prv l k < l.getD k 0 ∧ l.getD k 0 < H) (ha : ∀ j, j < k → (0 ≤ l.getD j 0 ∧ l.getD j 0 < H) ∧ (0 < j → l.getD (j - 1) 0 < l.getD j 0)) :
    (0 ≤ l.getD k 0 ∧ l.getD k 0 < H) ∧ (0 < k → l.getD (k - 1) 0 < l.getD k 0) := by
  cases k with
  | zero => rw [show prv l 0 = -1 from rfl] at h; exact ⟨⟨by omega, h.2⟩, fun e => by omega⟩
  | succ k =>
    rw [show prv l (k + 1) = l.getD k 0 from rfl] at h
    have := (ha k (by omega)).1.1
    exact ⟨⟨by omega, h.2⟩, fun _ => h.1⟩
theorem prv_not {l : List Int} {H : Int} {k : Nat} (h : ¬ (prv l k < l.getD k 0 ∧ l.getD k 0 < H)) : ¬ ((0 ≤ l.getD k 0 ∧ l.getD k 0 < H) ∧ (0 < k → l.getD (k - 1) 0 < l.getD k 0)) := by
  intro e
  apply h
  cases k with
  | zero => rw [show prv l 0 = -1 from rfl]; exact ⟨by omega, e.1.2⟩
  | succ k => rw [show prv l (k + 1) = l.getD k 0 from rfl]; exact ⟨e.2 (by omega), e.1.2⟩
set_option maxHeartbeats 1000000 in
theorem increasing_any (v : Value) (l : List Int) (H : Int) (r : Bool) (w : World) (hi : Nat) (h : NI w hi v l) (hr : r = true ↔ Rises l H) (hl : l.length ≤ 1048576) :
    Calls Try.prog 84 #[v, .int .i64 H] w fun e w' => e = .returned (.bool r) ∧ w = w' := by
  obtain ⟨A, n, cap, rfl, hn1, hn2, hn, hA⟩ := h
  have hnm : (n : Int) ≤ 1048576 := by omega
  have HR := Lib.hid (show r = true ↔ ∀ i, i < n → (0 ≤ l.getD i 0 ∧ l.getD i 0 < H) ∧ (0 < i → l.getD (i - 1) 0 < l.getD i 0) by rw [hr, Rises, hn])
  have HA := Lib.hid hA
  clear hA hr hn hn1 hn2 hl
  go_enter Try.func84, Try.ntmps84
  go_wp2
  go_loop [5, 10] (fun pv i => ∃ k : Nat, k ≤ n ∧ pv = .int .i64 (prv l k) ∧ i = .int .i64 k ∧ Hid (∀ i, i < k → (0 ≤ l.getD i 0 ∧ l.getD i 0 < H) ∧ (0 < i → l.getD (i - 1) 0 < l.getD i 0))) (fun _ i => n - (intOf i).toNat)
  case atStart => exact ⟨0, by omega, rfl, rfl, Lib.hid fun j hj => by omega⟩
  case round =>
    obtain ⟨k, hk, rfl, rfl, HB⟩ := hrel
    by_cases hlt : k < n
    · have hki : (k : Int) < (n : Int) := by omega
      obtain ⟨b, off, rfl, hbl, hx⟩ := HA.out (by omega)
      have hc := hx k hlt
      clear hx
      have HY := Lib.hid (show prv l k < l.getD k 0 ∧ l.getD k 0 < H → _ from fun e => prv_ok e HB.out)
      have HN := Lib.hid (show ¬ (prv l k < l.getD k 0 ∧ l.getD k 0 < H) → r = false from fun e => not_true HR.out (fun f => prv_not e (f k hlt)))
      have HE := Lib.hid (show prv l (k + 1) = l.getD k 0 from rfl)
      generalize prv l k = z at *
      generalize hy : l.getD k 0 = y at *
      have HQ := Lib.hid hy
      clear hy
      by_cases h1 : y ≤ z
      · have d1 : decide (y ≤ z) = true := by simpa using h1
        have HF := Lib.hid (HN.out (fun e => by omega))
        clear HN HY HR HA h1
        go_wp2
        go_ret
        exact ⟨ret_bool HF.out.symm, rfl⟩
      have d1 : decide (y ≤ z) = false := by simpa using h1
      by_cases h2 : H ≤ y
      · have d2 : decide (H ≤ y) = true := by simpa using h2
        have d3 : decide (y ≥ H) = true := by simpa using h2
        have HF := Lib.hid (HN.out (fun e => by omega))
        clear HN HY HR HA h1 h2
        go_wp2
        go_ret
        exact ⟨ret_bool HF.out.symm, rfl⟩
      have d2 : decide (H ≤ y) = false := by simpa using h2
      have d3 : decide (y ≥ H) = false := by simpa using h2
      have HK := Lib.hid (HY.out ⟨by omega, by omega⟩)
      clear HN HY HR HA h1 h2
      go_wp2
      go_round
      case rel => exact ⟨k + 1, by omega, by rw [HE.out], by go_num, Lib.hid fun j hj => by
        by_cases e : j = k
        · subst e; rw [HQ.out]; exact HK.out
        · exact HB.out j (by omega)⟩
      case measure => simp [intOf]; omega
    · obtain rfl : k = n := by omega
      obtain rfl : r = true := HR.out.2 HB.out
      clear HR HA
      go_wp2
      go_ret
      exact ⟨rfl, rfl⟩
/-- slices.BinarySearch of an empty slice. -/
theorem search_empty (A : Option Addr) (c : Nat) (x : Int) (w : World) :
    Calls Try.prog 98 #[.slice A 0 c, .int .i64 x] w fun e w' => e = .returned (.tuple #[.int .i64 0, .bool false]) ∧ ∃ q, w' = w.drewN q := by
  go_enter Try.func98, Try.ntmps98
  go_wp2
  go_loop [7, 8] (fun i j => i = .int .i64 0 ∧ j = .int .i64 0) (fun _ _ => 0)
  case atStart => exact ⟨rfl, rfl⟩
  case round =>
    obtain ⟨rfl, rfl⟩ := hrel
    go_wp2
    go_ret2
    exact ⟨rfl, 0, rfl⟩
/-- Whether a block is bad. -/
theorem isBad_any (d b p sp : Int) (u : Value) (A' : Option Addr) (n' c' : Nat) (l : List Int) (H x : Int) (r : Bool) (w : World) (hi : Nat) (h : NI w hi u l) (hh : hi ≤ w.heap.size) (hl : Rises l H) (hm : l.length ≤ 1048576) (hr : r = true ↔ x ∈ l) :
    Calls Try.prog 89 #[.agg #[.int .i64 d, .int .i64 b, .int .i64 p, .int .i64 sp, u, .slice A' n' c'], .int .i64 x] w fun e w' => e = .returned (.bool r) ∧ Below w.heap.size w w' := by
  obtain ⟨A, n, c, rfl, hn1, hn2, hn, hA⟩ := h
  have B0 := Lib.hid ((Below.refl w.heap.size w).alloc (Nat.le_refl _) (.cells #[.int .i64 d, .int .i64 b, .int .i64 p, .int .i64 sp, .slice A n c, .slice A' n' c'] 52))
  have HS := Lib.hid (fun (W : World) (hb : Below w.heap.size w W) => show Calls Try.prog 98 #[.slice A n c, .int .i64 x] W fun e w' => (∃ k : Int, e = .returned (.tuple #[.int .i64 k, .bool r])) ∧ ∃ q, w' = W.drewN q from by
    rcases Nat.eq_zero_or_pos n with h0 | h0
    · subst h0
      obtain rfl : l = [] := List.length_eq_zero_iff.1 hn
      obtain rfl : r = false := not_true hr (by simp)
      exact (search_empty A c x W).mono fun e w' k => ⟨⟨0, k.1⟩, k.2⟩
    · obtain ⟨bb, off, rfl, hbl, hx⟩ := hA h0
      refine (Try.slices_BinarySearch_int bb off n c l x W (by omega) (by omega) (fun j hj => (hb.cell (p := ⟨bb, off + j, none⟩) (by show bb < _; omega)).trans (hx j (by omega))) ?_).mono fun e w' k => ⟨⟨((l.take n).countP (· < x) : Nat), ?_⟩, k.2⟩
      · rw [← hn, List.take_length]; exact hl.le
      · rw [k.1, ← hn, List.take_length]
        rw [show (l.contains x) = r from by rw [Bool.eq_iff_iff, hr]; simp])
  clear hA hr hl hm hn
  go_enter Try.func89, Try.ntmps89
  go_wp2_with fail
  refine (HS.out _ B0.out).mono ?_
  rintro e w1 ⟨⟨k, rfl⟩, q, rfl⟩
  go_wp2
  go_ret
  exact ⟨rfl, below_drewN B0.out _⟩
end Go.Proofs.Ytbdfdkhkamonpaa
