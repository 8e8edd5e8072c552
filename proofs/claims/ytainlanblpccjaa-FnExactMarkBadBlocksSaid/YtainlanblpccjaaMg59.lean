/- The proof's own lemmas, part 60: TbV TbH. -/
import Derived.Test.YtainlanblpccjaaProg
import Derived.Test.YtainlanblpccjaaMg13
import Derived.Test.YtainlanblpccjaaMg18
import Derived.Test.YtainlanblpccjaaMg2
import Derived.Test.YtainlanblpccjaaShelf
import Derived.Deep.RegionHeld3
/- Which tables of bad blocks are valid, in the program: the small contracts. -/
namespace Go.Proofs.Ytainlanblpccjaa
open Go.RowKit
set_option linter.unusedVariables false
set_option linter.unusedSimpArgs false
theorem validSpare_any (d b p sp : Int) (r : Bool) (w : World) (hg : GeoOk d b p) (hr : r = true ↔ ((1 ≤ sp ∧ sp ≤ 4) ∧ sp < b - 1)) :
    Calls Try.prog 136 #[.agg #[.int .i64 d, .int .i64 b, .int .i64 p], .int .i64 sp] w fun e w' => e = .returned (.bool r) ∧ Below w.heap.size w w' := by
  have B0 := Lib.hid ((Below.refl w.heap.size w).alloc (Nat.le_refl _) (.cells #[.int .i64 d, .int .i64 b, .int .i64 p] 64))
  have hb : 4 ≤ b ∧ b ≤ 12 := hg.2.1
  have w1 : IntKind.i64.wrap (b - 1) = b - 1 := IntWalk.i64_in _ (by omega)
  clear hg
  by_cases h1 : 1 ≤ sp
  case neg =>
    have d1 : decide (1 ≤ sp) = false := by simp; omega
    have d2 : decide (sp ≥ 1) = false := by simp; omega
    obtain rfl : r = false := not_true hr (fun e => h1 e.1.1)
    clear hr h1
    go_enter Try.func136, Try.ntmps136
    go_wp2
    go_ret
    exact ⟨rfl, B0.out⟩
  have d1 : decide (1 ≤ sp) = true := by simp; omega
  have d2 : decide (sp ≥ 1) = true := by simp; omega
  by_cases h2 : sp ≤ 4
  case neg =>
    have d3 : decide (sp ≤ 4) = false := by simp; omega
    obtain rfl : r = false := not_true hr (fun e => h2 e.1.2)
    clear hr h1 h2
    go_enter Try.func136, Try.ntmps136
    go_wp2
    go_ret
    exact ⟨rfl, B0.out⟩
  have d3 : decide (sp ≤ 4) = true := by simp; omega
  obtain rfl : r = decide (sp < b - 1) := by
    rw [Bool.eq_iff_iff, hr]; simp; omega
  clear hr h1 h2
  go_enter Try.func136, Try.ntmps136
  go_wp2
  go_ret
  exact ⟨rfl, B0.out⟩
def prv (l : List Int) : Nat → Int
  | 0 => -1
  | k + 1 => l.getD k 0
theorem prv_ok {l : List Int} {H : Int} {k : Nat} (h : prv l k < l.getD k 0 ∧ l.getD k 0 < H) (ha : ∀ j, j < k → (0 ≤ l.getD j 0 ∧ l.getD j 0 < H) ∧ (0 < j → l.getD (j - 1) 0 < l.getD j 0)) :
    (0 ≤ l.getD k 0 ∧ l.getD k 0 < H) ∧ (0 < k → l.getD (k - 1) 0 < l.getD k 0) := by
  cases k with
  | zero => rw [show prv l 0 = -1 from rfl] at h; exact ⟨⟨by omega, h.2⟩, fun e => by omega⟩
  | succ k =>
    rw [show prv l (k + 1) = l.getD k 0 from rfl] at h
    have := (ha k (by omega)).1.1
    exact ⟨⟨by omega, h.2⟩, fun _ => h.1⟩
theorem prv_not {l : List Int} {H : Int} {k : Nat} (h : ¬ (prv l k < l.getD k 0 ∧ l.getD k 0 < H)) : ¬ ((0 ≤ l.getD k 0 ∧ l.getD k 0 < H) ∧ (0 < k → l.getD (k - 1) 0 < l.getD k 0)) := by
  intro e
  apply h
  cases k with
  | zero => rw [show prv l 0 = -1 from rfl]; exact ⟨by omega, e.1.2⟩
  | succ k => rw [show prv l (k + 1) = l.getD k 0 from rfl]; exact ⟨e.2 (by omega), e.1.2⟩
set_option maxHeartbeats 1000000 in
theorem increasing_any (v : Value) (l : List Int) (H : Int) (r : Bool) (w : World) (hi : Nat) (h : NI w hi v l) (hr : r = true ↔ Rises l H) (hl : l.length ≤ 1048576) :
    Calls Try.prog 137 #[v, .int .i64 H] w fun e w' => e = .returned (.bool r) ∧ w = w' := by
  obtain ⟨A, n, cap, rfl, hn1, hn2, hn, hA⟩ := h
  have hnm : (n : Int) ≤ 1048576 := by omega
  have HR := Lib.hid (show r = true ↔ ∀ i, i < n → (0 ≤ l.getD i 0 ∧ l.getD i 0 < H) ∧ (0 < i → l.getD (i - 1) 0 < l.getD i 0) by rw [hr, Rises, hn])
  have HA := Lib.hid hA
  clear hA hr hn hn1 hn2 hl
  go_enter Try.func137, Try.ntmps137
  go_wp2
  go_loop [5, 10] (fun pv i => ∃ k : Nat, k ≤ n ∧ pv = .int .i64 (prv l k) ∧ i = .int .i64 k ∧ Hid (∀ i, i < k → (0 ≤ l.getD i 0 ∧ l.getD i 0 < H) ∧ (0 < i → l.getD (i - 1) 0 < l.getD i 0))) (fun _ i => n - (intOf i).toNat)
  case atStart => exact ⟨0, by omega, rfl, rfl, Lib.hid fun j hj => by omega⟩
  case round =>
    obtain ⟨k, hk, rfl, rfl, HB⟩ := hrel
    by_cases hlt : k < n
    · have hki : (k : Int) < (n : Int) := by omega
      obtain ⟨b, off, rfl, hbl, hx⟩ := HA.out (by omega)
      have hc := hx k hlt
      clear hx
      have HY := Lib.hid (show prv l k < l.getD k 0 ∧ l.getD k 0 < H → _ from fun e => prv_ok e HB.out)
      have HN := Lib.hid (show ¬ (prv l k < l.getD k 0 ∧ l.getD k 0 < H) → r = false from fun e => not_true HR.out (fun f => prv_not e (f k hlt)))
      have HE := Lib.hid (show prv l (k + 1) = l.getD k 0 from rfl)
      generalize prv l k = z at *
      generalize hy : l.getD k 0 = y at *
      have HQ := Lib.hid hy
      clear hy
      by_cases h1 : y ≤ z
      · have d1 : decide (y ≤ z) = true := by simpa using h1
        have HF := Lib.hid (HN.out (fun e => by omega))
        clear HN HY HR HA h1
        go_wp2
        go_ret
        exact ⟨ret_bool HF.out.symm, rfl⟩
      have d1 : decide (y ≤ z) = false := by simpa using h1
      by_cases h2 : H ≤ y
      · have d2 : decide (H ≤ y) = true := by simpa using h2
        have d3 : decide (y ≥ H) = true := by simpa using h2
        have HF := Lib.hid (HN.out (fun e => by omega))
        clear HN HY HR HA h1 h2
        go_wp2
        go_ret
        exact ⟨ret_bool HF.out.symm, rfl⟩
      have d2 : decide (H ≤ y) = false := by simpa using h2
      have d3 : decide (y ≥ H) = false := by simpa using h2
      have HK := Lib.hid (HY.out ⟨by omega, by omega⟩)
      clear HN HY HR HA h1 h2
      go_wp2
      go_round
      case rel => exact ⟨k + 1, by omega, by rw [HE.out], by go_num, Lib.hid fun j hj => by
        by_cases e : j = k
        · subst e; rw [HQ.out]; exact HK.out
        · exact HB.out j (by omega)⟩
      case measure => simp [intOf]; omega
    · obtain rfl : k = n := by omega
      obtain rfl : r = true := HR.out.2 HB.out
      clear HR HA
      go_wp2
      go_ret
      exact ⟨rfl, rfl⟩
/-- slices.BinarySearch of an empty slice. -/
theorem search_empty (A : Option Addr) (c : Nat) (x : Int) (w : World) :
    Calls Try.prog 152 #[.slice A 0 c, .int .i64 x] w fun e w' => e = .returned (.tuple #[.int .i64 0, .bool false]) ∧ ∃ q, w' = w.drewN q := by
  go_enter Try.func152, Try.ntmps152
  go_wp2
  go_loop [7, 8] (fun i j => i = .int .i64 0 ∧ j = .int .i64 0) (fun _ _ => 0)
  case atStart => exact ⟨rfl, rfl⟩
  case round =>
    obtain ⟨rfl, rfl⟩ := hrel
    go_wp2
    go_ret2
    exact ⟨rfl, 0, rfl⟩
/-- Whether a block is bad. -/
theorem isBad_any (d b p sp : Int) (u : Value) (A' : Option Addr) (n' c' : Nat) (l : List Int) (H x : Int) (r : Bool) (w : World) (hi : Nat) (h : NI w hi u l) (hh : hi ≤ w.heap.size) (hl : Rises l H) (hm : l.length ≤ 1048576) (hr : r = true ↔ x ∈ l) :
    Calls Try.prog 142 #[.agg #[.int .i64 d, .int .i64 b, .int .i64 p, .int .i64 sp, u, .slice A' n' c'], .int .i64 x] w fun e w' => e = .returned (.bool r) ∧ Below w.heap.size w w' := by
  obtain ⟨A, n, c, rfl, hn1, hn2, hn, hA⟩ := h
  have B0 := Lib.hid ((Below.refl w.heap.size w).alloc (Nat.le_refl _) (.cells #[.int .i64 d, .int .i64 b, .int .i64 p, .int .i64 sp, .slice A n c, .slice A' n' c'] 75))
  have HS := Lib.hid (fun (W : World) (hb : Below w.heap.size w W) => show Calls Try.prog 152 #[.slice A n c, .int .i64 x] W fun e w' => (∃ k : Int, e = .returned (.tuple #[.int .i64 k, .bool r])) ∧ ∃ q, w' = W.drewN q from by
    rcases Nat.eq_zero_or_pos n with h0 | h0
    · subst h0
      obtain rfl : l = [] := List.length_eq_zero_iff.1 hn
      obtain rfl : r = false := not_true hr (by simp)
      exact (search_empty A c x W).mono fun e w' k => ⟨⟨0, k.1⟩, k.2⟩
    · obtain ⟨bb, off, rfl, hbl, hx⟩ := hA h0
      refine (Try.slices_BinarySearch_int bb off n c l x W (by omega) (by omega) (fun j hj => (hb.cell (p := ⟨bb, off + j, none⟩) (by show bb < _; omega)).trans (hx j (by omega))) ?_).mono fun e w' k => ⟨⟨((l.take n).countP (· < x) : Nat), ?_⟩, k.2⟩
      · rw [← hn, List.take_length]; exact hl.le
      · rw [k.1, ← hn, List.take_length]
        rw [show (l.contains x) = r from by rw [Bool.eq_iff_iff, hr]; simp])
  clear hA hr hl hm hn
  go_enter Try.func142, Try.ntmps142
  go_wp2_with fail
  refine (HS.out _ B0.out).mono ?_
  rintro e w1 ⟨⟨k, rfl⟩, q, rfl⟩
  go_wp2
  go_ret
  exact ⟨rfl, below_drewN B0.out _⟩
end Go.Proofs.Ytainlanblpccjaa
/- Tables of bad blocks, in the program: primaries, homes, dies, spare blocks. (Written by wip/genv.py.) -/
namespace Go.Proofs.Ytainlanblpccjaa
open Go.RowKit
set_option linter.unusedVariables false
theorem primaries_any (d b p sp P : Int) (u v : Value) (w : World) (hP : b - sp = P) (h0 : -1000 ≤ P) (h1 : P ≤ 1000) :
    Calls Try.prog 191 #[.agg #[.int .i64 d, .int .i64 b, .int .i64 p, .int .i64 sp, u, v]] w fun e w' => e = .returned (.int .i64 P) ∧ Below w.heap.size w w' := by
  have w1 : IntKind.i64.wrap (b - sp) = P := by rw [hP]; exact IntWalk.i64_in _ (by omega)
  have B0 := Lib.hid ((Below.refl w.heap.size w).alloc (Nat.le_refl _) (.cells #[.int .i64 d, .int .i64 b, .int .i64 p, .int .i64 sp, u, v] 75))
  clear hP
  go_enter Try.func191, Try.ntmps191
  go_wp2
  go_ret
  exact ⟨by simp, B0.out⟩
theorem dieOf_any (d b p sp x q : Int) (u v : Value) (w : World) (hb : b ≠ 0) (hq : x.tdiv b = q) (h0 : -1000 ≤ q) (h1 : q ≤ 1000) :
    Calls Try.prog 144 #[.agg #[.int .i64 d, .int .i64 b, .int .i64 p, .int .i64 sp, u, v], .int .i64 x] w fun e w' => e = .returned (.int .i64 q) ∧ Below w.heap.size w w' := by
  have w1 : IntKind.i64.wrap q = q := IntWalk.i64_in _ (by omega)
  have B0 := Lib.hid ((Below.refl w.heap.size w).alloc (Nat.le_refl _) (.cells #[.int .i64 d, .int .i64 b, .int .i64 p, .int .i64 sp, u, v] 75))
  go_enter Try.func144, Try.ntmps144
  go_wp2
  go_ret
  exact ⟨by simp, B0.out⟩
theorem spares_any (d b p sp die en : Int) (u v : Value) (w : World) (hd : 0 ≤ die ∧ die ≤ 1000) (he : (die + 1) * b = en) (h0 : -100000 ≤ en) (h1 : en ≤ 100000) (h2 : 0 ≤ sp ∧ sp ≤ 4) :
    Calls Try.prog 193 #[.agg #[.int .i64 d, .int .i64 b, .int .i64 p, .int .i64 sp, u, v], .int .i64 die] w fun e w' => e = .returned (.tuple #[.int .i64 (en - sp), .int .i64 en]) ∧ Below w.heap.size w w' := by
  have w0 : IntKind.i64.wrap (die + 1) = die + 1 := IntWalk.i64_in _ (by omega)
  have w1 : IntKind.i64.wrap ((die + 1) * b) = en := by rw [he]; exact IntWalk.i64_in _ (by omega)
  have w2 : IntKind.i64.wrap (en - sp) = en - sp := IntWalk.i64_in _ (by omega)
  have B0 := Lib.hid ((Below.refl w.heap.size w).alloc (Nat.le_refl _) (.cells #[.int .i64 d, .int .i64 b, .int .i64 p, .int .i64 sp, u, v] 75))
  clear he
  go_enter Try.func193, Try.ntmps193
  go_wp2
  go_ret2
  exact ⟨by simp, B0.out⟩
theorem logical_any (d b p sp P q : Int) (u v : Value) (w : World) (hP : b - sp = P) (h0 : -1000 ≤ P) (h1 : P ≤ 1000) (hq : d * P = q) (h2 : -100000 ≤ q) (h3 : q ≤ 100000) :
    Calls Try.prog 140 #[.agg #[.int .i64 d, .int .i64 b, .int .i64 p, .int .i64 sp, u, v]] w fun e w' => e = .returned (.int .i64 q) ∧ Below w.heap.size w w' := by
  have HP := Lib.hid (fun (W : World) => primaries_any d b p sp P u v W hP h0 h1)
  have w1 : IntKind.i64.wrap (d * P) = q := by rw [hq]; exact IntWalk.i64_in _ (by omega)
  have R0 := Lib.hid (Rw.new w 75 #[.int .i64 d, .int .i64 b, .int .i64 p, .int .i64 sp, u, v])
  have B0 := Lib.hid ((Below.refl w.heap.size w).alloc (Nat.le_refl _) (.cells #[.int .i64 d, .int .i64 b, .int .i64 p, .int .i64 sp, u, v] 75))
  have HK := Lib.hid (fun (W : World) (h : Rw W w.heap.size 75 #[.int .i64 d, .int .i64 b, .int .i64 p, .int .i64 sp, u, v]) (hb : Below w.heap.size w W) => show W.cell? ⟨w.heap.size, 0, none⟩ = some (.int .i64 d) ∧ W.cell? ⟨w.heap.size, 1, none⟩ = some (.int .i64 b) ∧ W.cell? ⟨w.heap.size, 2, none⟩ = some (.int .i64 p) ∧ W.cell? ⟨w.heap.size, 3, none⟩ = some (.int .i64 sp) ∧ W.cell? ⟨w.heap.size, 4, none⟩ = some (u) ∧ W.cell? ⟨w.heap.size, 5, none⟩ = some (v) ∧ Below w.heap.size w W from by
    obtain ⟨c0, c1, c2, c3, c4, c5⟩ := h.six
    exact ⟨c0, c1, c2, c3, c4, c5, hb⟩)
  clear hP hq
  go_enter Try.func140, Try.ntmps140
  go_wp2_with fail
  have k0 := HK.out _ (show Rw (w.alloc (.cells #[.int .i64 d, .int .i64 b, .int .i64 p, .int .i64 sp, u, v] 75)).drew _ _ _ from R0.out) B0.out.drew
  go_region_held3 (fun W => W.cell? ⟨w.heap.size, 0, none⟩ = some (.int .i64 d) ∧ W.cell? ⟨w.heap.size, 1, none⟩ = some (.int .i64 b) ∧ W.cell? ⟨w.heap.size, 2, none⟩ = some (.int .i64 p) ∧ W.cell? ⟨w.heap.size, 3, none⟩ = some (.int .i64 sp) ∧ W.cell? ⟨w.heap.size, 4, none⟩ = some (u) ∧ W.cell? ⟨w.heap.size, 5, none⟩ = some (v) ∧ Below w.heap.size w W)
    (first
      | with_reducible exact k1
      | with_reducible exact k0)
    (first
      | (go_at_call 191
         refine (HP.out _).mono ?_
         rintro e w1 ⟨rfl, b1⟩
         have r1 := (show Rw (w.alloc (.cells #[.int .i64 d, .int .i64 b, .int .i64 p, .int .i64 sp, u, v] 75)).drew _ _ _ from R0.out).below b1 (by simp)
         have k1 := HK.out w1 r1 (B0.out.drew.trans (b1.mono (by simp)))
         have R1 := Lib.hid r1
         clear b1 r1))
  go_wp2
  go_ret
  exact ⟨by simp, k1.2.2.2.2.2.2⟩
set_option maxHeartbeats 1000000 in
theorem implHome_any (d b p sp P Q R i hm : Int) (u v : Value) (w : World) (hP : b - sp = P) (hP0 : P ≠ 0) (h0 : -1000 ≤ P) (h1 : P ≤ 1000) (hQ : i.tdiv P = Q) (hR : i.tmod P = R) (hm0 : Q * b + R = hm) (hq : -1000 ≤ Q ∧ Q ≤ 1000) (hqb : -100000 ≤ Q * b ∧ Q * b ≤ 100000) (hr : 0 ≤ R ∧ R ≤ 1000) :
    Calls Try.prog 141 #[.agg #[.int .i64 d, .int .i64 b, .int .i64 p, .int .i64 sp, u, v], .int .i64 i] w fun e w' => e = .returned (.int .i64 hm) ∧ Below w.heap.size w w' := by
  have HP := Lib.hid (fun (W : World) => primaries_any d b p sp P u v W hP h0 h1)
  have w1 : IntKind.i64.wrap Q = Q := IntWalk.i64_in _ (by omega)
  have w2 : IntKind.i64.wrap (Q * b) = Q * b := IntWalk.i64_in _ (by omega)
  have w3 : IntKind.i64.wrap R = R := IntWalk.i64_in _ (by omega)
  have w4 : IntKind.i64.wrap (Q * b + R) = hm := by rw [hm0]; exact IntWalk.i64_in _ (by omega)
  have R0 := Lib.hid (Rw.new w 75 #[.int .i64 d, .int .i64 b, .int .i64 p, .int .i64 sp, u, v])
  have B0 := Lib.hid ((Below.refl w.heap.size w).alloc (Nat.le_refl _) (.cells #[.int .i64 d, .int .i64 b, .int .i64 p, .int .i64 sp, u, v] 75))
  have HK := Lib.hid (fun (W : World) (h : Rw W w.heap.size 75 #[.int .i64 d, .int .i64 b, .int .i64 p, .int .i64 sp, u, v]) (hb : Below w.heap.size w W) => show W.cell? ⟨w.heap.size, 0, none⟩ = some (.int .i64 d) ∧ W.cell? ⟨w.heap.size, 1, none⟩ = some (.int .i64 b) ∧ W.cell? ⟨w.heap.size, 2, none⟩ = some (.int .i64 p) ∧ W.cell? ⟨w.heap.size, 3, none⟩ = some (.int .i64 sp) ∧ W.cell? ⟨w.heap.size, 4, none⟩ = some (u) ∧ W.cell? ⟨w.heap.size, 5, none⟩ = some (v) ∧ Below w.heap.size w W from by
    obtain ⟨c0, c1, c2, c3, c4, c5⟩ := h.six
    exact ⟨c0, c1, c2, c3, c4, c5, hb⟩)
  clear hP hm0 hq hqb hr h0 h1
  go_enter Try.func141, Try.ntmps141
  go_wp2_with fail
  have k0 := HK.out _ (show Rw (w.alloc (.cells #[.int .i64 d, .int .i64 b, .int .i64 p, .int .i64 sp, u, v] 75)).drew _ _ _ from R0.out) B0.out.drew
  go_region_held3 (fun W => W.cell? ⟨w.heap.size, 0, none⟩ = some (.int .i64 d) ∧ W.cell? ⟨w.heap.size, 1, none⟩ = some (.int .i64 b) ∧ W.cell? ⟨w.heap.size, 2, none⟩ = some (.int .i64 p) ∧ W.cell? ⟨w.heap.size, 3, none⟩ = some (.int .i64 sp) ∧ W.cell? ⟨w.heap.size, 4, none⟩ = some (u) ∧ W.cell? ⟨w.heap.size, 5, none⟩ = some (v) ∧ Below w.heap.size w W)
    (first
      | with_reducible exact k2
      | with_reducible exact k1
      | with_reducible exact k0)
    (first
      | (have q := k1
         clear q
         go_at_call 191
         refine (HP.out _).mono ?_
         rintro e w2 ⟨rfl, b2⟩
         have r2 := R1.out.below b2 R1.out.lt
         have k2 := HK.out w2 r2 (k1.2.2.2.2.2.2.trans (b2.mono k1.2.2.2.2.2.2.size))
         have R2 := Lib.hid r2
         clear b2 r2)
      | (go_at_call 191
         refine (HP.out _).mono ?_
         rintro e w1 ⟨rfl, b1⟩
         have r1 := (show Rw (w.alloc (.cells #[.int .i64 d, .int .i64 b, .int .i64 p, .int .i64 sp, u, v] 75)).drew _ _ _ from R0.out).below b1 (by simp)
         have k1 := HK.out w1 r1 (B0.out.drew.trans (b1.mono (by simp)))
         have R1 := Lib.hid r1
         clear b1 r1))
  go_wp2
  go_ret
  exact ⟨by simp, k2.2.2.2.2.2.2⟩
set_option maxHeartbeats 2000000 in
theorem mayHold_any (d b p sp P Q R hm q en x i : Int) (A A' : Option Addr) (n c n' c' : Nat) (l : List Int) (H : Int) (r : Bool) (w : World) (hi : Nat) (h : NI w hi (.slice A n c) l) (hh : hi ≤ w.heap.size) (hl : Rises l H) (hmx : l.length ≤ 1048576)
    (hP : b - sp = P) (hP0 : P ≠ 0) (h0 : -1000 ≤ P) (h1 : P ≤ 1000) (hQ : i.tdiv P = Q) (hR : i.tmod P = R) (hm0 : Q * b + R = hm) (hq : -1000 ≤ Q ∧ Q ≤ 1000) (hqb : -100000 ≤ Q * b ∧ Q * b ≤ 100000) (hr0 : 0 ≤ R ∧ R ≤ 1000)
    (hb : b ≠ 0) (hd : hm.tdiv b = q) (hd0 : 0 ≤ q ∧ q ≤ 1000) (he : (q + 1) * b = en) (he0 : -100000 ≤ en) (he1 : en ≤ 100000) (hsp : 0 ≤ sp ∧ sp ≤ 4)
    (hr : r = true ↔ (x = hm ∨ ((en - sp ≤ x ∧ x < en) ∧ hm ∈ l))) :
    Calls Try.prog 223 #[.agg #[.int .i64 d, .int .i64 b, .int .i64 p, .int .i64 sp, .slice A n c, .slice A' n' c'], .int .i64 x, .int .i64 i] w fun e w' => e = .returned (.bool r) ∧ Below w.heap.size w w' := by
  have HH := Lib.hid (fun (W : World) => implHome_any d b p sp P Q R i hm (.slice A n c) (.slice A' n' c') W hP hP0 h0 h1 hQ hR hm0 hq hqb hr0)
  have HD := Lib.hid (fun (W : World) => dieOf_any d b p sp hm q (.slice A n c) (.slice A' n' c') W hb hd (by omega) (by omega))
  have HS := Lib.hid (fun (W : World) => spares_any d b p sp q en (.slice A n c) (.slice A' n' c') W hd0 he he0 he1 hsp)
  obtain ⟨rb, hrb⟩ := prop_dec' (hm ∈ l)
  have HI := Lib.hid (fun (W : World) (k : Below w.heap.size w W) => isBad_any d b p sp (.slice A n c) A' n' c' l H hm rb W hi (h.below k hh) (Nat.le_trans hh k.size) hl hmx hrb)
  have R0 := Lib.hid (Rw.new w 75 #[.int .i64 d, .int .i64 b, .int .i64 p, .int .i64 sp, .slice A n c, .slice A' n' c'])
  have B0 := Lib.hid ((Below.refl w.heap.size w).alloc (Nat.le_refl _) (.cells #[.int .i64 d, .int .i64 b, .int .i64 p, .int .i64 sp, .slice A n c, .slice A' n' c'] 75))
  have HK := Lib.hid (fun (W : World) (h : Rw W w.heap.size 75 #[.int .i64 d, .int .i64 b, .int .i64 p, .int .i64 sp, .slice A n c, .slice A' n' c']) (hb : Below w.heap.size w W) => show W.cell? ⟨w.heap.size, 0, none⟩ = some (.int .i64 d) ∧ W.cell? ⟨w.heap.size, 1, none⟩ = some (.int .i64 b) ∧ W.cell? ⟨w.heap.size, 2, none⟩ = some (.int .i64 p) ∧ W.cell? ⟨w.heap.size, 3, none⟩ = some (.int .i64 sp) ∧ W.cell? ⟨w.heap.size, 4, none⟩ = some (.slice A n c) ∧ W.cell? ⟨w.heap.size, 5, none⟩ = some (.slice A' n' c') ∧ Below w.heap.size w W from by
    obtain ⟨c0, c1, c2, c3, c4, c5⟩ := h.six
    exact ⟨c0, c1, c2, c3, c4, c5, hb⟩)
  clear h hl hmx hP hP0 h0 h1 hQ hR hm0 hq hqb hr0 hb hd hd0 he he0 he1 hsp hh
  have HR := Lib.hid hr
  have HRB := Lib.hid hrb
  clear hr hrb
  generalize hfi : en - sp = fi at *
  clear hfi
  go_enter Try.func223, Try.ntmps223
  go_wp2_with fail
  obtain ⟨c0, c1, c2, c3, c4, c5⟩ := R0.out.six
  go_wp2_with fail
  refine (HH.out _).mono ?_
  rintro e w1 ⟨rfl, b1⟩
  have r1 := R0.out.below b1 (by simp)
  have HB1 := Lib.hid (B0.out.trans (b1.mono (by simp)))
  have R1 := Lib.hid r1
  clear b1 r1 c0 c1 c2 c3 c4 c5 R0 B0
  go_wp2_with fail
  have k0 := HK.out _ (show Rw w1.drew _ _ _ from R1.out) HB1.out.drew
  go_region_held3 (fun W => W.cell? ⟨w.heap.size, 0, none⟩ = some (.int .i64 d) ∧ W.cell? ⟨w.heap.size, 1, none⟩ = some (.int .i64 b) ∧ W.cell? ⟨w.heap.size, 2, none⟩ = some (.int .i64 p) ∧ W.cell? ⟨w.heap.size, 3, none⟩ = some (.int .i64 sp) ∧ W.cell? ⟨w.heap.size, 4, none⟩ = some (.slice A n c) ∧ W.cell? ⟨w.heap.size, 5, none⟩ = some (.slice A' n' c') ∧ Below w.heap.size w W)
    (first
      | with_reducible exact k2
      | with_reducible exact k1
      | with_reducible exact k0)
    (first
      | (have q := k1
         clear q
         go_at_call 193
         refine (HS.out _).mono ?_
         rintro e v2 ⟨rfl, b2⟩
         have r2 := S1.out.below b2 S1.out.lt
         have k2 := HK.out v2 r2 (k1.2.2.2.2.2.2.trans (b2.mono k1.2.2.2.2.2.2.size))
         have S2 := Lib.hid r2
         clear b2 r2)
      | (go_at_call 144
         refine (HD.out _).mono ?_
         rintro e v1 ⟨rfl, b1⟩
         have r1 := (show Rw w1.drew _ _ _ from R1.out).below b1 R1.out.lt
         have k1 := HK.out v1 r1 (HB1.out.drew.trans (b1.mono HB1.out.size))
         have S1 := Lib.hid r1
         clear b1 r1))
  have HB2 := Lib.hid k2.2.2.2.2.2.2
  obtain ⟨c0, c1, c2, c3, c4, c5, _⟩ := k2
  clear k0 k1 HK HH HD HS HB1 R1 S1 S2
  by_cases hx : x = hm
  · have e1 : (x == hm) = true := by simpa using hx
    obtain rfl : r = true := HR.out.2 (.inl hx)
    clear HR HRB hx HI
    go_wp2
    go_ret
    exact ⟨rfl, HB2.out⟩
  have e1 : (x == hm) = false := by simpa using hx
  have HX := Lib.hid hx
  clear hx
  cases rb with
  | false =>
    have HF := Lib.hid (show r = false from not_true HR.out (fun e => by
      rcases e with e | e
      · exact HX.out e
      · have := HRB.out.2 e.2; cases this))
    clear HR HRB
    go_wp2_with fail
    refine (HI.out _ HB2.out).mono ?_
    rintro e v3 ⟨rfl, b3⟩
    have HB3 := Lib.hid (HB2.out.trans (b3.mono HB2.out.size))
    clear b3 c0 c1 c2 c3 c4 c5
    go_wp2
    go_ret
    exact ⟨ret_bool HF.out.symm, HB3.out⟩
  | true =>
    have HF := Lib.hid (show r = true ↔ (fi ≤ x ∧ x < en) from by
      rw [HR.out]
      constructor
      · rintro (e | e)
        · exact absurd e HX.out
        · exact e.1
      · intro e
        exact .inr ⟨e, HRB.out.1 rfl⟩)
    clear HR HRB
    by_cases h1 : fi ≤ x
    · have d1 : decide (fi ≤ x) = true := by simpa using h1
      have d2 : decide (x ≥ fi) = true := by simpa using h1
      have HG := Lib.hid (show decide (x < en) = r from by rw [Bool.eq_iff_iff, HF.out]; simp; omega)
      clear h1 HF
      go_wp2_with fail
      refine (HI.out _ HB2.out).mono ?_
      rintro e v3 ⟨rfl, b3⟩
      have HB3 := Lib.hid (HB2.out.trans (b3.mono HB2.out.size))
      clear b3 c0 c1 c2 c3 c4 c5
      go_wp2
      go_ret
      exact ⟨ret_bool HG.out, HB3.out⟩
    · have d1 : decide (fi ≤ x) = false := by simpa using h1
      have d2 : decide (x ≥ fi) = false := by simpa using h1
      have HG := Lib.hid (show r = false from not_true HF.out (fun e => h1 e.1))
      clear h1 HF
      go_wp2_with fail
      refine (HI.out _ HB2.out).mono ?_
      rintro e v3 ⟨rfl, b3⟩
      have HB3 := Lib.hid (HB2.out.trans (b3.mono HB2.out.size))
      clear b3 c0 c1 c2 c3 c4 c5
      go_wp2
      go_ret
      exact ⟨ret_bool HG.out.symm, HB3.out⟩
end Go.Proofs.Ytainlanblpccjaa
