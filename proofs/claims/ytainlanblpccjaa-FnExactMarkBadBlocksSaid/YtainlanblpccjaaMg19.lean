/- The proof's own lemmas, part 20: TbS. -/
import Derived.Test.YtainlanblpccjaaProg
import Derived.Test.YtainlanblpccjaaMg13
import Derived.Test.YtainlanblpccjaaMg18
import Derived.Test.YtainlanblpccjaaMg2
/- Which tables of bad blocks are valid, in the model: the contracts. -/
namespace Go.Proofs.Ytainlanblpccjaa
open Go.RowKit
set_option linter.unusedVariables false
set_option linter.unusedSimpArgs false
theorem has_any (v : Value) (l : List Int) (x : Int) (r : Bool) (w : World) (hi : Nat) (h : NI w hi v l) (hr : r = true ↔ x ∈ l) (hl : l.length ≤ 1048576) :
    Calls Try.prog 110 #[v, .int .i64 x] w fun e w' => e = .returned (.bool r) ∧ w = w' := by
  obtain ⟨A, n, cap, rfl, hn1, hn2, hn, hA⟩ := h
  have hnm : (n : Int) ≤ 1048576 := by omega
  have HR := Lib.hid (show r = true ↔ ∃ i, i < n ∧ l.getD i 0 = x by rw [hr, mem_iff_getD, hn])
  have HA := Lib.hid hA
  clear hA hr hn hn1 hn2 hl
  go_enter Try.func110, Try.ntmps110
  go_wp2
  go_loop [5] (fun i => ∃ k : Nat, k ≤ n ∧ i = .int .i64 k ∧ Hid (∀ j, j < k → l.getD j 0 ≠ x)) (fun i => n - (intOf i).toNat)
  case atStart => exact ⟨0, by omega, rfl, Lib.hid fun j hj => by omega⟩
  case round =>
    obtain ⟨k, hk, rfl, HB⟩ := hrel
    by_cases hlt : k < n
    · have hki : (k : Int) < (n : Int) := by omega
      obtain ⟨b, off, rfl, _, hx⟩ := HA.out (by omega)
      have hc := hx k hlt
      clear hx
      by_cases he : l.getD k 0 = x
      · obtain rfl : r = true := HR.out.2 ⟨k, hlt, he⟩
        have hs : (l.getD k 0 == x) = true := by simpa using he
        clear HR HA he
        generalize l.getD k 0 = y at *
        go_wp2
        go_ret
        exact ⟨rfl, rfl⟩
      · have hs : (l.getD k 0 == x) = false := by simpa using he
        have HE := Lib.hid he
        clear he
        generalize hy : l.getD k 0 = y at *
        have HY := Lib.hid hy
        clear hy
        go_wp2
        go_round
        case rel => exact ⟨k + 1, by omega, by go_num, Lib.hid fun j hj => by
          by_cases e : j = k
          · subst e; rw [HY.out]; exact HE.out
          · exact HB.out j (by omega)⟩
        case measure => simp [intOf]; omega
    · obtain rfl : k = n := by omega
      obtain rfl : r = false := not_true HR.out (fun ⟨i, h1, h2⟩ => HB.out i h1 h2)
      clear HR HA
      go_wp2
      go_ret
      exact ⟨rfl, rfl⟩
set_option maxHeartbeats 1000000 in
set_option maxRecDepth 100000 in
theorem rises_any (v : Value) (l : List Int) (H : Int) (r : Bool) (w : World) (hi : Nat) (h : NI w hi v l) (hh : hi ≤ w.heap.size) (hr : r = true ↔ Rises l H) (hl : l.length ≤ 1048576) :
    Calls Try.prog 190 #[v, .int .i64 0, .int .i64 (H - 1)] w fun e w' => e = .returned (.bool r) ∧ Below w.heap.size w w' := by
  obtain ⟨A, n, cap, rfl, hn1, hn2, hn, hA⟩ := h
  have hnm : (n : Int) ≤ 1048576 := by omega
  have HR := Lib.hid (show r = true ↔ ∀ i, i < n → (0 ≤ l.getD i 0 ∧ l.getD i 0 < H) ∧ (0 < i → l.getD (i - 1) 0 < l.getD i 0) by rw [hr, Rises, hn])
  have HA := Lib.hid hA
  clear hA hr hn hn1 hn2 hl
  go_enter Try.func190, Try.ntmps190
  go_wp2
  go_loopw [7] (fun i wr => ∃ k : Nat, k ≤ n ∧ i = .int .i64 k ∧ Hid (∀ i, i < k → (0 ≤ l.getD i 0 ∧ l.getD i 0 < H) ∧ (0 < i → l.getD (i - 1) 0 < l.getD i 0)) ∧ Below w.heap.size w wr) (fun i _ => n - (intOf i).toNat)
  case atStart => exact ⟨0, by omega, rfl, Lib.hid fun j hj => by omega, Below.refl _ _⟩
  case round =>
    obtain ⟨k, hk, rfl, HB, hb⟩ := hrel
    have HBB := Lib.hid hb
    by_cases hlt : k < n
    · have hki : (k : Int) < (n : Int) := by omega
      obtain ⟨b, off, rfl, hbl, hx⟩ := HA.out (by omega)
      have hc := (hb.cell (p := ⟨b, off + k, none⟩) (by show b < _; omega)).trans (hx k hlt)
      by_cases hin : 0 ≤ l.getD k 0 ∧ l.getD k 0 ≤ H - 1
      case neg =>
        obtain rfl : r = false := not_true HR.out (fun e => by have := (e k hlt).1; omega)
        clear HR HA hx hb
        generalize l.getD k 0 = y at *
        have HI := Lib.hid (fun (W : World) => inr_no y 0 (H - 1) W hin)
        clear hin
        go_wp2_with fail
        go_quiet (first | (go_at_call 83; refine Calls.quiet_of_same ((HI.out _).mono fun e w' h => ⟨h.1, h.2.symm⟩)))
        go_wp2
        go_ret
        exact ⟨rfl, below_drewN HBB.out _⟩
      case pos =>
        have HIN := Lib.hid hin
        have HI := Lib.hid (fun (W : World) => inr_yes (l.getD k 0) 0 (H - 1) W hin.1 hin.2)
        clear hin
        rcases Nat.eq_zero_or_pos k with hk0 | hk0
        · subst hk0
          rw [Nat.add_zero] at hc
          clear HR HA hx hb
          generalize hy : l.getD 0 0 = y at *
          have HY := Lib.hid hy
          clear hy
          go_wp2_with fail
          go_quiet (first | (go_at_call 83; refine Calls.quiet_of_same ((HI.out _).mono fun e w' h => ⟨h.1, h.2.symm⟩)))
          go_wp2
          go_roundw
          case rel => exact ⟨1, by omega, by go_num, Lib.hid fun j hj => by
            obtain rfl : j = 0 := by omega
            rw [HY.out]; have := HIN.out; exact ⟨⟨this.1, by omega⟩, fun e => by omega⟩, below_drewN HBB.out _⟩
          case measure => simp [intOf]; omega
        · obtain ⟨j, rfl⟩ : ∃ j, k = j + 1 := ⟨k - 1, by omega⟩
          have hc0 := (hb.cell (p := ⟨b, off + j, none⟩) (by show b < _; omega)).trans (hx j (by omega))
          by_cases hord : l.getD j 0 < l.getD (j + 1) 0
          · have HO := Lib.hid hord
            clear HR HA hx hb
            generalize hy : l.getD (j + 1) 0 = y at *
            generalize hz : l.getD j 0 = z at *
            have HY := Lib.hid hy
            have HZ := Lib.hid hz
            clear hy hz
            have d1 : decide (z ≥ y) = false := by simp; omega
            have d2 : decide (y ≤ z) = false := by simp; omega
            have d3 : decide ((0 : Int) < (j : Int) + 1) = true := by simp <;> omega
            go_wp2_with fail
            go_quiet (first | (go_at_call 83; refine Calls.quiet_of_same ((HI.out _).mono fun e w' h => ⟨h.1, h.2.symm⟩)))
            go_wp2
            go_roundw
            case rel => exact ⟨j + 1 + 1, by omega, by go_num, Lib.hid fun t ht => by
              by_cases e : t = j + 1
              · subst e; have := HIN.out; have := HO.out; rw [Nat.add_sub_cancel, HY.out, HZ.out]; exact ⟨⟨by omega, by omega⟩, fun _ => by omega⟩
              · exact HB.out t (by omega), below_drewN HBB.out _⟩
            case measure => simp [intOf]; omega
          · obtain rfl : r = false := not_true HR.out (fun e => hord (by have := (e (j + 1) hlt).2 (by omega); rwa [Nat.add_sub_cancel] at this))
            clear HR HA hx hb
            generalize l.getD (j + 1) 0 = y at *
            generalize l.getD j 0 = z at *
            have d1 : decide (z ≥ y) = true := by simp; omega
            have d2 : decide (y ≤ z) = true := by simp; omega
            have d3 : decide ((0 : Int) < (j : Int) + 1) = true := by simp <;> omega
            clear hord
            go_wp2_with fail
            go_quiet (first | (go_at_call 83; refine Calls.quiet_of_same ((HI.out _).mono fun e w' h => ⟨h.1, h.2.symm⟩)))
            go_wp2
            go_ret
            exact ⟨rfl, below_drewN HBB.out _⟩
    · obtain rfl : k = n := by omega
      obtain rfl : r = true := HR.out.2 HB.out
      clear HR HA
      go_wp2
      go_ret
      exact ⟨rfl, hb⟩
theorem count_any (d b p : Int) (w : World) (h : GeoOk d b p) : Calls Try.prog 146 #[.agg #[.int .i64 d, .int .i64 b, .int .i64 p]] w fun e w' => e = .returned (.int .i64 (d * b)) ∧ Below w.heap.size w w' := by
  have hm := h.mul
  have hw : IntKind.i64.wrap (d * b) = d * b := IntWalk.i64_in _ (by omega)
  have B0 := Lib.hid ((Below.refl w.heap.size w).alloc (Nat.le_refl _) (.cells #[.int .i64 d, .int .i64 b, .int .i64 p] 64))
  clear h
  go_enter Try.func146, Try.ntmps146
  go_wp2
  go_ret
  exact ⟨rfl, B0.out⟩
/-- The cells of a table as numbers and slices. -/
def tb6 (d b p sp : Int) (A : Option Addr) (n c : Nat) (A' : Option Addr) (n' c' : Nat) : Array Value := #[.int .i64 d, .int .i64 b, .int .i64 p, .int .i64 sp, .slice A n c, .slice A' n' c']
set_option maxHeartbeats 1000000 in
theorem home_any (T : Tb) (u v : Value) (i : Int) (w : World) (h : TbShape T) (h0 : 0 ≤ i) (h1 : i ≤ 40) :
    Calls Try.prog 133 #[.agg (tbc T u v), .int .i64 i] w fun e w' => e = .returned (.int .i64 (T.home i)) ∧ Below w.heap.size w w' := by
  obtain ⟨n1, n2, n3, n4, n5, n6, n7, n8, n9, _, _⟩ := h.nums
  have ht := home_t h h0
  obtain ⟨q1, q2, q3, q4, q5⟩ := home_die h h0
  have q6 : i / T.prim ≤ 40 := by have := Int.ediv_le_self T.prim h0; omega
  have q7 : i / T.prim * T.b ≤ 40 * 12 := Int.mul_le_mul q6 n4 (by omega) (by omega)
  have q8 : 0 ≤ i / T.prim * T.b := Int.mul_nonneg q5 (by omega)
  have HT := Lib.hid (show i / T.prim * T.b + i % T.prim = T.home i from rfl)
  obtain ⟨d, b, p, sp, bad, rm⟩ := T
  unfold tbc
  simp only [Tb.prim] at *
  have hq : i.tdiv (b - sp) = i / (b - sp) := Int.tdiv_eq_ediv_of_nonneg h0
  have hr : i.tmod (b - sp) = i % (b - sp) := Int.tmod_eq_emod_of_nonneg h0
  have hp0 : b - sp ≠ 0 := by omega
  generalize hP : b - sp = P at *
  have HP := Lib.hid hP
  generalize i / P = Q at *
  generalize i % P = R at *
  have w1 : IntKind.i64.wrap (b - sp) = P := by rw [hP]; exact IntWalk.i64_in _ (by omega)
  have w2 : IntKind.i64.wrap Q = Q := IntWalk.i64_in _ (by omega)
  have w3 : IntKind.i64.wrap (Q * b) = Q * b := IntWalk.i64_in _ (by omega)
  have w4 : IntKind.i64.wrap R = R := IntWalk.i64_in _ (by omega)
  have w5 : IntKind.i64.wrap (Q * b + R) = Q * b + R := IntWalk.i64_in _ (by omega)
  have B0 := Lib.hid ((Below.refl w.heap.size w).alloc (Nat.le_refl _) (.cells #[.int .i64 d, .int .i64 b, .int .i64 p, .int .i64 sp, u, v] 75))
  clear h ht q1 hP
  go_enter Try.func133, Try.ntmps133
  go_wp2_with fail
  go_quiet (fail)
  go_wp2
  go_ret
  exact ⟨by rw [← HT.out]; rfl, below_drewN B0.out _⟩
theorem spareOf_any (T : Tb) (u v : Value) (die x : Int) (r : Bool) (w : World) (h : TbShape T) (h0 : 0 ≤ die) (h1 : die ≤ 2) (hr : r = true ↔ SpareOf T die x) :
    Calls Try.prog 194 #[.agg (tbc T u v), .int .i64 die, .int .i64 x] w fun e w' => e = .returned (.bool r) ∧ Below w.heap.size w w' := by
  obtain ⟨n1, n2, n3, n4, n5, n6, n7, n8, n9, _, _⟩ := h.nums
  have q7 : (die + 1) * T.b ≤ 3 * 12 := Int.mul_le_mul (by omega) n4 (by omega) (by omega)
  have q8 : 0 ≤ (die + 1) * T.b := Int.mul_nonneg (by omega) (by omega)
  unfold SpareOf at hr
  obtain ⟨d, b, p, sp, bad, rm⟩ := T
  unfold tbc
  simp only at *
  have w1 : IntKind.i64.wrap ((die + 1) * b) = (die + 1) * b := IntWalk.i64_in _ (by omega)
  have B0 := Lib.hid ((Below.refl w.heap.size w).alloc (Nat.le_refl _) (.cells #[.int .i64 d, .int .i64 b, .int .i64 p, .int .i64 sp, u, v] 75))
  have HI := Lib.hid (fun (W : World) => show Calls Try.prog 83 #[.int .i64 x, .int .i64 ((die + 1) * b - sp), .int .i64 ((die + 1) * b - 1)] W fun e w' => e = .returned (.bool r) ∧ W = w' by
    cases r
    · exact inr_no _ _ _ _ (fun e => by have := hr.2 ⟨e.1, by omega⟩; cases this)
    · exact inr_yes _ _ _ _ (hr.1 rfl).1 (by have := (hr.1 rfl).2; omega))
  clear h hr
  go_enter Try.func194, Try.ntmps194
  go_wp2_with fail
  refine (HI.out _).mono ?_
  rintro e w1 ⟨rfl, rfl⟩
  go_wp2
  go_ret
  exact ⟨rfl, B0.out⟩
set_option maxHeartbeats 8000000 in
set_option maxRecDepth 100000 in
theorem specShape_any (u : Value) (T : Tb) (r : Bool) (w : World) (hi : Nat) (h : TbIn w hi u T) (hh : hi ≤ w.heap.size) (hr : r = true ↔ TbShape T) (hl : T.bad.length ≤ 1048576) :
    Calls Try.prog 132 #[u] w fun e w' => e = .returned (.bool r) ∧ Below w.heap.size w w' := by
  obtain ⟨a, y, rfl, ha, hy⟩ := h
  obtain ⟨rg, hg⟩ := prop_dec' (GeoOk T.d T.b T.p)
  obtain ⟨rr, hrr⟩ := prop_dec' (Rises T.bad (T.d * T.b))
  have HG := Lib.hid (fun (W : World) => specGeo_any T.d T.b T.p rg W hg)
  have HCN := Lib.hid (fun (g : GeoOk T.d T.b T.p) (W : World) => count_any T.d T.b T.p W g)
  have HS := Lib.hid (fun (W : World) (p : NI W hi a T.bad) (q : hi ≤ W.heap.size) => rises_any a T.bad (T.d * T.b) rr W hi p q hrr hl)
  obtain ⟨A, n, c, rfl⟩ := ha.slice
  obtain ⟨A', n', c', rfl⟩ := hy.slice
  unfold TbShape at hr
  obtain ⟨d, b, p, sp, bad, rm⟩ := T
  unfold tbc
  simp only at *
  have HA := Lib.hid ha
  have HR := Lib.hid hr
  obtain ⟨C, hC⟩ : ∃ C : World → Prop, C = fun W => Rw W w.heap.size 75 #[.int .i64 d, .int .i64 b, .int .i64 p, .int .i64 sp, .slice A n c, .slice A' n' c'] ∧ Below w.heap.size w W := ⟨_, rfl⟩
  have HC1 := Lib.hid (fun (W : World) (h : C W) => show Rw W w.heap.size 75 #[.int .i64 d, .int .i64 b, .int .i64 p, .int .i64 sp, .slice A n c, .slice A' n' c'] ∧ Below w.heap.size w W by rw [hC] at h; exact h)
  have HC3 := Lib.hid (fun (W W' : World) (h : C W) (b : Below W.heap.size W W') => show C W' by rw [hC] at h ⊢; exact ⟨h.1.below b h.1.lt, h.2.trans (b.mono h.2.size)⟩)
  have hc0 : C (w.alloc (.cells #[.int .i64 d, .int .i64 b, .int .i64 p, .int .i64 sp, .slice A n c, .slice A' n' c'] 75)).drew := by rw [hC]; exact ⟨Rw.new w _ _, ((Below.refl w.heap.size w).alloc (Nat.le_refl _) _).drew⟩
  clear hC ha hy hr
  by_cases g : GeoOk d b p
  case neg =>
    obtain rfl : rg = false := not_true hg g
    obtain rfl : r = false := not_true HR.out (fun e => g e.1)
    clear HR HS HCN hg g hrr
    go_enter Try.func132, Try.ntmps132
    go_wp2_with fail
    refine wp_region_own (by kernel_rfl) (by kernel_rfl) hc0 ?_
    repeat (first
      | go_big_quiet_skip
      | (go_big_quiet_want
         go_big_quiet_op
         first
           | go_big_quiet_on
           | (apply Exists.intro
              refine ⟨fun W hW => ?_, ?_⟩
              · (first
                  | rfl
                  | (go_at_call 130
                     refine (HG.out _).mono ?_
                     rintro e w1 ⟨rfl, b⟩
                     exact ⟨rfl, HC3.out _ _ hW b⟩)
                  | (obtain ⟨k0, k1, k2, k3, k4, k5⟩ := (HC1.out _ hW).1.six
                     simp only [k0, k1, k2, k3, k4, k5, Result.andThen]
                     exact ⟨trivial, rfl⟩))
              go_big_quiet_on)))
    refine wpQuiet_nil ?_
    intro w1 hw1
    have HB1 := Lib.hid (HC1.out _ hw1).2
    clear hw1 hc0
    go_wp2
    go_ret
    exact ⟨rfl, HB1.out⟩
  obtain rfl : rg = true := hg.2 g
  have HCN1 := Lib.hid (fun (W : World) => HCN.out g W)
  have hb : 4 ≤ b ∧ b ≤ 12 ∧ 2 ≤ d ∧ d ≤ 3 ∧ 0 ≤ d * b ∧ d * b ≤ 36 := by
    obtain ⟨h1, h2, h3⟩ := g
    have e1 : 0 ≤ d * b := Int.mul_nonneg (by omega) (by omega)
    have e2 : d * b ≤ 3 * 12 := Int.mul_le_mul (by omega) (by omega) (by omega) (by omega)
    omega
  have w1 : IntKind.i64.wrap (b - 1) = b - 1 := IntWalk.i64_in _ (by omega)
  have w2 : IntKind.i64.wrap (d * b - 1) = d * b - 1 := IntWalk.i64_in _ (by omega)
  clear hg HCN
  by_cases h1 : 1 ≤ sp ∧ sp ≤ 4
  case neg =>
    obtain rfl : r = false := not_true HR.out (fun e => h1 e.2.1)
    have HI := Lib.hid (fun (W : World) => inr_no sp 1 4 W h1)
    clear HR HS g hrr h1 hb
    go_enter Try.func132, Try.ntmps132
    go_wp2_with fail
    refine wp_region_own (by kernel_rfl) (by kernel_rfl) hc0 ?_
    repeat (first
      | go_big_quiet_skip
      | (go_big_quiet_want
         go_big_quiet_op
         first
           | go_big_quiet_on
           | (apply Exists.intro
              refine ⟨fun W hW => ?_, ?_⟩
              · (first
                  | rfl
                  | (go_at_call 130
                     refine (HG.out _).mono ?_
                     rintro e w1 ⟨rfl, b⟩
                     exact ⟨rfl, HC3.out _ _ hW b⟩)
                  | (go_at_call 83
                     refine (HI.out _).mono ?_
                     rintro e w1 ⟨rfl, rfl⟩
                     exact ⟨rfl, hW⟩)
                  | (obtain ⟨k0, k1, k2, k3, k4, k5⟩ := (HC1.out _ hW).1.six
                     simp only [k0, k1, k2, k3, k4, k5, Result.andThen]
                     exact ⟨trivial, rfl⟩))
              go_big_quiet_on)))
    refine wpQuiet_nil ?_
    intro w1 hw1
    have HB1 := Lib.hid (HC1.out _ hw1).2
    clear hw1 hc0
    go_wp2
    go_ret
    exact ⟨rfl, HB1.out⟩
  have HI := Lib.hid (fun (W : World) => inr_yes sp 1 4 W h1.1 h1.2)
  by_cases h2 : sp < b - 1
  case neg =>
    obtain rfl : r = false := not_true HR.out (fun e => h2 e.2.2.1)
    have d1 : decide (sp < b - 1) = false := by simp; omega
    clear HR HS g hrr h1 h2 hb
    go_enter Try.func132, Try.ntmps132
    go_wp2_with fail
    refine wp_region_own (by kernel_rfl) (by kernel_rfl) hc0 ?_
    repeat (first
      | go_big_quiet_skip
      | (go_big_quiet_want
         go_big_quiet_op
         first
           | go_big_quiet_on
           | (apply Exists.intro
              refine ⟨fun W hW => ?_, ?_⟩
              · (first
                  | rfl
                  | (go_at_call 130
                     refine (HG.out _).mono ?_
                     rintro e w1 ⟨rfl, b⟩
                     exact ⟨rfl, HC3.out _ _ hW b⟩)
                  | (go_at_call 83
                     refine (HI.out _).mono ?_
                     rintro e w1 ⟨rfl, rfl⟩
                     exact ⟨rfl, hW⟩)
                  | (obtain ⟨k0, k1, k2, k3, k4, k5⟩ := (HC1.out _ hW).1.six
                     simp only [k0, k1, k2, k3, k4, k5, Result.andThen]
                     exact ⟨trivial, rfl⟩))
              go_big_quiet_on)))
    refine wpQuiet_nil ?_
    intro w1 hw1
    have HB1 := Lib.hid (HC1.out _ hw1).2
    clear hw1 hc0
    go_wp2
    go_ret
    exact ⟨rfl, HB1.out⟩
  have d1 : decide (sp < b - 1) = true := by simp; omega
  have HRR := Lib.hid (show r = rr by rw [Bool.eq_iff_iff, HR.out, hrr]; exact ⟨fun e => e.2.2.2, fun e => ⟨g, h1, h2, e⟩⟩)
  generalize d * b = H at *
  clear HR g hrr h1 h2 hb
  go_enter Try.func132, Try.ntmps132
  go_wp2_with fail
  refine wp_region_own (by kernel_rfl) (by kernel_rfl) hc0 ?_
  repeat (first
    | go_big_quiet_skip
    | (go_big_quiet_want
       go_big_quiet_op
       first
         | go_big_quiet_on
         | (apply Exists.intro
            refine ⟨fun W hW => ?_, ?_⟩
            · (first
                | rfl
                | (go_at_call 130
                   refine (HG.out _).mono ?_
                   rintro e w1 ⟨rfl, b⟩
                   exact ⟨rfl, HC3.out _ _ hW b⟩)
                | (go_at_call 83
                   refine (HI.out _).mono ?_
                   rintro e w1 ⟨rfl, rfl⟩
                   exact ⟨rfl, hW⟩)
                | (go_at_call 146
                   refine (HCN1.out _).mono ?_
                   rintro e w1 ⟨rfl, b⟩
                   exact ⟨rfl, HC3.out _ _ hW b⟩)
                | (go_at_call 190
                   refine (HS.out _ (HA.out.below (HC1.out _ hW).2 hh) (Nat.le_trans hh (HC1.out _ hW).2.size)).mono ?_
                   rintro e w1 ⟨rfl, b⟩
                   exact ⟨rfl, HC3.out _ _ hW b⟩)
                | (obtain ⟨k0, k1, k2, k3, k4, k5⟩ := (HC1.out _ hW).1.six
                   simp only [k0, k1, k2, k3, k4, k5, Result.andThen]
                   exact ⟨trivial, rfl⟩))
            go_big_quiet_on)))
  refine wpQuiet_nil ?_
  intro w1 hw1
  have HB1 := Lib.hid (HC1.out _ hw1).2
  clear hw1 hc0
  go_wp2
  go_ret
  exact ⟨ret_bool HRR.out.symm, HB1.out⟩
end Go.Proofs.Ytainlanblpccjaa
