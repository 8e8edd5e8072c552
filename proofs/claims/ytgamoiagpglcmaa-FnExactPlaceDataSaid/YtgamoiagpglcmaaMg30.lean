/- The proof's own lemmas, part 31: TbS. -/
import Derived.Test.YtgamoiagpglcmaaProg
import Derived.Test.YtgamoiagpglcmaaMg17
import Derived.Test.YtgamoiagpglcmaaMg29
import Derived.Test.YtgamoiagpglcmaaMg3
/- Which tables of bad blocks are valid, in the model: the contracts. -/
namespace Go.Proofs.Ytgamoiagpglcmaa
open Go.RowKit
set_option linter.unusedVariables false
set_option linter.unusedSimpArgs false
theorem has_any (v : Value) (l : List Int) (x : Int) (r : Bool) (w : World) (hi : Nat) (h : NI w hi v l) (hr : r = true ↔ x ∈ l) (hl : l.length ≤ 1048576) :
    Calls Try.prog 116 #[v, .int .i64 x] w fun e w' => e = .returned (.bool r) ∧ w = w' := by
  obtain ⟨A, n, cap, rfl, hn1, hn2, hn, hA⟩ := h
  have hnm : (n : Int) ≤ 1048576 := by omega
  have HR := Lib.hid (show r = true ↔ ∃ i, i < n ∧ l.getD i 0 = x by rw [hr, mem_iff_getD, hn])
  have HA := Lib.hid hA
  clear hA hr hn hn1 hn2 hl
  go_enter Try.func116, Try.ntmps116
  go_wp2
  go_loop [5] (fun i => ∃ k : Nat, k ≤ n ∧ i = .int .i64 k ∧ Hid (∀ j, j < k → l.getD j 0 ≠ x)) (fun i => n - (intOf i).toNat)
  case atStart => exact ⟨0, by omega, rfl, Lib.hid fun j hj => by omega⟩
  case round =>
    obtain ⟨k, hk, rfl, HB⟩ := hrel
    by_cases hlt : k < n
    · have hki : (k : Int) < (n : Int) := by omega
      obtain ⟨b, off, rfl, _, hx⟩ := HA.out (by omega)
      have hc := hx k hlt
      clear hx
      by_cases he : l.getD k 0 = x
      · obtain rfl : r = true := HR.out.2 ⟨k, hlt, he⟩
        have hs : (l.getD k 0 == x) = true := by simpa using he
        clear HR HA he
        generalize l.getD k 0 = y at *
        go_wp2
        go_ret
        exact ⟨rfl, rfl⟩
      · have hs : (l.getD k 0 == x) = false := by simpa using he
        have HE := Lib.hid he
        clear he
        generalize hy : l.getD k 0 = y at *
        have HY := Lib.hid hy
        clear hy
        go_wp2
        go_round
        case rel => exact ⟨k + 1, by omega, by go_num, Lib.hid fun j hj => by
          by_cases e : j = k
          · subst e; rw [HY.out]; exact HE.out
          · exact HB.out j (by omega)⟩
        case measure => simp [intOf]; omega
    · obtain rfl : k = n := by omega
      obtain rfl : r = false := not_true HR.out (fun ⟨i, h1, h2⟩ => HB.out i h1 h2)
      clear HR HA
      go_wp2
      go_ret
      exact ⟨rfl, rfl⟩
set_option maxHeartbeats 1000000 in
set_option maxRecDepth 100000 in
theorem rises_any (v : Value) (l : List Int) (H : Int) (r : Bool) (w : World) (hi : Nat) (h : NI w hi v l) (hh : hi ≤ w.heap.size) (hr : r = true ↔ Rises l H) (hl : l.length ≤ 1048576) :
    Calls Try.prog 131 #[v, .int .i64 0, .int .i64 (H - 1)] w fun e w' => e = .returned (.bool r) ∧ Below w.heap.size w w' := by
  obtain ⟨A, n, cap, rfl, hn1, hn2, hn, hA⟩ := h
  have hnm : (n : Int) ≤ 1048576 := by omega
  have HR := Lib.hid (show r = true ↔ ∀ i, i < n → (0 ≤ l.getD i 0 ∧ l.getD i 0 < H) ∧ (0 < i → l.getD (i - 1) 0 < l.getD i 0) by rw [hr, Rises, hn])
  have HA := Lib.hid hA
  clear hA hr hn hn1 hn2 hl
  go_enter Try.func131, Try.ntmps131
  go_wp2
  go_loopw [7] (fun i wr => ∃ k : Nat, k ≤ n ∧ i = .int .i64 k ∧ Hid (∀ i, i < k → (0 ≤ l.getD i 0 ∧ l.getD i 0 < H) ∧ (0 < i → l.getD (i - 1) 0 < l.getD i 0)) ∧ Below w.heap.size w wr) (fun i _ => n - (intOf i).toNat)
  case atStart => exact ⟨0, by omega, rfl, Lib.hid fun j hj => by omega, Below.refl _ _⟩
  case round =>
    obtain ⟨k, hk, rfl, HB, hb⟩ := hrel
    have HBB := Lib.hid hb
    by_cases hlt : k < n
    · have hki : (k : Int) < (n : Int) := by omega
      obtain ⟨b, off, rfl, hbl, hx⟩ := HA.out (by omega)
      have hc := (hb.cell (p := ⟨b, off + k, none⟩) (by show b < _; omega)).trans (hx k hlt)
      by_cases hin : 0 ≤ l.getD k 0 ∧ l.getD k 0 ≤ H - 1
      case neg =>
        obtain rfl : r = false := not_true HR.out (fun e => by have := (e k hlt).1; omega)
        clear HR HA hx hb
        generalize l.getD k 0 = y at *
        have HI := Lib.hid (fun (W : World) => inr_no y 0 (H - 1) W hin)
        clear hin
        go_wp2_with fail
        go_quiet (first | (go_at_call 83; refine Calls.quiet_of_same ((HI.out _).mono fun e w' h => ⟨h.1, h.2.symm⟩)))
        go_wp2
        go_ret
        exact ⟨rfl, below_drewN HBB.out _⟩
      case pos =>
        have HIN := Lib.hid hin
        have HI := Lib.hid (fun (W : World) => inr_yes (l.getD k 0) 0 (H - 1) W hin.1 hin.2)
        clear hin
        rcases Nat.eq_zero_or_pos k with hk0 | hk0
        · subst hk0
          rw [Nat.add_zero] at hc
          clear HR HA hx hb
          generalize hy : l.getD 0 0 = y at *
          have HY := Lib.hid hy
          clear hy
          go_wp2_with fail
          go_quiet (first | (go_at_call 83; refine Calls.quiet_of_same ((HI.out _).mono fun e w' h => ⟨h.1, h.2.symm⟩)))
          go_wp2
          go_roundw
          case rel => exact ⟨1, by omega, by go_num, Lib.hid fun j hj => by
            obtain rfl : j = 0 := by omega
            rw [HY.out]; have := HIN.out; exact ⟨⟨this.1, by omega⟩, fun e => by omega⟩, below_drewN HBB.out _⟩
          case measure => simp [intOf]; omega
        · obtain ⟨j, rfl⟩ : ∃ j, k = j + 1 := ⟨k - 1, by omega⟩
          have hc0 := (hb.cell (p := ⟨b, off + j, none⟩) (by show b < _; omega)).trans (hx j (by omega))
          by_cases hord : l.getD j 0 < l.getD (j + 1) 0
          · have HO := Lib.hid hord
            clear HR HA hx hb
            generalize hy : l.getD (j + 1) 0 = y at *
            generalize hz : l.getD j 0 = z at *
            have HY := Lib.hid hy
            have HZ := Lib.hid hz
            clear hy hz
            have d1 : decide (z ≥ y) = false := by simp; omega
            have d2 : decide (y ≤ z) = false := by simp; omega
            have d3 : decide ((0 : Int) < (j : Int) + 1) = true := by simp <;> omega
            go_wp2_with fail
            go_quiet (first | (go_at_call 83; refine Calls.quiet_of_same ((HI.out _).mono fun e w' h => ⟨h.1, h.2.symm⟩)))
            go_wp2
            go_roundw
            case rel => exact ⟨j + 1 + 1, by omega, by go_num, Lib.hid fun t ht => by
              by_cases e : t = j + 1
              · subst e; have := HIN.out; have := HO.out; rw [Nat.add_sub_cancel, HY.out, HZ.out]; exact ⟨⟨by omega, by omega⟩, fun _ => by omega⟩
              · exact HB.out t (by omega), below_drewN HBB.out _⟩
            case measure => simp [intOf]; omega
          · obtain rfl : r = false := not_true HR.out (fun e => hord (by have := (e (j + 1) hlt).2 (by omega); rwa [Nat.add_sub_cancel] at this))
            clear HR HA hx hb
            generalize l.getD (j + 1) 0 = y at *
            generalize l.getD j 0 = z at *
            have d1 : decide (z ≥ y) = true := by simp; omega
            have d2 : decide (y ≤ z) = true := by simp; omega
            have d3 : decide ((0 : Int) < (j : Int) + 1) = true := by simp <;> omega
            clear hord
            go_wp2_with fail
            go_quiet (first | (go_at_call 83; refine Calls.quiet_of_same ((HI.out _).mono fun e w' h => ⟨h.1, h.2.symm⟩)))
            go_wp2
            go_ret
            exact ⟨rfl, below_drewN HBB.out _⟩
    · obtain rfl : k = n := by omega
      obtain rfl : r = true := HR.out.2 HB.out
      clear HR HA
      go_wp2
      go_ret
      exact ⟨rfl, hb⟩
/-- The cells of a table as numbers and slices. -/
def tb6 (d b p sp : Int) (A : Option Addr) (n c : Nat) (A' : Option Addr) (n' c' : Nat) : Array Value := #[.int .i64 d, .int .i64 b, .int .i64 p, .int .i64 sp, .slice A n c, .slice A' n' c']
end Go.Proofs.Ytgamoiagpglcmaa
