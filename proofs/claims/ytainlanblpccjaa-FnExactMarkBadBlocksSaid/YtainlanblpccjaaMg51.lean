/- The proof's own lemmas, part 52: FlV. -/
import Derived.Test.YtainlanblpccjaaProg
import Derived.Test.YtainlanblpccjaaMg1
import Derived.Test.YtainlanblpccjaaMg13
import Derived.Test.YtainlanblpccjaaMg4
import Derived.Test.YtainlanblpccjaaMg50
import Derived.StillTailTactics
/- Which geometries and arrays are valid, in the model and in the program: the contracts. -/
namespace Go.Proofs.Ytainlanblpccjaa
open Go.RowKit
set_option linter.unusedVariables false

/-! One block. -/
theorem blk_not {p : Int} {x : Blk} (h : ¬ BlkOk p x) : ¬ (0 ≤ x.er ∧ x.er ≤ 1000) ∨ ((0 ≤ x.er ∧ x.er ≤ 1000) ∧ ¬ (0 ≤ x.nx ∧ x.nx ≤ p)) ∨ ((0 ≤ x.er ∧ x.er ≤ 1000) ∧ (0 ≤ x.nx ∧ x.nx ≤ p) ∧ (x.pg.length : Int) ≠ p) ∨
    ((0 ≤ x.er ∧ x.er ≤ 1000) ∧ (0 ≤ x.nx ∧ x.nx ≤ p) ∧ (x.pg.length : Int) = p ∧ ¬ ∀ i, i < x.pg.length → PageOk x.nx i (x.at i)) := by
  unfold BlkOk at h
  by_cases h1 : 0 ≤ x.er ∧ x.er ≤ 1000
  · by_cases h2 : 0 ≤ x.nx ∧ x.nx ≤ p
    · by_cases h3 : (x.pg.length : Int) = p
      · exact .inr (.inr (.inr ⟨h1, h2, h3, fun h4 => h ⟨h1, h2, h3, h4⟩⟩))
      · exact .inr (.inr (.inl ⟨h1, h2, h3⟩))
    · exact .inr (.inl ⟨h1, h2⟩)
  · exact .inl h1
def BoolPost (r : Bool) (w : World) (e : Ending) (w' : World) : Prop := e = .returned (.bool r) ∧ Below w.heap.size w w'
/-- The loop over a block's pages comes to r. -/
theorem specBlk_any (x : Blk) (pv : Value) (p : Int) (r : Bool) (w : World) (lo hi : Nat) (hp : PgIn w lo hi pv x.pg) (hh : hi ≤ w.heap.size) (h : r = true ↔ BlkOk p x) (hl : x.pg.length ≤ 1048576) :
    Calls Try.prog 176 #[.agg #[.int .i64 x.er, .int .i64 x.nx, .bool x.bad, pv], .int .i64 p] w (BoolPost r w) := by
  have hb0 := (Below.refl w.heap.size w).alloc (Nat.le_refl _) (.cells #[.int .i64 x.er, .int .i64 x.nx, .bool x.bad, pv] 147)
  obtain ⟨hy, hn⟩ := bool_of r h
  obtain ⟨A, n, cap, rfl, hlc, hcm, hlen, hsz, hA⟩ := hp
  have hnm : (n : Int) ≤ 1048576 := by omega
  have shortcut : ¬ (BlkOk p x) → r = false := hn
  obtain ⟨er, nx, bad, pg⟩ := x
  simp only at *
  by_cases hbad : ¬ (0 ≤ er ∧ er ≤ 1000) ∨ ((0 ≤ er ∧ er ≤ 1000) ∧ ¬ (0 ≤ nx ∧ nx ≤ p)) ∨ ((0 ≤ er ∧ er ≤ 1000) ∧ (0 ≤ nx ∧ nx ≤ p) ∧ (n : Int) ≠ p)
  · obtain rfl : r = false := hn (fun k => by obtain ⟨k1, k2, k3, _⟩ := k; simp only at k1 k2 k3; rw [hlen] at k3; rcases hbad with a | ⟨_, a⟩ | ⟨_, _, a⟩ <;> contradiction)
    clear hy hn h shortcut hA hsz hlen
    rcases hbad with h1 | ⟨h1, h2⟩ | ⟨h1, h2, h3⟩
    · go_enter Try.func176, Try.ntmps176
      go_wp2_with fail
      refine (inr_no er 0 1000 _ h1).mono ?_
      rintro e w1 ⟨rfl, rfl⟩
      go_wp2
      go_ret
      exact ⟨rfl, hb0⟩
    · go_enter Try.func176, Try.ntmps176
      go_wp2_with fail
      refine (inr_yes er 0 1000 _ h1.1 h1.2).mono ?_
      rintro e w1 ⟨rfl, rfl⟩
      go_wp2_with fail
      refine (inr_no nx 0 p _ h2).mono ?_
      rintro e w1 ⟨rfl, rfl⟩
      go_wp2
      go_ret
      exact ⟨rfl, hb0⟩
    · have q1 : ((n : Int) != p) = true := by simp; exact h3
      go_enter Try.func176, Try.ntmps176
      go_wp2_with fail
      refine (inr_yes er 0 1000 _ h1.1 h1.2).mono ?_
      rintro e w1 ⟨rfl, rfl⟩
      go_wp2_with fail
      refine (inr_yes nx 0 p _ h2.1 h2.2).mono ?_
      rintro e w1 ⟨rfl, rfl⟩
      go_wp2
      go_ret
      exact ⟨rfl, hb0⟩
  · have h1 : 0 ≤ er ∧ er ≤ 1000 := by
      by_cases k : 0 ≤ er ∧ er ≤ 1000
      · exact k
      · exact absurd (.inl k) hbad
    have h2 : 0 ≤ nx ∧ nx ≤ p := by
      by_cases k : 0 ≤ nx ∧ nx ≤ p
      · exact k
      · exact absurd (.inr (.inl ⟨h1, k⟩)) hbad
    have h3 : (n : Int) = p := by
      by_cases k : (n : Int) = p
      · exact k
      · exact absurd (.inr (.inr ⟨h1, h2, k⟩)) hbad
    subst h3
    have q1 : ((n : Int) != (n : Int)) = false := by simp
    have HR := Lib.hid (show r = true ↔ ∀ i, i < n → PageOk nx i (pg.getD i ByteArray.empty) from by
      rw [h]; unfold BlkOk; simp only [hlen]
      exact ⟨fun k i hi => k.2.2.2 i hi, fun k => ⟨h1, h2, trivial, fun i hi => k i hi⟩⟩)
    have HSZ := Lib.hid hsz
    clear hbad hy hn h shortcut hsz hlen
    go_enter Try.func176, Try.ntmps176
    go_wp2_with fail
    refine (inr_yes er 0 1000 _ h1.1 h1.2).mono ?_
    rintro e w1 ⟨rfl, rfl⟩
    go_wp2_with fail
    refine (inr_yes nx 0 (n : Int) _ h2.1 h2.2).mono ?_
    rintro e w1 ⟨rfl, rfl⟩
    go_wp2_with fail
    go_loop [5] (fun i => ∃ k : Nat, k ≤ n ∧ i = .int .i64 k ∧ Hid (∀ j, j < k → PageOk nx j (pg.getD j ByteArray.empty))) (fun i => n - (intOf i).toNat)
    case atStart => exact ⟨0, by omega, rfl, Lib.hid (fun j hj => by omega)⟩
    case round =>
      obtain ⟨k, hk, rfl, HA⟩ := hrel
      by_cases hlt : k < n
      · have hki : (k : Int) < (n : Int) := by omega
        obtain ⟨b, off, rfl, hb1, hb2, hx⟩ := hA (by omega)
        have hc : ∀ o, (w.alloc o).cell? ⟨b, off + k, none⟩ = some (.string (pg.getD k ByteArray.empty)) := fun o => (World.cell?_alloc_lt w _ _ (by show b < _; omega)).trans (hx k hlt)
        have hsz := HSZ.out k hlt
        have HY := Lib.hid (show ∀ y, y = pg.getD k ByteArray.empty → PageOk nx k y → ∀ j, j < k + 1 → PageOk nx j (pg.getD j ByteArray.empty) from fun y hy ho j hj => by
          by_cases e : j = k
          · rw [e, ← hy]; exact ho
          · exact HA.out j (by omega))
        have HZ := Lib.hid (show ∀ y, y = pg.getD k ByteArray.empty → ¬ PageOk nx k y → r = false from fun y hy ho => by
          cases r with
          | false => rfl
          | true => exact absurd (HR.out.1 rfl k hlt) (by rw [← hy]; exact ho))
        generalize hgy : pg.getD k ByteArray.empty = y at *
        have HGY := Lib.hid hgy
        clear hgy hx hA
        by_cases y0 : y.size = 0
        · have g1 : ((y.size : Int) != 0) = false := by rw [y0]; rfl
          clear HZ
          go_wp2
          go_round
          case rel => exact ⟨k + 1, by omega, by go_num, Lib.hid (HY.out y rfl (.inl y0))⟩
          case measure => simp [intOf]; omega
        · have g1 : ((y.size : Int) != 0) = true := bne_iff_ne.2 (by omega)
          by_cases y1 : y.size = 91
          · have g2 : ((y.size : Int) != 91) = false := by rw [y1]; rfl
            by_cases y2 : (k : Int) < nx
            · have g3 : decide ((k : Int) ≥ nx) = false := by simp; omega
              have g4 : decide (nx ≤ (k : Int)) = false := by simp; omega
              clear HZ
              go_wp2
              go_round
              case rel => exact ⟨k + 1, by omega, by go_num, Lib.hid (HY.out y rfl (.inr ⟨y1, y2⟩))⟩
              case measure => simp [intOf]; omega
            · have g3 : decide ((k : Int) ≥ nx) = true := by simp; omega
              have g4 : decide (nx ≤ (k : Int)) = true := by simp; omega
              have HF := Lib.hid (HZ.out y rfl (fun o => by rcases o with o | ⟨_, o⟩; exact y0 o; exact y2 o))
              go_wp2
              go_ret
              exact ⟨by rw [HF.out]; rfl, hb0⟩
          · have g2 : ((y.size : Int) != 91) = true := bne_iff_ne.2 (by omega)
            have HF := Lib.hid (HZ.out y rfl (fun o => by rcases o with o | ⟨o, _⟩; exact y0 o; exact y1 o))
            go_wp2
            go_ret
            exact ⟨by rw [HF.out]; rfl, hb0⟩
      · obtain rfl : k = n := by omega
        have HT := Lib.hid (HR.out.2 HA.out)
        go_wp2
        go_ret
        exact ⟨by rw [HT.out]; rfl, hb0⟩
theorem bytes_ne {y : ByteArray} (h : y.size ≠ 0) : ¬ y.toList = [] ∧ y.toList.isEmpty = false := by
  have e : y.toList ≠ [] := by
    rw [ByteArray.toList_eq]
    intro e
    apply h
    show y.data.size = 0
    rw [← Array.length_toList, e]; rfl
  exact ⟨e, by cases hq : y.toList with
    | nil => exact absurd hq e
    | cons a l => rfl⟩
theorem implBlk_any (x : Blk) (pv : Value) (g o : Nat) (p : Int) (r : Bool) (w : World) (lo hi : Nat) (hat : BkAt w g o x pv) (hp : PgIn w lo hi pv x.pg) (hh : hi ≤ w.heap.size) (h : r = true ↔ BlkOk p x) (hl : x.pg.length ≤ 1048576) :
    Calls Try.prog 184 #[.pointer (some ⟨g, o, none⟩), .int .i64 p] w (BoolPost r w) := by
  have hb0 := Below.refl w.heap.size w
  obtain ⟨hy, hn⟩ := bool_of r h
  obtain ⟨A, n, cap, rfl, hlc, hcm, hlen, hsz, hA⟩ := hp
  obtain ⟨c0, c1, c2, c3⟩ := hat
  have hnm : (n : Int) ≤ 1048576 := by omega
  obtain ⟨er, nx, bad, pg⟩ := x
  simp only at *
  by_cases hbad : ¬ (0 ≤ er ∧ er ≤ 1000) ∨ ((0 ≤ er ∧ er ≤ 1000) ∧ ¬ (0 ≤ nx ∧ nx ≤ p)) ∨ ((0 ≤ er ∧ er ≤ 1000) ∧ (0 ≤ nx ∧ nx ≤ p) ∧ (n : Int) ≠ p)
  · obtain rfl : r = false := hn (fun k => by obtain ⟨k1, k2, k3, _⟩ := k; simp only at k1 k2 k3; rw [hlen] at k3; rcases hbad with a | ⟨_, a⟩ | ⟨_, _, a⟩ <;> contradiction)
    clear hy hn h hA hsz hlen
    by_cases a1 : er < 0
    · go_enter Try.func184, Try.ntmps184
      go_wp2
      go_ret
      exact ⟨rfl, hb0⟩
    · by_cases a2 : er > 1000
      · go_enter Try.func184, Try.ntmps184
        go_wp2
        go_ret
        exact ⟨rfl, hb0⟩
      · by_cases a3 : nx < 0
        · go_enter Try.func184, Try.ntmps184
          go_wp2
          go_ret
          exact ⟨rfl, hb0⟩
        · by_cases a4 : nx > p
          · go_enter Try.func184, Try.ntmps184
            go_wp2
            go_ret
            exact ⟨rfl, hb0⟩
          · have q1 : ((n : Int) != p) = true := bne_iff_ne.2 (by
              intro e
              rcases hbad with a | ⟨_, a⟩ | ⟨_, _, a⟩
              · exact a ⟨by omega, by omega⟩
              · exact a ⟨by omega, by omega⟩
              · exact a e)
            clear hbad
            go_enter Try.func184, Try.ntmps184
            go_wp2
            go_ret
            exact ⟨rfl, hb0⟩
  · have h1 : 0 ≤ er ∧ er ≤ 1000 := by
      by_cases k : 0 ≤ er ∧ er ≤ 1000
      · exact k
      · exact absurd (.inl k) hbad
    have h2 : 0 ≤ nx ∧ nx ≤ p := by
      by_cases k : 0 ≤ nx ∧ nx ≤ p
      · exact k
      · exact absurd (.inr (.inl ⟨h1, k⟩)) hbad
    have h3 : (n : Int) = p := by
      by_cases k : (n : Int) = p
      · exact k
      · exact absurd (.inr (.inr ⟨h1, h2, k⟩)) hbad
    subst h3
    have q1 : ((n : Int) != (n : Int)) = false := by simp
    have HR := Lib.hid (show r = true ↔ ∀ i, i < n → PageOk nx i (pg.getD i ByteArray.empty) from by
      rw [h]; unfold BlkOk; simp only [hlen]
      exact ⟨fun k i hi => k.2.2.2 i hi, fun k => ⟨h1, h2, trivial, fun i hi => k i hi⟩⟩)
    have HSZ := Lib.hid hsz
    obtain ⟨h1, h1'⟩ := h1
    obtain ⟨h2, h2'⟩ := h2
    have a1 : ¬ er < 0 := by omega
    have a2 : ¬ er > 1000 := by omega
    have a3 : ¬ nx < 0 := by omega
    have a4 : ¬ nx > (n : Int) := by omega
    clear hbad hy hn h hsz hlen
    go_enter Try.func184, Try.ntmps184
    go_wp2_with fail
    go_loop [48] (fun i => ∃ k : Nat, k ≤ n ∧ i = .int .i64 k ∧ Hid (∀ j, j < k → PageOk nx j (pg.getD j ByteArray.empty))) (fun i => n - (intOf i).toNat)
    case atStart => exact ⟨0, by omega, rfl, Lib.hid (fun j hj => by omega)⟩
    case round =>
      obtain ⟨k, hk, rfl, HA⟩ := hrel
      by_cases hlt : k < n
      · have hki : (k : Int) < (n : Int) := by omega
        obtain ⟨b, off, rfl, hb1, hb2, hx⟩ := hA (by omega)
        have hc := hx k hlt
        have hsz := HSZ.out k hlt
        have HY := Lib.hid (show ∀ y, y = pg.getD k ByteArray.empty → PageOk nx k y → ∀ j, j < k + 1 → PageOk nx j (pg.getD j ByteArray.empty) from fun y hy ho j hj => by
          by_cases e : j = k
          · rw [e, ← hy]; exact ho
          · exact HA.out j (by omega))
        have HZ := Lib.hid (show ∀ y, y = pg.getD k ByteArray.empty → ¬ PageOk nx k y → r = false from fun y hy ho => by
          cases r with
          | false => rfl
          | true => exact absurd (HR.out.1 rfl k hlt) (by rw [← hy]; exact ho))
        generalize hgy : pg.getD k ByteArray.empty = y at *
        have HGY := Lib.hid hgy
        clear hgy hx hA
        by_cases y0 : y.size = 0
        · have hy0 : y = ⟨#[]⟩ := ByteArray.ext (Array.eq_empty_of_size_eq_zero y0)
          clear HZ
          have HP := Lib.hid (HY.out y rfl (.inl y0))
          subst hy0
          go_wp2
          go_round
          case rel => exact ⟨k + 1, by omega, by go_num, HP⟩
          case measure => simp [intOf]; omega
        · have g1 : ((y.size : Int) != 0) = true := bne_iff_ne.2 (by omega)
          obtain ⟨hne, hie⟩ := bytes_ne y0
          by_cases y1 : y.size = 91
          · have g2 : ((y.size : Int) != 91) = false := by rw [y1]; rfl
            by_cases y2 : (k : Int) < nx
            · have g3 : decide ((k : Int) ≥ nx) = false := by simp; omega
              have g4 : decide (nx ≤ (k : Int)) = false := by simp; omega
              clear HZ
              go_wp2
              go_round
              case rel => exact ⟨k + 1, by omega, by go_num, Lib.hid (HY.out y rfl (.inr ⟨y1, y2⟩))⟩
              case measure => simp [intOf]; omega
            · have g3 : decide ((k : Int) ≥ nx) = true := by simp; omega
              have g4 : decide (nx ≤ (k : Int)) = true := by simp; omega
              have HF := Lib.hid (HZ.out y rfl (fun o => by rcases o with o | ⟨_, o⟩; exact y0 o; exact y2 o))
              go_wp2
              go_ret
              exact ⟨by rw [HF.out]; rfl, hb0⟩
          · have g2 : ((y.size : Int) != 91) = true := bne_iff_ne.2 (by omega)
            have HF := Lib.hid (HZ.out y rfl (fun o => by rcases o with o | ⟨o, _⟩; exact y0 o; exact y1 o))
            go_wp2
            go_ret
            exact ⟨by rw [HF.out]; rfl, hb0⟩
      · obtain rfl : k = n := by omega
        have HT := Lib.hid (HR.out.2 HA.out)
        go_wp2
        go_ret
        exact ⟨by rw [HT.out]; rfl, hb0⟩
end Go.Proofs.Ytainlanblpccjaa
