/- The proof's own lemmas, part 27: DrEp CxP CxQm. -/
import Derived.Test.YtgamoiagpglcmaaProg
import Derived.Test.YtgamoiagpglcmaaMg25
import Derived.Deep.RegionHeld3
import Derived.Test.YtgamoiagpglcmaaMg14
import Derived.Test.YtgamoiagpglcmaaMg13
import Derived.Test.YtgamoiagpglcmaaMg18
import Derived.Deep.RegionLaw
import Derived.StillTailTactics
import Derived.Test.YtgamoiagpglcmaaMg0
/- The model's draw of cells and a level. -/
namespace Go.Proofs.Ytgamoiagpglcmaa
open Go.RowKit
set_option linter.unusedVariables false
set_option linter.unusedSimpArgs false
theorem CodeIs.wideC {w : World} {B B' : Nat} {v : Value} (h : CodeIs w B v) (hB : B ≤ B') : CodeIs w B' v := by
  obtain ⟨A, len, cap, e, h1, hc⟩ := h
  refine ⟨A, len, cap, e, h1, fun h0 => ?_⟩
  obtain ⟨b, off, e2, h2, hx⟩ := hc h0
  exact ⟨b, off, e2, by omega, hx⟩
set_option maxHeartbeats 4000000 in
set_option maxRecDepth 100000 in
theorem drawEp_any (v : Value) (w : World) (h : CodeIs w w.heap.size v) : Calls Try.prog 38 #[v] w fun e w' => ∃ (u : Value) (M : Ce) (l : Int), e = .returned (.tuple #[u, .int .i64 l]) ∧ CeIn w' w'.heap.size u M ∧ M.c.length ≤ 66 ∧ (0 ≤ l ∧ l ≤ 256) ∧ Below w.heap.size w w' := by
  obtain ⟨Wz, hWz⟩ : ∃ W, W = w.alloc (.cells #[.slice none 0 0] 42) := ⟨_, rfl⟩
  have b0 : Below w.heap.size w Wz := by rw [hWz]; exact (Below.refl w.heap.size w).alloc (Nat.le_refl _) _
  have hz : Wz.heap.size = w.heap.size + 1 := by rw [hWz]; simp
  have R0 := Lib.hid (show Rw Wz w.heap.size 42 #[.slice none 0 0] by rw [hWz]; exact Rw.new w _ _)
  have HC := Lib.hid (l00From_any Wz v ((h.keep fun b hb => b0.block b hb).wideC (by omega)))
  have B0 := Lib.hid b0
  have HZ := Lib.hid hz
  obtain ⟨A0, len, cap, rfl, -⟩ := id h
  clear h b0 hz
  go_enter Try.func38, Try.ntmps38
  go_wp2_with fail
  rw [← hWz]
  clear hWz
  refine HC.out.mono ?_
  rintro e w1 ⟨rfl, hS, b1⟩
  obtain ⟨g, hg⟩ : ∃ g, g = Wz.heap.size := ⟨_, rfl⟩
  rw [← hg] at hS ⊢
  have HG := Lib.hid hg
  have B1 := Lib.hid (B0.out.trans (b1.mono (by have := HZ.out; omega)))
  have R1 := Lib.hid (R0.out.below b1 (by have := HZ.out; omega))
  have S1 := Lib.hid hS
  clear b1 hS hg HC R0
  go_wp2_with fail
  refine (drawCe_any _ _ _ S1.out).mono ?_
  rintro e w2 ⟨u, M, rfl, ho, hl, hg2, hs2⟩
  have hgw : g ≠ w.heap.size := by have := HG.out; have := HZ.out; omega
  have hwg : w.heap.size < g := by have := HG.out; have := HZ.out; omega
  have S2 := Lib.hid hs2
  have hg1 := S1.out.lt
  have R2 := Lib.hid (R1.out.grown hg2 (by omega))
  have B2 := Lib.hid (B1.out.trans ((Below.refl w.heap.size w1).grown hg2 B1.out.size (fun j hj => by injection hj with hj; omega)))
  have O2 := Lib.hid ho
  obtain ⟨A, m, c, rfl⟩ := ho.agg_
  have HL := Lib.hid hl
  clear ho hl hg2 hs2 S1 R1 B1
  go_wp2_with fail
  obtain ⟨X, hX⟩ : ∃ X, X = w2.alloc (.cells #[.slice A m c] 42) := ⟨_, rfl⟩
  have bx : Below w2.heap.size w2 X := by rw [hX]; exact (Below.refl _ w2).alloc (Nat.le_refl _) _
  have hzx : X.heap.size = w2.heap.size + 1 := by rw [hX]; simp
  have RX := Lib.hid (show Rw X w2.heap.size 42 #[.slice A m c] by rw [hX]; exact Rw.new w2 _ _)
  have R3 := Lib.hid (R2.out.below bx R2.out.lt)
  have S3 := Lib.hid (S2.out.keep bx)
  have B3 := Lib.hid (B2.out.trans (bx.mono B2.out.size))
  have I3 := Lib.hid (O2.out.reads.below bx (Nat.le_refl _))
  have hgx := S3.out.lt
  have hrx := R3.out.lt
  have hgw2 : g < w2.heap.size := S2.out.lt
  have hrw2 : w.heap.size < w2.heap.size := R2.out.lt
  rw [← hX]
  have hbx := bx
  clear hX bx R2 S2
  have kA := RX.out.one
  have kA' : X.drew.cell? ⟨w2.heap.size, 0, none⟩ = some (.slice A m c) := kA
  obtain ⟨Y, hY⟩ : ∃ Y, Y = (X.alloc (.cells #[.int .i64 0, .int .i64 1, .int .i64 2, .int .i64 16, .int .i64 63, .int .i64 64, .int .i64 128, .int .i64 255, .int .i64 256] 2)).drew := ⟨_, rfl⟩
  have by_ : Below X.heap.size X Y := by rw [hY]; exact ((Below.refl _ X).alloc (Nat.le_refl _) _).drew
  have kB : (X.alloc (.cells #[.int .i64 0, .int .i64 1, .int .i64 2, .int .i64 16, .int .i64 63, .int .i64 64, .int .i64 128, .int .i64 255, .int .i64 256] 2)).drew.cell? ⟨w2.heap.size, 0, none⟩ = some (.slice A m c) := by rw [← hY]; exact (RX.out.below by_ RX.out.lt).one
  have HAM := Lib.hid (among_any (fun x => 0 ≤ x ∧ x ≤ 256) Wz.heap.size g 1000 X.heap.size 9 9 (X.alloc (.cells #[.int .i64 0, .int .i64 1, .int .i64 2, .int .i64 16, .int .i64 63, .int .i64 64, .int .i64 128, .int .i64 255, .int .i64 256] 2)).drew (by rw [← hY, ← HG.out]; exact HG.out ▸ S3.out.keep by_) (by omega) (by omega) (by omega) (by omega) (by
    intro i hi
    have e : (X.alloc (.cells #[.int .i64 0, .int .i64 1, .int .i64 2, .int .i64 16, .int .i64 63, .int .i64 64, .int .i64 128, .int .i64 255, .int .i64 256] 2)).drew.cell? ⟨X.heap.size, i, none⟩ = _ := (Rw.new X 2 #[.int .i64 0, .int .i64 1, .int .i64 2, .int .i64 16, .int .i64 63, .int .i64 64, .int .i64 128, .int .i64 255, .int .i64 256]).cell i
    rw [e]
    rcases i with _ | _ | _ | _ | _ | _ | _ | _ | _ | i <;> first | exact ⟨_, rfl, by omega, by omega⟩ | omega))
  rw [← hY] at HAM
  have R4 := Lib.hid (R3.out.below by_ R3.out.lt)
  have RX4 := Lib.hid (RX.out.below by_ RX.out.lt)
  have B4 := Lib.hid (B3.out.trans (by_.mono B3.out.size))
  have I4 := Lib.hid (I3.out.below by_ (by omega))
  have hYz := by_.size
  rw [hY, hzx] at HAM
  have HBX := Lib.hid (show ∀ k, k < w2.heap.size → Y.heap[k]? = w2.heap[k]? from fun k hk => (by_.block k (by omega)).trans (hbx.block k hk))
  have hYz := by_.size
  go_region_held3 (fun W => W.cell? ⟨w2.heap.size, 0, none⟩ = some (.slice A m c))
    (first
      | with_reducible exact kA'
      | with_reducible exact kB
      | with_reducible exact k6
      | with_reducible exact k7)
    (first
      | (go_at_call 99
         with_reducible refine HAM.out.mono ?_
         rintro e w6 ⟨vv, rfl, ⟨l, rfl, hl0, hl1⟩, hs, hg6⟩
         rw [← hY] at hg6
         have R6 := Lib.hid (R4.out.grown hg6 (by omega))
         have RX6 := Lib.hid (RX4.out.grown hg6 (by omega))
         have k6 := RX6.out.one
         have k7 := (RX6.out.farA (g' := w.heap.size) (k := 0) (by omega) (.slice A m c)).one
         have q6 := R6.out.one
         have f6 := R6.out.free 0
         have B6 := Lib.hid (B4.out.trans ((Below.refl w.heap.size Y).grown hg6 B4.out.size (fun j hj => by injection hj with hj; omega)))
         have HG6 := Lib.hid hg6
         clear hs hg6)
      | fail)
  all_goals
    have h6 := HG6.out.size
    try go_wp2
    refine bodyPost_ret (results_row_tmp Try.results38 _ _ _ _ #[.slice A m c] _ _ rfl (R6.out.set_ 0 _) Try.underlying42 rfl infoCe) rfl ⟨_, M, l, rfl, ?_, HL.out, ⟨hl0, hl1⟩, bset B6.out (Nat.le_refl _) _⟩
    refine (CeOwn.same O2.out fun k h1 h2 => ?_).reads.wide (by simp; omega)
    rw [Below.heap_setCell w6 ⟨w.heap.size, 0, none⟩ _ k (by show k ≠ w.heap.size; omega)]
    exact (grown_any HG6.out (by omega) (by omega)).trans (HBX.out k h2)
end Go.Proofs.Ytgamoiagpglcmaa
/- ErasePasses, in the model and in the program: the contracts. -/
namespace Go.Proofs.Ytgamoiagpglcmaa
open Go.RowKit
set_option linter.unusedVariables false
set_option linter.unusedSimpArgs false

/-- h is the greatest of the charges, or 0. -/
def MaxIs (cs : List Int) (h : Int) : Prop := (∀ i, i < cs.length → cs.getD i 0 ≤ h) ∧ (h = 0 ∨ ∃ i, i < cs.length ∧ cs.getD i 0 = h)
/-- y erases bring h below l, and no fewer do. -/
def PassIs (h l : Int) (y : Nat) : Prop := (∀ j : Nat, j < y → l ≤ h / 4 ^ j) ∧ h / 4 ^ y < l
theorem quart (y : Int) (p : Nat) : y / 4 ^ p / 4 = y / 4 ^ (p + 1) := by
  rw [Int.pow_succ, Int.ediv_ediv_of_nonneg (Int.le_of_lt (Int.pow_pos (by decide)))]
theorem passIs (h l : Int) (h0 : 0 ≤ h) (hl : 1 ≤ l) : ∃ y, PassIs h l y := by
  have key : ∀ f : Nat, ∀ n : Nat, h / 4 ^ n ≤ (f : Int) → (∀ j : Nat, j < n → l ≤ h / 4 ^ j) → ∃ y, PassIs h l y := by
    intro f
    induction f with
    | zero => intro n hn hj; exact ⟨n, hj, by omega⟩
    | succ f ih =>
      intro n hn hj
      by_cases hlt : h / 4 ^ n < l
      · exact ⟨n, hj, hlt⟩
      · refine ih (n + 1) ?_ (fun j hj' => ?_)
        · have e : h / 4 ^ (n + 1) = h / 4 ^ n / 4 := (quart h n).symm
          rw [e]; omega
        · by_cases e : j = n
          · subst e; omega
          · exact hj j (by omega)
  exact key h.toNat 0 (by simp; omega) (fun j hj => by omega)
theorem PassIs.uniq {h l : Int} {y z : Nat} (a : PassIs h l y) (b : PassIs h l z) : y = z := by
  rcases Nat.lt_trichotomy y z with e | e | e
  · have := b.1 y e; have := a.2; omega
  · exact e
  · have := a.1 z e; have := b.2; omega
theorem quart_le (y : Int) (h : 0 ≤ y) (p : Nat) : 0 ≤ y / 4 ^ p ∧ y / 4 ^ p ≤ y := by
  have hp : (0 : Int) < 4 ^ p := Int.pow_pos (by decide)
  exact ⟨Int.ediv_nonneg h (Int.le_of_lt hp), Int.ediv_le_self _ h⟩
/-- Some charge is at or above the level after p erases exactly if the greatest is. -/
theorem MaxIs.some_ge {cs : List Int} {h l : Int} (m : MaxIs cs h) (hl : 1 ≤ l) (p : Nat) : (∃ i, i < cs.length ∧ l ≤ cs.getD i 0 / 4 ^ p) ↔ l ≤ h / 4 ^ p := by
  have hp : (0 : Int) < 4 ^ p := Int.pow_pos (by decide)
  constructor
  · rintro ⟨i, hi, e⟩
    exact Int.le_trans e (Int.ediv_le_ediv hp (m.1 i hi))
  · intro e
    rcases m.2 with rfl | ⟨i, hi, rfl⟩
    · simp at e; omega
    · exact ⟨i, hi, e⟩
theorem maxIs (cs : List Int) (hc : ∀ i, i < cs.length → ChOk cs i) : ∃ h, MaxIs cs h ∧ 0 ≤ h ∧ h ≤ 255 := by
  have key : ∀ n, n ≤ cs.length → ∃ h, (∀ i, i < n → cs.getD i 0 ≤ h) ∧ (h = 0 ∨ ∃ i, i < n ∧ cs.getD i 0 = h) ∧ 0 ≤ h ∧ h ≤ 255 := by
    intro n
    induction n with
    | zero => intro _; exact ⟨0, fun i hi => by omega, .inl rfl, by omega, by omega⟩
    | succ n ih =>
      intro hn
      obtain ⟨h, h1, h2, h3, h4⟩ := ih (by omega)
      have hk := hc n (by omega)
      unfold ChOk at hk
      by_cases e : cs.getD n 0 ≤ h
      · refine ⟨h, fun i hi => ?_, ?_, h3, h4⟩
        · by_cases f : i = n
          · subst f; exact e
          · exact h1 i (by omega)
        · rcases h2 with h2 | ⟨i, hi, h2⟩
          · exact .inl h2
          · exact .inr ⟨i, by omega, h2⟩
      · refine ⟨cs.getD n 0, fun i hi => ?_, .inr ⟨n, by omega, rfl⟩, hk.1, hk.2⟩
        by_cases f : i = n
        · subst f; omega
        · have := h1 i (by omega); omega
  obtain ⟨h, h1, h2, h3, h4⟩ := key cs.length (Nat.le_refl _)
  exact ⟨h, ⟨h1, h2⟩, h3, h4⟩
/-- What ErasePasses answers. -/
def EpIs (M : Ce) (r : Bool) (l y : Int) : Prop := (¬ (r = true ∧ 1 ≤ l ∧ l ≤ 255) ∧ y = -1) ∨ ((r = true ∧ 1 ≤ l ∧ l ≤ 255) ∧ ∃ h p, MaxIs M.c h ∧ 0 ≤ h ∧ h ≤ 255 ∧ PassIs h l p ∧ y = (p : Int))
theorem epIs (M : Ce) (r : Bool) (hr : r = true ↔ CeOk M) (l : Int) : ∃ y, EpIs M r l y := by
  by_cases g : r = true ∧ 1 ≤ l ∧ l ≤ 255
  · obtain ⟨h, m, h0, h1⟩ := maxIs M.c (hr.1 g.1).2
    obtain ⟨p, hp⟩ := passIs h l h0 g.2.1
    exact ⟨p, .inr ⟨g, h, p, m, h0, h1, hp, rfl⟩⟩
  · exact ⟨-1, .inl ⟨g, rfl⟩⟩
theorem MaxIs.uniq {cs : List Int} {a b : Int} (ha : MaxIs cs a) (hb : MaxIs cs b) (h0 : 0 ≤ a) (h1 : 0 ≤ b) : a = b := by
  have f : ∀ {a b : Int}, MaxIs cs a → MaxIs cs b → 0 ≤ b → a ≤ b := by
    intro a b ha hb h
    rcases ha.2 with rfl | ⟨i, hi, rfl⟩
    · exact h
    · exact hb.1 i hi
  exact Int.le_antisymm (f ha hb h1) (f hb ha h0)
end Go.Proofs.Ytgamoiagpglcmaa
/- The greater of two integers, in the model: the contract. -/
namespace Go.Proofs.Ytgamoiagpglcmaa
open Go.RowKit
set_option linter.unusedVariables false
set_option linter.unusedSimpArgs false

theorem max00_any (a b m : Int) (w : World) (hm : m = max a b) : Calls Try.prog 101 #[.int .i64 a, .int .i64 b] w fun e w' => e = .returned (.int .i64 m) ∧ w = w' := by
  by_cases h : a > b
  · have d1 : decide (a > b) = true := by simpa using h
    have d2 : decide (b < a) = true := by simpa using h
    obtain rfl : m = a := by omega
    clear h hm
    go_enter Try.func101, Try.ntmps101
    go_wp2
    go_ret
    exact ⟨rfl, rfl⟩
  · have d1 : decide (a > b) = false := by simpa using h
    have d2 : decide (b < a) = false := by simpa using h
    obtain rfl : m = b := by omega
    clear h hm
    go_enter Try.func101, Try.ntmps101
    go_wp2
    go_ret
    exact ⟨rfl, rfl⟩
end Go.Proofs.Ytgamoiagpglcmaa
