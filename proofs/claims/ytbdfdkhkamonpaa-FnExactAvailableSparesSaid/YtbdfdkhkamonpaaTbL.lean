/- PhysicalBlock and LogicalBlock, the model and the program: the contracts. -/
import Derived.Test.YtbdfdkhkamonpaaProg
import Derived.Test.YtbdfdkhkamonpaaTbK
namespace Go.Proofs.Ytbdfdkhkamonpaa
open Go.RowKit
set_option linter.unusedVariables false
set_option linter.unusedSimpArgs false
def PhbIs (T : Tb) (r : Bool) (l v c : Int) : Prop := (r = false ∧ v = 0 ∧ c = 1) ∨ (r = true ∧ ¬ (0 ≤ l ∧ l < T.rm.length) ∧ v = 0 ∧ c = 2) ∨ (r = true ∧ (0 ≤ l ∧ l < T.rm.length) ∧ v = T.rm.getD l.toNat 0 ∧ c = 0)
theorem phbIs (T : Tb) (r : Bool) (l : Int) : ∃ v c, PhbIs T r l v c := by
  cases r with
  | false => exact ⟨_, _, .inl ⟨rfl, rfl, rfl⟩⟩
  | true =>
    by_cases h : 0 ≤ l ∧ l < T.rm.length
    · exact ⟨_, _, .inr (.inr ⟨rfl, h, rfl, rfl⟩)⟩
    · exact ⟨_, _, .inr (.inl ⟨rfl, h, rfl, rfl⟩)⟩
/-- The first place of x among the first n, or -1. -/
def FstIs (l : List Int) (n : Nat) (x y : Int) : Prop := (∃ k : Nat, k < n ∧ l.getD k 0 = x ∧ (∀ j, j < k → l.getD j 0 ≠ x) ∧ y = k) ∨ ((∀ j, j < n → l.getD j 0 ≠ x) ∧ y = -1)
theorem fstIs (l : List Int) (n : Nat) (x : Int) : ∃ y, FstIs l n x y := by
  induction n with
  | zero => exact ⟨-1, .inr ⟨fun j hj => by omega, rfl⟩⟩
  | succ n ih =>
    obtain ⟨y, h⟩ := ih
    rcases h with ⟨k, h1, h2, h3, h4⟩ | ⟨h1, h2⟩
    · exact ⟨y, .inl ⟨k, by omega, h2, h3, h4⟩⟩
    · by_cases e : l.getD n 0 = x
      · exact ⟨(n : Int), .inl ⟨n, by omega, e, h1, rfl⟩⟩
      · exact ⟨-1, .inr ⟨fun j hj => by
          by_cases f : j = n
          · subst f; exact e
          · exact h1 j (by omega), rfl⟩⟩
theorem FstIs.low {l : List Int} {n : Nat} {x y : Int} (h : FstIs l n x y) : y = -1 ∨ (0 ≤ y ∧ y < n) := by
  rcases h with ⟨k, h1, _, _, rfl⟩ | ⟨_, rfl⟩
  · right; omega
  · left; rfl
theorem FstIs.hit {l : List Int} {n k : Nat} {x y : Int} (h : FstIs l n x y) (hk : k < n) (e : l.getD k 0 = x) (hb : ∀ j, j < k → l.getD j 0 ≠ x) : y = k := by
  rcases h with ⟨i, h1, h2, h3, rfl⟩ | ⟨h1, _⟩
  · have a : ¬ i < k := fun q => hb i q h2
    have b : ¬ k < i := fun q => h3 k q e
    omega
  · exact absurd e (h1 k hk)
theorem FstIs.miss {l : List Int} {n : Nat} {x y : Int} (h : FstIs l n x y) (hb : ∀ j, j < n → l.getD j 0 ≠ x) : y = -1 := by
  rcases h with ⟨i, h1, h2, h3, rfl⟩ | ⟨_, h2⟩
  · exact absurd h2 (hb i h1)
  · exact h2
def LgbIs (T : Tb) (r : Bool) (l v c : Int) : Prop := (r = false ∧ v = 0 ∧ c = 1) ∨ (r = true ∧ ¬ (0 ≤ l ∧ l < T.d * T.b) ∧ v = 0 ∧ c = 2) ∨ (r = true ∧ (0 ≤ l ∧ l < T.d * T.b) ∧ ∃ y, FstIs T.rm T.rm.length l y ∧ ((y < 0 ∧ v = 0 ∧ c = 3) ∨ (0 ≤ y ∧ v = y ∧ c = 0)))
theorem lgbIs (T : Tb) (r : Bool) (l : Int) : ∃ v c, LgbIs T r l v c := by
  cases r with
  | false => exact ⟨_, _, .inl ⟨rfl, rfl, rfl⟩⟩
  | true =>
    by_cases h : 0 ≤ l ∧ l < T.d * T.b
    · obtain ⟨y, hy⟩ := fstIs T.rm T.rm.length l
      by_cases h0 : y < 0
      · exact ⟨_, _, .inr (.inr ⟨rfl, h, y, hy, .inl ⟨h0, rfl, rfl⟩⟩)⟩
      · exact ⟨_, _, .inr (.inr ⟨rfl, h, y, hy, .inr ⟨by omega, rfl, rfl⟩⟩)⟩
    · exact ⟨_, _, .inr (.inl ⟨rfl, h, rfl, rfl⟩)⟩
set_option maxRecDepth 100000 in
theorem slIndex_any (v : Value) (l : List Int) (x y : Int) (w : World) (hi : Nat) (h : NI w hi v l) (hy : FstIs l l.length x y) (hl : l.length ≤ 1048576) :
    Calls Try.prog 97 #[v, .int .i64 x] w fun e w' => e = .returned (.int .i64 y) ∧ w = w' := by
  obtain ⟨A, n, c, rfl, _, _, hn, hA⟩ := h
  rw [hn] at hy
  have HA := Lib.hid hA
  have HY := Lib.hid hy
  have hnm : (n : Int) ≤ 1048576 := by omega
  clear hA hn hl hy
  go_enter Try.func97, Try.ntmps97
  go_wp2
  go_loopw [5, 8] (fun i0 i wr => ∃ k : Nat, k ≤ n ∧ i = .int .i64 k ∧ Hid (∀ j, j < k → l.getD j 0 ≠ x) ∧ wr = w) (fun _ i _ => n - (intOf i).toNat)
  case atStart => exact ⟨0, by omega, rfl, Lib.hid (fun j hj => by omega), rfl⟩
  case round =>
    obtain ⟨k, hk, rfl, HE, rfl⟩ := hrel
    by_cases hlt : k < n
    · have hki : (k : Int) < (n : Int) := by omega
      obtain ⟨pb, po, rfl, hp2, hpx⟩ := HA.out (by omega)
      have e1 := hpx k hlt
      by_cases he : l.getD k 0 = x
      · have HG := Lib.hid (HY.out.hit hlt he HE.out)
        rw [he] at e1
        have hxx : (x == x) = true := by simp
        clear hpx hp2 he HE HY
        go_wp2
        go_ret
        exact ⟨ret_int HG.out.symm, rfl⟩
      · have hxx : (x == l.getD k 0) = false := by simp; exact fun e => he e.symm
        have hxx2 : (l.getD k 0 == x) = false := by simpa using he
        have HN := Lib.hid (show ∀ j, j < k + 1 → l.getD j 0 ≠ x from fun j hj => by
          by_cases f : j = k
          · subst f; exact he
          · exact HE.out j (by omega))
        generalize l.getD k 0 = z at *
        clear hpx hp2 he HE HY
        go_wp2
        go_roundw
        case rel => exact ⟨k + 1, by omega, by go_num, HN, by trivial⟩
        case measure => simp [intOf]; omega
    · obtain rfl : k = n := by omega
      have HG := Lib.hid (HY.out.miss HE.out)
      clear HE HY
      go_wp2
      go_ret
      exact ⟨ret_int HG.out.symm, rfl⟩
set_option maxRecDepth 100000 in
theorem holder_any (T : Tb) (u v : Value) (x y : Int) (w : World) (hi : Nat) (h : NI w hi v T.rm) (hh : hi ≤ w.heap.size) (hy : FstIs T.rm T.rm.length x y) (hl : T.rm.length ≤ 1048576) :
    Calls Try.prog 95 #[.agg (tbc T u v), .int .i64 x] w fun e w' => e = .returned (.int .i64 y) ∧ Below w.heap.size w w' := by
  obtain ⟨A, n, c, rfl, _, _, hn, hA⟩ := h
  rw [hn] at hy
  have HA := Lib.hid hA
  have HY := Lib.hid hy
  have HH := Lib.hid hh
  have hnm : (n : Int) ≤ 1048576 := by omega
  obtain ⟨d, b, p, sp, bad, rm⟩ := T
  unfold tbc
  simp only at *
  have R0 := Lib.hid (Rw.new w 52 #[.int .i64 d, .int .i64 b, .int .i64 p, .int .i64 sp, u, .slice A n c])
  have B0 := Lib.hid ((Below.refl w.heap.size w).alloc (Nat.le_refl _) (.cells #[.int .i64 d, .int .i64 b, .int .i64 p, .int .i64 sp, u, .slice A n c] 52))
  obtain ⟨W0, hW0⟩ : ∃ W, W = w.alloc (.cells #[.int .i64 d, .int .i64 b, .int .i64 p, .int .i64 sp, u, .slice A n c] 52) := ⟨_, rfl⟩
  rw [← hW0] at R0 B0
  obtain ⟨q0, q1, q2, q3, q4, q5⟩ := R0.out.six
  clear hA hn hl hy hh
  go_enter Try.func95, Try.ntmps95
  go_wp2_with fail
  rw [← hW0]
  clear hW0
  go_loopw [5] (fun i wr => ∃ k : Nat, k ≤ n ∧ i = .int .i64 k ∧ Hid (∀ j, j < k → rm.getD j 0 ≠ x) ∧ wr = W0) (fun i _ => n - (intOf i).toNat)
  case atStart => exact ⟨0, by omega, rfl, Lib.hid (fun j hj => by omega), rfl⟩
  case round =>
    obtain ⟨k, hk, rfl, HE, rfl⟩ := hrel
    by_cases hlt : k < n
    · have hki : (k : Int) < (n : Int) := by omega
      obtain ⟨pb, po, rfl, hp2, hpx⟩ := HA.out (by omega)
      have e1 := (B0.out.cell (p := ⟨pb, po + k, none⟩) (by have := HH.out; show pb < _; omega)).trans (hpx k hlt)
      by_cases he : rm.getD k 0 = x
      · have HG := Lib.hid (HY.out.hit hlt he HE.out)
        rw [he] at e1
        have hxx : (x == x) = true := by simp
        clear hpx hp2 he HE HY
        go_wp2
        go_ret
        exact ⟨ret_int HG.out.symm, B0.out⟩
      · have hxx2 : (rm.getD k 0 == x) = false := by simpa using he
        have HN := Lib.hid (show ∀ j, j < k + 1 → rm.getD j 0 ≠ x from fun j hj => by
          by_cases f : j = k
          · subst f; exact he
          · exact HE.out j (by omega))
        generalize rm.getD k 0 = z at *
        clear hpx hp2 he HE HY
        go_wp2
        go_roundw
        case rel => exact ⟨k + 1, by omega, by go_num, HN, by trivial⟩
        case measure => simp [intOf]; omega
    · obtain rfl : k = n := by omega
      have HG := Lib.hid (HY.out.miss HE.out)
      clear HE HY
      go_wp2
      go_ret
      exact ⟨ret_int HG.out.symm, B0.out⟩

end Go.Proofs.Ytbdfdkhkamonpaa
