/- Two blocks of an array compared, in the model and in the program: the contracts. -/
import Derived.Test.YtfnhnekemjnliabProg
import Derived.Test.YtfnhnekemjnliabFlA
import Derived.Test.YtfnhnekemjnliabFlV
import Derived.Deep.QuietTactic
import Derived.BigQuiet
namespace Go.Proofs.Ytfnhnekemjnliab
open Go.RowKit
set_option linter.unusedVariables false
theorem list_same {α : Type} {d : α} {L M : List α} (hl : L.length = M.length) (h : ∀ i, i < L.length → L.getD i d = M.getD i d) : L = M := by
  refine List.ext_getElem hl fun i h1 h2 => ?_
  have := h i h1
  rw [List.getD_eq_getElem?_getD, List.getD_eq_getElem?_getD, List.getElem?_eq_getElem h1, List.getElem?_eq_getElem h2] at this
  exact this
theorem not_true {r : Bool} {P : Prop} (hr : r = true ↔ P) (h : ¬ P) : r = false := by
  cases r
  · rfl
  · exact absurd (hr.1 rfl) h
theorem below_drewN {B : Nat} {a w : World} (h : Below B a w) (n : Nat) : Below B a (w.drewN n) := ⟨h.os, h.tape, h.output, h.size, h.block⟩
theorem cast_ne {a b : Nat} (h : a ≠ b) : ((a : Int) != (b : Int)) = true := by simp; omega
/-- Two blocks differ at their heads, or are alike up to their pages. -/
theorem blk_heads (x y : Blk) : x.er ≠ y.er ∨ (x.er = y.er ∧ x.nx ≠ y.nx) ∨ (x.er = y.er ∧ x.nx = y.nx ∧ x.bad ≠ y.bad) ∨ (x.er = y.er ∧ x.nx = y.nx ∧ x.bad = y.bad ∧ x.pg.length ≠ y.pg.length) ∨ (x.er = y.er ∧ x.nx = y.nx ∧ x.bad = y.bad ∧ x.pg.length = y.pg.length) := by
  by_cases h1 : x.er = y.er
  case neg => exact .inl h1
  by_cases h2 : x.nx = y.nx
  case neg => exact .inr (.inl ⟨h1, h2⟩)
  by_cases h3 : x.bad = y.bad
  case neg => exact .inr (.inr (.inl ⟨h1, h2, h3⟩))
  by_cases h4 : x.pg.length = y.pg.length
  · exact .inr (.inr (.inr (.inr ⟨h1, h2, h3, h4⟩)))
  · exact .inr (.inr (.inr (.inl ⟨h1, h2, h3, h4⟩)))
theorem blk_eq {x y : Blk} (h1 : x.er = y.er) (h2 : x.nx = y.nx) (h3 : x.bad = y.bad) : x = y ↔ x.pg = y.pg := by
  obtain ⟨a, b, c, d⟩ := x
  obtain ⟨a', b', c', d'⟩ := y
  simp only at h1 h2 h3
  subst h1 h2 h3
  simp
set_option maxHeartbeats 1000000 in
set_option maxRecDepth 100000 in
theorem specSameBlk_any (x y : Blk) (u v : Value) (r : Bool) (w : World) (lo hi lo' hi' : Nat) (hu : PgIn w lo hi u x.pg) (hv : PgIn w lo' hi' v y.pg) (h1 : hi ≤ w.heap.size) (h2 : hi' ≤ w.heap.size) (hr : r = true ↔ x = y) (hl : x.pg.length ≤ 1048576) (hl' : y.pg.length ≤ 1048576) :
    Calls Try.prog 16 #[.agg #[.int .i64 x.er, .int .i64 x.nx, .bool x.bad, u], .agg #[.int .i64 y.er, .int .i64 y.nx, .bool y.bad, v]] w fun e w' => e = .returned (.bool r) ∧ Below w.heap.size w w' := by
  have hH := blk_heads x y
  have hq := fun a b c => blk_eq (x := x) (y := y) a b c
  obtain ⟨er, nx, bad, pg⟩ := x
  obtain ⟨er', nx', bad', pg'⟩ := y
  simp only at *
  obtain ⟨A, n, cp, rfl, hn1, hn2, hn3, hn4, hc⟩ := hu
  obtain ⟨A', n', cp', rfl, hm1, hm2, hm3, hm4, hc'⟩ := hv
  obtain ⟨r0, r1, b0⟩ := Rw.two_new w 44 44 #[.int .i64 er, .int .i64 nx, .bool bad, .slice A n cp] #[.int .i64 er', .int .i64 nx', .bool bad', .slice A' n' cp']
  have HB := Lib.hid b0
  have R0 := Lib.hid r0
  have R1 := Lib.hid r1
  clear b0 r0 r1
  rcases hH with h | ⟨rfl, h⟩ | ⟨rfl, rfl, h⟩ | ⟨rfl, rfl, rfl, h⟩ | ⟨rfl, rfl, rfl, h⟩
  · obtain rfl : r = false := not_true hr (fun e => by injection e; contradiction)
    have n1 : (er != er') = true := by simpa using h
    clear hc hc' hr hq h
    go_enter Try.func16, Try.ntmps16
    go_wp2
    go_ret
    exact ⟨rfl, HB.out⟩
  · obtain rfl : r = false := not_true hr (fun e => by injection e; contradiction)
    have n1 : (er != er) = false := by simp
    have n2 : (nx != nx') = true := by simpa using h
    clear hc hc' hr hq h
    go_enter Try.func16, Try.ntmps16
    go_wp2
    go_ret
    exact ⟨rfl, HB.out⟩
  · obtain rfl : r = false := not_true hr (fun e => by injection e; contradiction)
    have n1 : (er != er) = false := by simp
    have n2 : (nx != nx) = false := by simp
    clear hc hc' hr hq
    cases bad <;> cases bad'
    · exact absurd rfl h
    · clear h
      go_enter Try.func16, Try.ntmps16
      go_wp2
      go_ret
      exact ⟨rfl, HB.out⟩
    · clear h
      go_enter Try.func16, Try.ntmps16
      go_wp2
      go_ret
      exact ⟨rfl, HB.out⟩
    · exact absurd rfl h
  · obtain rfl : r = false := not_true hr (fun e => by injection e with _ _ _ e; exact h (by rw [e]))
    have n1 : (er != er) = false := by simp
    have n2 : (nx != nx) = false := by simp
    have n3 : (bad != bad) = false := by simp
    have n4 : ((n : Int) != (n' : Int)) = true := cast_ne (by omega)
    clear hc hc' hr hq h
    go_enter Try.func16, Try.ntmps16
    go_wp2
    go_ret
    exact ⟨rfl, HB.out⟩
  · obtain rfl : n = n' := by omega
    rw [hq rfl rfl rfl] at hr
    have n1 : (er != er) = false := by simp
    have n2 : (nx != nx) = false := by simp
    have n3 : (bad != bad) = false := by simp
    have n4 : ((n : Int) != (n : Int)) = false := by simp
    have HR := Lib.hid hr
    have HL := Lib.hid (show pg.length = n ∧ pg'.length = n from ⟨hn3, hm3⟩)
    have HC := Lib.hid hc
    have HC' := Lib.hid hc'
    have HH := Lib.hid (And.intro h1 h2)
    have hnm : (n : Int) ≤ 1048576 := by omega
    clear hc hc' hr hq h hl hl' hn1 hn2 hn3 hn4 hm1 hm2 hm3 hm4 h1 h2
    go_enter Try.func16, Try.ntmps16
    go_wp2
    obtain ⟨W0, hW0⟩ : ∃ W, W = (w.alloc (.cells #[.int .i64 er, .int .i64 nx, .bool bad, .slice A n cp] 44)).alloc (.cells #[.int .i64 er, .int .i64 nx, .bool bad, .slice A' n cp'] 44) := ⟨_, rfl⟩
    rw [← hW0] at R0 R1 HB ⊢
    clear hW0
    go_loopw [5] (fun i wr => ∃ k : Nat, k ≤ n ∧ i = .int .i64 k ∧ (∀ j, j < k → pg.getD j ByteArray.empty = pg'.getD j ByteArray.empty) ∧ Below W0.heap.size W0 wr) (fun i _ => n - (intOf i).toNat)
    case atStart => exact ⟨0, by omega, rfl, fun j hj => by omega, Below.refl _ _⟩
    case round =>
      obtain ⟨k, hk, rfl, hal, hb⟩ := hrel
      have HAL := Lib.hid hal
      have HB0 := Lib.hid hb
      have S0 := Lib.hid (R0.out.below hb R0.out.lt)
      have S1 := Lib.hid (R1.out.below hb R1.out.lt)
      obtain ⟨c0, c1, c2, c3⟩ := S0.out.four
      obtain ⟨d0, d1, d2, d3⟩ := S1.out.four
      have HBB := Lib.hid (HB.out.trans (hb.mono HB.out.size))
      clear hal hb
      by_cases hlt : k < n
      · have hki : (k : Int) < (n : Int) := by omega
        obtain ⟨pb, po, rfl, hp1, hp2, hpx⟩ := HC.out (by omega)
        obtain ⟨pb', po', rfl, hp1', hp2', hpx'⟩ := HC'.out (by omega)
        have e1 := (HBB.out.cell (p := ⟨pb, po + k, none⟩) (by have := HH.out; show pb < _; omega)).trans (hpx k hlt)
        have e2 := (HBB.out.cell (p := ⟨pb', po' + k, none⟩) (by have := HH.out; show pb' < _; omega)).trans (hpx' k hlt)
        clear hpx hpx' hp1 hp2 hp1' hp2' HC HC' HH R0 R1
        by_cases he : pg.getD k ByteArray.empty = pg'.getD k ByteArray.empty
        · have hs := str_same (rfl : pg'.getD k ByteArray.empty = pg'.getD k ByteArray.empty)
          have HE := Lib.hid he
          rw [he] at e1
          clear he
          generalize hz : pg'.getD k ByteArray.empty = z at *
          go_wp2_with fail
          go_quiet (fail)
          go_wp2
          go_roundw
          case rel => exact ⟨k + 1, by omega, by go_num, fun j hj => by
            by_cases e : j = k
            · subst e; exact HE.out.trans hz.symm
            · exact HAL.out j (by omega), below_drewN HB0.out _⟩
          case measure => simp [intOf]; omega
        · have hs := str_diff he
          obtain rfl : r = false := not_true HR.out (fun e => he (by rw [e]))
          clear HR he
          generalize pg.getD k ByteArray.empty = z at *
          generalize pg'.getD k ByteArray.empty = z' at *
          go_wp2_with fail
          go_quiet (fail)
          go_wp2
          go_ret
          exact ⟨rfl, below_drewN HBB.out _⟩
      · obtain rfl : k = n := by omega
        have hf : r = true := HR.out.2 (list_same (d := ByteArray.empty) (by have := HL.out; omega) fun i hi => HAL.out i (by have := HL.out; omega))
        subst hf
        clear HR
        go_wp2
        go_ret
        exact ⟨rfl, HBB.out⟩
end Go.Proofs.Ytfnhnekemjnliab
