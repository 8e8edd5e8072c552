/- Two blocks of an array compared by the program: the contracts. -/
import Derived.Test.YtfnhnekemjnliabProg
import Derived.Test.YtfnhnekemjnliabSmN
namespace Go.Proofs.Ytfnhnekemjnliab
open Go.RowKit
set_option linter.unusedVariables false
set_option maxHeartbeats 1000000 in
set_option maxRecDepth 100000 in
theorem slEq_any (u v : Value) (L M : List ByteArray) (r : Bool) (w : World) (lo hi lo' hi' : Nat) (hu : PgIn w lo hi u L) (hv : PgIn w lo' hi' v M) (h1 : hi ≤ w.heap.size) (h2 : hi' ≤ w.heap.size) (hr : r = true ↔ L = M) (hl : L.length ≤ 1048576) (hl' : M.length ≤ 1048576) :
    Calls Try.prog 29 #[u, v] w fun e w' => e = .returned (.bool r) ∧ Below w.heap.size w w' := by
  obtain ⟨A, n, cp, rfl, hn1, hn2, hn3, hn4, hc⟩ := hu
  obtain ⟨A', n', cp', rfl, hm1, hm2, hm3, hm4, hc'⟩ := hv
  by_cases h : n = n'
  case neg =>
    obtain rfl : r = false := not_true hr (fun e => h (by rw [← hn3, ← hm3, e]))
    have n4 : ((n : Int) != (n' : Int)) = true := cast_ne h
    clear hc hc' hr h
    go_enter Try.func29, Try.ntmps29
    go_wp2
    go_ret
    exact ⟨rfl, Below.refl _ _⟩
  subst h
  have n4 : ((n : Int) != (n : Int)) = false := by simp
  have HR := Lib.hid hr
  have HL := Lib.hid (show L.length = n ∧ M.length = n from ⟨hn3, hm3⟩)
  have HC := Lib.hid hc
  have HC' := Lib.hid hc'
  have HH := Lib.hid (And.intro h1 h2)
  have hnm : (n : Int) ≤ 1048576 := by omega
  clear hc hc' hr hl hl' hn1 hn2 hn3 hn4 hm1 hm2 hm3 hm4 h1 h2
  go_enter Try.func29, Try.ntmps29
  go_wp2
  go_loopw [13] (fun i wr => ∃ k : Nat, k ≤ n ∧ i = .int .i64 k ∧ (∀ j, j < k → L.getD j ByteArray.empty = M.getD j ByteArray.empty) ∧ Below w.heap.size w wr) (fun i _ => n - (intOf i).toNat)
  case atStart => exact ⟨0, by omega, rfl, fun j hj => by omega, Below.refl _ _⟩
  case round =>
    obtain ⟨k, hk, rfl, hal, hb⟩ := hrel
    have HAL := Lib.hid hal
    have HBB := Lib.hid hb
    clear hal hb
    by_cases hlt : k < n
    · have hki : (k : Int) < (n : Int) := by omega
      obtain ⟨pb, po, rfl, hp1, hp2, hpx⟩ := HC.out (by omega)
      obtain ⟨pb', po', rfl, hp1', hp2', hpx'⟩ := HC'.out (by omega)
      have e1 := (HBB.out.cell (p := ⟨pb, po + k, none⟩) (by have := HH.out; show pb < _; omega)).trans (hpx k hlt)
      have e2 := (HBB.out.cell (p := ⟨pb', po' + k, none⟩) (by have := HH.out; show pb' < _; omega)).trans (hpx' k hlt)
      clear hpx hpx' hp1 hp2 hp1' hp2' HC HC' HH
      by_cases he : L.getD k ByteArray.empty = M.getD k ByteArray.empty
      · have hs := str_same (rfl : M.getD k ByteArray.empty = M.getD k ByteArray.empty)
        have HE := Lib.hid he
        rw [he] at e1
        clear he
        generalize hz : M.getD k ByteArray.empty = z at *
        go_wp2_with fail
        go_quiet (fail)
        go_wp2
        go_roundw
        case rel => exact ⟨k + 1, by omega, by go_num, fun j hj => by
          by_cases e : j = k
          · subst e; exact HE.out.trans hz.symm
          · exact HAL.out j (by omega), below_drewN HBB.out _⟩
        case measure => simp [intOf]; omega
      · have hs := str_diff he
        obtain rfl : r = false := not_true HR.out (fun e => he (by rw [e]))
        clear HR he
        generalize L.getD k ByteArray.empty = z at *
        generalize M.getD k ByteArray.empty = z' at *
        go_wp2_with fail
        go_quiet (fail)
        go_wp2
        go_ret
        exact ⟨rfl, below_drewN HBB.out _⟩
    · obtain rfl : k = n := by omega
      have hf : r = true := HR.out.2 (list_same (d := ByteArray.empty) (by have := HL.out; omega) fun i hi => HAL.out i (by have := HL.out; omega))
      subst hf
      clear HR
      go_wp2
      go_ret
      exact ⟨rfl, HBB.out⟩
theorem blk_heads3 (x y : Blk) : x.er ≠ y.er ∨ (x.er = y.er ∧ x.nx ≠ y.nx) ∨ (x.er = y.er ∧ x.nx = y.nx ∧ x.bad ≠ y.bad) ∨ (x.er = y.er ∧ x.nx = y.nx ∧ x.bad = y.bad) := by
  rcases blk_heads x y with h | h | h | ⟨a, b, c, _⟩ | ⟨a, b, c, _⟩
  · exact .inl h
  · exact .inr (.inl h)
  · exact .inr (.inr (.inl h))
  · exact .inr (.inr (.inr ⟨a, b, c⟩))
  · exact .inr (.inr (.inr ⟨a, b, c⟩))
set_option maxHeartbeats 1000000 in
set_option maxRecDepth 100000 in
theorem implSameBlk_any (x y : Blk) (u v : Value) (r : Bool) (w : World) (lo hi lo' hi' : Nat) (hu : PgIn w lo hi u x.pg) (hv : PgIn w lo' hi' v y.pg) (h1 : hi ≤ w.heap.size) (h2 : hi' ≤ w.heap.size) (hr : r = true ↔ x = y) (hl : x.pg.length ≤ 1048576) (hl' : y.pg.length ≤ 1048576) :
    Calls Try.prog 19 #[.agg #[.int .i64 x.er, .int .i64 x.nx, .bool x.bad, u], .agg #[.int .i64 y.er, .int .i64 y.nx, .bool y.bad, v]] w fun e w' => e = .returned (.bool r) ∧ Below w.heap.size w w' := by
  have hH := blk_heads3 x y
  have hq := fun a b c => blk_eq (x := x) (y := y) a b c
  obtain ⟨er, nx, bad, pg⟩ := x
  obtain ⟨er', nx', bad', pg'⟩ := y
  simp only at *
  obtain ⟨A, n, cp, rfl⟩ : ∃ A n cp, u = .slice A n cp := by obtain ⟨A, n, cp, e, _⟩ := hu; exact ⟨A, n, cp, e⟩
  obtain ⟨A', n', cp', rfl⟩ : ∃ A n cp, v = .slice A n cp := by obtain ⟨A, n, cp, e, _⟩ := hv; exact ⟨A, n, cp, e⟩
  obtain ⟨r0, r1, b0⟩ := Rw.two_new w 44 44 #[.int .i64 er, .int .i64 nx, .bool bad, .slice A n cp] #[.int .i64 er', .int .i64 nx', .bool bad', .slice A' n' cp']
  have HB := Lib.hid b0
  clear b0 r0 r1
  rcases hH with h | ⟨rfl, h⟩ | ⟨rfl, rfl, h⟩ | ⟨rfl, rfl, rfl⟩
  · obtain rfl : r = false := not_true hr (fun e => by injection e; contradiction)
    have n1 : (er == er') = false := by simpa using h
    clear hu hv hr hq h
    go_enter Try.func19, Try.ntmps19
    go_wp2
    go_ret
    exact ⟨rfl, HB.out⟩
  · obtain rfl : r = false := not_true hr (fun e => by injection e; contradiction)
    have n1 : (er == er) = true := by simp
    have n2 : (nx == nx') = false := by simpa using h
    clear hu hv hr hq h
    go_enter Try.func19, Try.ntmps19
    go_wp2
    go_ret
    exact ⟨rfl, HB.out⟩
  · obtain rfl : r = false := not_true hr (fun e => by injection e; contradiction)
    have n1 : (er == er) = true := by simp
    have n2 : (nx == nx) = true := by simp
    clear hu hv hr hq
    cases bad <;> cases bad'
    · exact absurd rfl h
    · clear h
      go_enter Try.func19, Try.ntmps19
      go_wp2
      go_ret
      exact ⟨rfl, HB.out⟩
    · clear h
      go_enter Try.func19, Try.ntmps19
      go_wp2
      go_ret
      exact ⟨rfl, HB.out⟩
    · exact absurd rfl h
  · rw [hq rfl rfl rfl] at hr
    have n1 : (er == er) = true := by simp
    have n2 : (nx == nx) = true := by simp
    have n3 : (bad == bad) = true := by simp
    have HS := Lib.hid (fun (W : World) (a : PgIn W lo hi (.slice A n cp) pg) (b : PgIn W lo' hi' (.slice A' n' cp') pg') (c : hi ≤ W.heap.size) (d : hi' ≤ W.heap.size) => slEq_any _ _ pg pg' r W lo hi lo' hi' a b c d hr hl hl')
    have HU := Lib.hid (hu.same (sm HB.out lo h1))
    have HV := Lib.hid (hv.same (sm HB.out lo' h2))
    clear hu hv hr hq
    go_enter Try.func19, Try.ntmps19
    go_wp2_with fail
    refine (HS.out _ HU.out HV.out (by simp; omega) (by simp; omega)).mono ?_
    rintro e w1 ⟨rfl, b1⟩
    have B1 := HB.out.trans (b1.mono (by simp; omega))
    clear b1
    go_wp2
    go_ret
    exact ⟨rfl, B1⟩
end Go.Proofs.Ytfnhnekemjnliab
