/- NewHeat, in the program and in the model: the contracts. -/
import Derived.Test.YtgkanacaijlljaaProg
import Derived.Test.YtgkanacaijlljaaHtI
import Derived.Test.YtgkanacaijlljaaHtS
import Derived.Laws.MakeOwn
namespace Go.Proofs.Ytgkanacaijlljaa
open Go.RowKit
set_option linter.unusedVariables false
set_option linter.unusedSimpArgs false
def HtPost (M : Ht) (c : Int) (w : World) (e : Ending) (w' : World) : Prop := ∃ u, e = .returned (.tuple #[u, .int .i64 c]) ∧ HtOwn w' w.heap.size w'.heap.size u M ∧ Below w.heap.size w w'
def HtPost1 (M : Ht) (w : World) (e : Ending) (w' : World) : Prop := ∃ u, e = .returned u ∧ HtOwn w' w.heap.size w'.heap.size u M ∧ Below w.heap.size w w'
theorem specNew13_any (n : Nat) (w : World) (hn : n ≤ 48) : Calls Try.prog 65 #[.int .i64 (n : Int)] w (HtPost1 ⟨List.replicate n 0, 0⟩ w) := by
  have r0 := Rw.new w 27 #[.slice none 0 0, .int .i64 0]
  have b0 := (Below.refl w.heap.size w).alloc (Nat.le_refl _) (.cells #[.slice none 0 0, .int .i64 0] 27)
  have R0 := Lib.hid r0
  have B0 := Lib.hid b0
  clear r0 b0
  go_enter Try.func65, Try.ntmps65
  go_wp2_with (refine wpList_make_ints rfl _ _ rfl n rfl rfl (by omega) (Below.refl _ _) (Nat.le_refl _) ?_; intro w1 hown hb; have k0 := R0.out.below hb (by simp); obtain ⟨c0, c1⟩ := k0.two; obtain ⟨f0, f1, _, _, _, _, _, _⟩ := k0.frees; have K0 := Lib.hid k0; have HO := Lib.hid hown; have HB := Lib.hid (B0.out.trans (hb.mono (by simp))); clear k0 hown hb)
  refine bodyPost_ret (results_cell_row Try.results65 _ _ _ _ _ _ _ rfl ((K0.out.set_ 0 _).set_ 1 _) Try.underlying27 rfl infoHt) rfl ?_
  have ho := HO.out
  simp only [World.size_alloc] at ho
  refine ⟨_, rfl, ⟨_, rfl, ⟨(ho.sames fun k e => ?_).low (by omega), fun k e => ?_⟩⟩, ?_⟩
  · have := (ho.blockOf e).1
    repeat rw [Below.heap_setCell _ ⟨_, _, none⟩ _ k (by simp; omega)]
  · have := (ho.blockOf e).2; simp; omega
  · repeat refine bset ?_ (Nat.le_refl _) _
    exact HB.out
theorem specNewHt_any (l : Int) (G : Ht) (c : Int) (w : World) (hm : NewHtIs l G c) : Calls Try.prog 22 #[.int .i64 l] w (HtPost G c w) := by
  have r0 := Rw.new w 27 #[.slice none 0 0, .int .i64 0]
  have b0 := (Below.refl w.heap.size w).alloc (Nat.le_refl _) (.cells #[.slice none 0 0, .int .i64 0] 27)
  have hz0 : (w.alloc (.cells #[.slice none 0 0, .int .i64 0] 27)).heap.size = w.heap.size + 1 := by simp
  obtain ⟨c0, c1⟩ := r0.two
  obtain ⟨f0, f1, _, _, _, _, _, _⟩ := r0.frees
  have R0 := Lib.hid r0
  have B0 := Lib.hid b0
  clear r0 b0
  rcases hm with ⟨hs, rfl, rfl⟩ | ⟨hs, rfl, rfl⟩
  case inr =>
    have HI := Lib.hid (fun (W : World) => inr_no l 1 48 W hs)
    clear hs
    go_enter Try.func22, Try.ntmps22
    go_wp2_with fail
    refine (HI.out _).mono ?_
    rintro e w1 ⟨rfl, rfl⟩
    go_wp2
    exact bodyPost_ret (results_row_tmp Try.results22 _ _ _ _ _ _ _ rfl R0.out Try.underlying27 rfl infoHt) rfl ⟨_, rfl, HtOwn.zero _ _ _, B0.out⟩
  obtain ⟨n, rfl⟩ : ∃ n : Nat, l = n := ⟨l.toNat, by omega⟩
  have hn : n ≤ 48 := by omega
  have HI := Lib.hid (fun (W : World) => inr_yes (n : Int) 1 48 W hs.1 hs.2)
  have HN := Lib.hid (fun (W : World) => specNew13_any n W hn)
  clear hs
  unfold newHt
  rw [Int.toNat_natCast]
  go_enter Try.func22, Try.ntmps22
  go_wp2_with fail
  refine (HI.out _).mono ?_
  rintro e w1 ⟨rfl, rfl⟩
  go_wp2_with fail
  refine (HN.out _).mono ?_
  rintro e w2 ⟨u, rfl, ⟨x, rfl, hi⟩, b2⟩
  rw [hz0] at b2 hi
  have hx := hi.1
  obtain ⟨A, na, ca, rfl⟩ := hx.sliceOfH
  have S0 := Lib.hid (R0.out.below b2 (by omega))
  have B2 := Lib.hid (B0.out.trans (b2.mono (by omega)))
  have HX := Lib.hid hx
  clear c0 c1 f0 f1
  obtain ⟨c0, c1⟩ := S0.out.two
  obtain ⟨f0, f1, _, _, _, _, _, _⟩ := S0.out.frees
  clear hx hi b2 hn
  unfold htc
  go_wp2
  refine bodyPost_ret (results_row_tmp Try.results22 _ _ _ _ _ _ _ rfl ((S0.out.set_ 0 _).set_ 1 _) Try.underlying27 rfl infoHt) rfl ?_
  refine ⟨_, rfl, ⟨_, rfl, ⟨(HX.out.sames fun k e => ?_).low (by omega), fun k e => ?_⟩⟩, ?_⟩
  · have := (HX.out.blockOf e).1
    repeat rw [Below.heap_setCell _ ⟨_, _, none⟩ _ k (by simp; omega)]
  · have := (HX.out.blockOf e).2; simp; omega
  · repeat refine bset ?_ (Nat.le_refl _) _
    exact B2.out
theorem implNewHt_any (l : Int) (G : Ht) (c : Int) (w : World) (hm : NewHtIs l G c) : Calls Try.prog 23 #[.int .i64 l] w (HtPost G c w) := by
  obtain ⟨r, hr⟩ := prop_dec' (1 ≤ l ∧ l ≤ 48)
  have HV := Lib.hid (fun (W : World) => validLogical_any l r W hr)
  have r0 := Rw.new w 27 #[.slice none 0 0, .int .i64 0]
  have b0 := (Below.refl w.heap.size w).alloc (Nat.le_refl _) (.cells #[.slice none 0 0, .int .i64 0] 27)
  have hz0 : (w.alloc (.cells #[.slice none 0 0, .int .i64 0] 27)).heap.size = w.heap.size + 1 := by simp
  have R0 := Lib.hid r0
  have B0 := Lib.hid b0
  rcases hm with ⟨hs, rfl, rfl⟩ | ⟨hs, rfl, rfl⟩
  case inr =>
    obtain rfl : r = false := not_true hr hs
    obtain ⟨c0, c1⟩ := r0.two
    obtain ⟨f0, f1, _, _, _, _, _, _⟩ := r0.frees
    clear r0 b0 hs hr
    go_enter Try.func23, Try.ntmps23
    go_wp2_with fail
    refine (HV.out _).mono ?_
    rintro e w1 ⟨rfl, rfl⟩
    go_wp2
    exact bodyPost_ret (results_row_tmp Try.results23 _ _ _ _ _ _ _ rfl R0.out Try.underlying27 rfl infoHt) rfl ⟨_, rfl, HtOwn.zero _ _ _, B0.out⟩
  obtain rfl : r = true := hr.2 hs
  obtain ⟨n, rfl⟩ : ∃ n : Nat, l = n := ⟨l.toNat, by omega⟩
  have hn : n ≤ 48 := by omega
  clear r0 b0 hs hr
  unfold newHt
  rw [Int.toNat_natCast]
  go_enter Try.func23, Try.ntmps23
  go_wp2_with fail
  refine (HV.out _).mono ?_
  rintro e w1 ⟨rfl, rfl⟩
  go_wp2_with (refine wpList_make_ints rfl _ _ rfl n rfl rfl (by omega) (Below.refl _ _) (Nat.le_refl _) ?_; intro w1 hown hb; have k0 := R0.out.below hb (by simp); obtain ⟨c0, c1⟩ := k0.two; obtain ⟨f0, f1, _, _, _, _, _, _⟩ := k0.frees; have K0 := Lib.hid k0; have HO := Lib.hid hown; have HB := Lib.hid (B0.out.trans (hb.mono (by simp))); clear k0 hown hb)
  refine bodyPost_ret (results_row_tmp Try.results23 _ _ _ _ _ _ _ rfl ((K0.out.set_ 0 _).set_ 1 _) Try.underlying27 rfl infoHt) rfl ?_
  have ho := HO.out
  simp only [World.size_alloc] at ho
  refine ⟨_, rfl, ⟨_, rfl, ⟨(ho.sames fun k e => ?_).low (by omega), fun k e => ?_⟩⟩, ?_⟩
  · have := (ho.blockOf e).1
    repeat rw [Below.heap_setCell _ ⟨_, _, none⟩ _ k (by simp; omega)]
  · have := (ho.blockOf e).2; simp; omega
  · repeat refine bset ?_ (Nat.le_refl _) _
    exact HB.out
end Go.Proofs.Ytgkanacaijlljaa
