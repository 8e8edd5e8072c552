/- The proof's own lemmas, part 26: DrCe. -/
import Derived.Test.YtgamoiagpglcmaaProg
import Derived.Test.YtgamoiagpglcmaaMg2
import Derived.Test.YtgamoiagpglcmaaMg5
import Derived.Test.YtgamoiagpglcmaaMg14
import Derived.Test.YtgamoiagpglcmaaMg24
import Derived.Deep.RegionHeld3
import Derived.Deep.RegionLaw
/- The model's draw of cells for the laws. -/
namespace Go.Proofs.Ytgamoiagpglcmaa
open Go.RowKit
set_option linter.unusedVariables false
set_option linter.unusedSimpArgs false
/-- What a draw of cells leaves. -/
def DrawCeP (w : World) (B g : Nat) (e : Ending) (w' : World) : Prop := ∃ (v : Value) (M : Ce), e = .returned v ∧ CeOwn w' w.heap.size w'.heap.size v M ∧ M.c.length ≤ 66 ∧ w.grownBy w' (some g) ∧ Src w' B g 1000
theorem grown_self (w : World) (row : Option Nat) : w.grownBy w row := ⟨rfl, rfl, rfl, Nat.le_refl _, fun _ _ _ => rfl⟩
theorem grown_any {w w' : World} {g : Nat} (h : w.grownBy w' (some g)) {k : Nat} (hk : k < w.heap.size) (hne : k ≠ g) : w'.heap[k]? = w.heap[k]? := h.block k hk (fun e => hne (Option.some.inj e))
/-- What a cell holds, by the world alone. -/
def cellAt (W : World) (a : Addr) : Value := (W.cell? a).getD (.slice none 0 0)
theorem cellAt_some {W : World} {a : Addr} {v : Value} (h : W.cell? a = some v) : W.cell? a = some (cellAt W a) := by unfold cellAt; rw [h]; rfl
theorem cellAt_eq {W : World} {a : Addr} {v : Value} (h : W.cell? a = some v) : cellAt W a = v := by unfold cellAt; rw [h]; rfl
/-- A world in the midst of a draw. -/
def DC (w W : World) (g B : Nat) (A : Option Addr) (m c : Nat) (L : List Int) (k : Nat) : Prop :=
  Rw W w.heap.size 42 #[.slice none 0 0] ∧ Rw W (w.heap.size + 1) 42 #[.slice A m c] ∧ IntsOwn W (w.heap.size + 2) (.slice A m c) L ∧ Src W B g k ∧ w.grownBy W (some g) ∧ w.heap.size + 2 ≤ W.heap.size
section
variable {w W W' : World} {g B m c k k' m' c' : Nat} {A A' : Option Addr} {L L' : List Int}
theorem DC.later (D : DC w W g B A m c L k) (hb : Below W.heap.size W W') : DC w W' g B A m c L k := by
  obtain ⟨h0, h1, h2, h3, h4, h5⟩ := D
  exact ⟨h0.below hb h0.lt, h1.below hb h1.lt, h2.later hb (Nat.le_refl _), h3.keep hb, grown_below h4 (hb.mono h4.size), Nat.le_trans h5 hb.size⟩
theorem DC.alloc (D : DC w W g B A m c L k) (o : Obj) : DC w (W.alloc o) g B A m c L k := D.later ((Below.refl _ W).alloc (Nat.le_refl _) o)
theorem DC.drew (D : DC w W g B A m c L k) : DC w W.drew g B A m c L k := D.later (Below.refl _ W).drew
theorem DC.call (D : DC w W g B A m c L k) (hg0 : g < w.heap.size) (hs : Src W' B g k') (hg : W.grownBy W' (some g)) : DC w W' g B A m c L k' := by
  obtain ⟨h0, h1, h2, h3, h4, h5⟩ := D
  exact ⟨h0.grown hg (by omega), h1.grown hg (by omega), h2.sames fun j e => grown_any hg (h2.blockOf e).2 (by have := (h2.blockOf e).1; omega), hs, grown_trans h4 hg, Nat.le_trans h5 hg.size⟩
theorem DC.app (D : DC w W g B A m c L k) (hg0 : g < w.heap.size) (hb : Below (w.heap.size + 2) W W') (ho : IntsOwn W' (w.heap.size + 2) (.slice A' m' c') L') : DC w (W'.setCell ⟨w.heap.size + 1, 0, none⟩ (.slice A' m' c')) g B A' m' c' L' k := by
  obtain ⟨h0, h1, h2, h3, h4, h5⟩ := D
  refine ⟨(h0.below hb (by omega)).farA (by omega) _, (h1.below hb (by omega)).set_ 0 _, ho.sames fun q e => Below.heap_setCell W' ⟨w.heap.size + 1, 0, none⟩ _ q (by have := (ho.blockOf e).1; show q ≠ w.heap.size + 1; omega), (h3.keepB hb (by omega)).keepB (bset (Below.refl (w.heap.size + 1) _) (Nat.le_refl _) _) (by omega), grown_below (grown_below h4 (hb.mono (by omega))) (bset (Below.refl _ _) (by omega) _), ?_⟩
  have := hb.size
  simp; omega
theorem DC.cell (D : DC w W g B A m c L k) : W.cell? ⟨w.heap.size + 1, 0, none⟩ = some (.slice A m c) := D.2.1.one
theorem DC.src (D : DC w W g B A m c L k) : Src W B g k := D.2.2.2.1
theorem DC.more (D : DC w W g B A m c L k) (h : k ≤ k') : DC w W g B A m c L k' := ⟨D.1, D.2.1, D.2.2.1, D.2.2.2.1.more h, D.2.2.2.2⟩
theorem DC.fin (D : DC w W g B A m c L k) (hl : L.length ≤ 66) (hg0 : g < w.heap.size) (hk : k ≤ 1000) : DrawCeP w B g (.returned (.agg #[.slice A m c])) (W.setCell ⟨w.heap.size, 0, none⟩ (.slice A m c)) := by
  obtain ⟨h0, h1, h2, h3, h4, h5⟩ := D
  refine ⟨_, ⟨L⟩, rfl, ⟨_, rfl, ⟨(h2.sames fun q e => Below.heap_setCell W ⟨w.heap.size, 0, none⟩ _ q (by have := (h2.blockOf e).1; show q ≠ w.heap.size; omega)).low (by omega), fun q e => ?_⟩⟩, hl, grown_below h4 (bset (Below.refl _ _) (Nat.le_refl _) _), (h3.keepB (bset (Below.refl w.heap.size _) (Nat.le_refl _) _) hg0).more hk⟩
  have := (h2.blockOf e).2; simpa using this
end
set_option maxHeartbeats 8000000 in
set_option maxRecDepth 100000 in
theorem drawCe_any (B g : Nat) (w : World) (h : Src w B g 0) : Calls Try.prog 89 #[.pointer (some ⟨g, 0, none⟩)] w (DrawCeP w B g) := by
  have hg0 := h.lt
  obtain ⟨W0, hW0⟩ : ∃ W0, W0 = (w.alloc (.cells #[.slice none 0 0] 42)).alloc (.cells #[.slice none 0 0] 42) := ⟨_, rfl⟩
  have D0 : Hid (DC w W0 g B none 0 0 [] 0) := by
    show DC w W0 g B none 0 0 [] 0
    obtain ⟨r0, r1, bb⟩ := Rw.two_new w 42 42 #[.slice none 0 0] #[.slice none 0 0]
    rw [← hW0] at r0 r1 bb
    exact ⟨r0, r1, World.ownsRow_nil W0 _ _ 1, h.keep bb, grown_below (grown_self w (some g)) bb, by rw [hW0]; simp⟩
  have P9 : Hid (pickMax 10 = 9) := by show _ = _; decide
  have P2 : Hid (pickMax 2 = 1) := by show _ = _; decide
  have hN : Hid ((0 : Nat) = 0) := rfl
  clear h
  go_enter Try.func89, Try.ntmps89
  go_wp2_with fail
  rw [← hW0]
  clear hW0
  refine (one_any B g _ 4 _ D0.out.src (by omega) (by omega) (by omega)).mono ?_
  rintro e w1 ⟨vv, rfl, ⟨same, rfl⟩, hs, hg⟩
  have D1 := Lib.hid (D0.out.call hg0 hs hg)
  clear hs hg D0
  go_wp2_with fail
  refine (pick_any B g _ 10 _ D1.out.src (by omega) (by omega) (by omega)).mono ?_
  rintro e w2 ⟨vv, rfl, ⟨k0, rfl, hk0, hk1⟩, hs, hg⟩
  rw [P9.out] at hk1
  have D2 := Lib.hid ((D1.out.call hg0 hs hg).more (k' := 20 + 10 * (0 : Nat)) (by omega))
  clear hs hg D1
  go_wp2_with fail
  go_loopw [5, 6] (fun kk nn wr => ∃ (k : Nat) (L : List Int) (A : Option Addr) (m c : Nat), kk = .int .i64 (k : Int) ∧ L.length + k ≤ 9 ∧ Hid (DC w wr g B A m c L (20 + 10 * L.length))) (fun kk _ _ => (intOf kk).toNat)
  case atStart => exact ⟨k0.toNat, [], none, 0, 0, by rw [Int.toNat_of_nonneg hk0], by simp; omega, D2⟩
  case round =>
    clear D2
    obtain ⟨k, L, A, m, c, rfl, hkl, D4⟩ := hrel
    by_cases hk : 0 < k
    · have d0 : decide ((0 : Int) < (k : Int)) = true := by simp; omega
      have d0' : decide ((k : Int) > 0) = true := by simp; omega
      have hwk : IntKind.i64.wrap ((k : Int) - 1) = ((k - 1 : Nat) : Int) := by rw [IntWalk.i64_in _ (by omega)]; omega
      have hL9 : L.length ≤ 9 := by omega
      go_wp2_with fail
      refine (pick_any B g _ 256 _ D4.out.src (by omega) (by omega) (by omega)).mono ?_
      rintro e w5 ⟨vv, rfl, ⟨x, rfl, _, _⟩, hs, hg⟩
      have D5 := Lib.hid (D4.out.call hg0 hs hg)
      clear hs hg D4
      go_wp2_with fail
      have NA := Lib.hid (Rw.new w5 2 #[.int .i64 0, .int .i64 255, .int .i64 127, .int .i64 128, .int .i64 63, .int .i64 x])
      have D6 := Lib.hid (D5.out.alloc (.cells #[.int .i64 0, .int .i64 255, .int .i64 127, .int .i64 128, .int .i64 63, .int .i64 x] 2))
      have hg5 := D5.out.src.lt
      refine (among_any (fun _ => True) B g _ w5.heap.size 6 6 _ D6.out.src (by omega) (by omega) (by omega) (by omega) ?_).mono ?_
      · intro i hi
        rw [NA.out.cell]
        rcases i with _ | _ | _ | _ | _ | _ | i <;> first | exact ⟨_, rfl, trivial⟩ | omega
      rintro e w7 ⟨vv, rfl, ⟨y, rfl, _⟩, hs, hg⟩
      have D7 := Lib.hid (D6.out.call hg0 hs hg)
      clear hs hg D5 D6 NA hg5
      have q1 := D7.out.cell
      have hown := D7.out.2.2.1
      have hb := Below.refl (w.heap.size + 2) w7
      have hz := D7.out.2.2.2.2.2
      have hlL : L.length ≤ 1048576 := by omega
      rcases same with _ | _
      all_goals
        go_wp2_with (at_builtin; refine wpList_append_intH rfl _ _ rfl _ _ rfl hown hb hz _ _ rfl (by omega) ?_; intro v' w8 ho2 hb2; obtain ⟨A2, n2, c2, rfl⟩ := ho2.sliceOf'; have q3 := (D7.out.2.1.below hb2 (by omega)).one; have f3 := (D7.out.2.1.below hb2 (by omega)).free 0; clear hown hb q1)
        have D8 := Lib.hid (D7.out.app hg0 hb2 ho2)
        go_roundw
        case rel => exact ⟨k - 1, _, A2, n2, c2, by go_num, by simp; omega, Lib.hid (D8.out.more (by simp; omega))⟩
        case measure => simp [intOf]; omega
    · obtain rfl : k = 0 := by omega
      have hL9 : L.length ≤ 9 := by omega
      go_wp2_with fail
      refine (one_any B g _ 12 _ D4.out.src (by omega) (by omega) (by omega)).mono ?_
      rintro e w5 ⟨vv, rfl, ⟨b12, rfl⟩, hs, hg⟩
      have D5 := Lib.hid (D4.out.call hg0 hs hg)
      clear hs hg D4
      have hlA : L.length ≤ 66 := by omega
      have hlZ : L.length ≤ 9 := by omega
      rcases b12 with _ | _
      · skip
        go_wp2_with fail
        refine (one_any B g _ 30 _ D5.out.src (by omega) (by omega) (by omega)).mono ?_
        rintro e w10 ⟨vv, rfl, ⟨b30, rfl⟩, hs, hg⟩
        have E0 := Lib.hid (D5.out.call hg0 hs hg)
        clear hs hg D5
        rcases b30 with _ | _
        · have q1 := E0.out.cell
          have q0 := E0.out.1.one
          have f0 := E0.out.1.free 0
          have HF := Lib.hid (E0.out.fin (by omega) hg0 (by omega))
          go_wp2
          refine bodyPost_ret (results_cell_row Try.results89 _ _ _ _ #[.slice _ _ _] _ _ rfl (E0.out.1.set_ 0 _) Try.underlying42 rfl infoCe) rfl ?_
          exact HF.out
        · go_wp2_with fail
          refine (pick_any B g _ 2 _ E0.out.src (by omega) (by omega) (by omega)).mono ?_
          rintro e w11 ⟨vv, rfl, ⟨x, rfl, hx0, hx1⟩, hs, hg⟩
          rw [P2.out] at hx1
          have E1 := Lib.hid (E0.out.call hg0 hs hg)
          clear hs hg E0
          obtain ⟨n, rfl⟩ : ∃ n : Nat, x = (n : Int) := ⟨x.toNat, by omega⟩
          have hwx : IntKind.i64.wrap (64 + (n : Int)) = ((64 + n : Nat) : Int) := by rw [IntWalk.i64_in _ (by omega)]; omega
          have hn2 : n ≤ 1 := by omega
          have hz := E1.out.2.2.2.2.2
          have hb := Below.refl (w.heap.size + 2) w11
          go_wp2_with (refine wpList_make_ints rfl _ _ rfl (64 + n) rfl rfl (by omega) hb hz ?_; intro w12 hown hb2; have q3 := (E1.out.2.1.below hb2 (by omega)).one; have f3 := (E1.out.2.1.below hb2 (by omega)).free 0; have E2 := Lib.hid (E1.out.app hg0 hb2 hown); have q4 := E2.out.1.one; have q5 := E2.out.cell; have f4 := E2.out.1.free 0; clear hb hown)
          refine bodyPost_ret (results_cell_row Try.results89 _ _ _ _ #[.slice _ _ _] _ _ rfl (E2.out.1.set_ 0 _) Try.underlying42 rfl infoCe) rfl ?_
          exact E2.out.fin (by simp; omega) hg0 (by omega)
      · have q1 := D5.out.cell
        have NA := Lib.hid (Rw.new w5 2 #[.int .i64 (-1), .int .i64 256, .int .i64 1099511627776])
        have DX := Lib.hid (D5.out.alloc (.cells #[.int .i64 (-1), .int .i64 256, .int .i64 1099511627776] 2)).drew
        have hg5 := D5.out.src.lt
        have kA := D5.out.drew.cell
        have kC : ∀ o, (w5.alloc o).cell? ⟨w.heap.size + 1, 0, none⟩ = some (.slice A m c) := fun o => (D5.out.alloc o).cell
        have kB := DX.out.cell
        have eA := cellAt_eq kA
        have eB := cellAt_eq kB
        have HAM := Lib.hid (among_any (fun _ => True) B g _ w5.heap.size 3 3 _ DX.out.src (by omega) (by omega) (by omega) (by omega) (by
          intro i hi
          have e : (w5.alloc (.cells #[.int .i64 (-1), .int .i64 256, .int .i64 1099511627776] 2)).drew.cell? ⟨w5.heap.size, i, none⟩ = _ := NA.out.cell i
          rw [e]
          rcases i with _ | _ | _ | i <;> first | exact ⟨_, rfl, trivial⟩ | omega))
        clear NA
        go_upto_region 11 with fail
        go_cut [] (fun wx => ∃ (A2 : Option Addr) (m2 c2 : Nat) (L2 : List Int), Hid (DC w wx g B A2 m2 c2 L2 (20 + 10 * L.length + 2 + 2)) ∧ L2.length ≤ 10)
        case first =>
          go_region_law
            (first
              | (go_simp
                 go_at_call 99
                 with_reducible refine HAM.out.mono ?_
                 rintro e w6 ⟨vv, rfl, ⟨y, rfl, _⟩, hs, hg⟩
                 have D6 := Lib.hid (DX.out.call hg0 hs hg)
                 have k6 := D6.out.cell
                 have k7 := fun o => (D6.out.alloc o).cell
                 have e6 := cellAt_eq k6
                 have e7 := fun o => cellAt_eq (k7 o)
                 have O6 := Lib.hid (D6.out.alloc (.cells #[.int .i64 y] 2))
                 clear hs hg)
              | (refine step_append_intL rfl (.tmp 31) (.tmp 35) rfl (.slice A m c) L (by first | (simp [Act.eval, eA]; done) | (simp [Act.eval, eB]; done) | (simp [Act.eval, e6]; done) | (simp [Act.eval, e7]; done)) O6.out.2.2.1 (Below.refl _ _) O6.out.2.2.2.2.2 w6.heap.size 0 1 1 [y] (by simp [Act.eval]) rfl (oneCell w6 y _) (by omega) ?_
                 intro v' w7 ho2 hb2 _
                 obtain ⟨A2, n2, c2, rfl⟩ := ho2.sliceOf'
                 have q3 := (O6.out.2.1.below hb2 (by have := O6.out.2.2.2.2.2; omega)).one
                 have f3 := (O6.out.2.1.below hb2 (by have := O6.out.2.2.2.2.2; omega)).free 0
                 have D8 := Lib.hid (O6.out.app hg0 hb2 ho2)
                 have k8 := D8.out.cell
                 clear ho2 hb2))
          all_goals
            go_wp2
            go_meet
            case rel => exact ⟨A2, n2, c2, _, D8, by simp; omega⟩
        case rest =>
          obtain ⟨A2, m2, c2, L2, D9, hl2⟩ := hcut
          clear HAM DX eA eB kA kB hg5 q1 D5
          have hlB : L2.length ≤ 66 := by omega
          go_wp2_with fail
          refine (one_any B g _ 30 _ D9.out.src (by omega) (by omega) (by omega)).mono ?_
          rintro e w10 ⟨vv, rfl, ⟨b30, rfl⟩, hs, hg⟩
          have E0 := Lib.hid (D9.out.call hg0 hs hg)
          clear hs hg D9
          rcases b30 with _ | _
          · have q1 := E0.out.cell
            have q0 := E0.out.1.one
            have f0 := E0.out.1.free 0
            have HF := Lib.hid (E0.out.fin (by omega) hg0 (by omega))
            go_wp2
            refine bodyPost_ret (results_cell_row Try.results89 _ _ _ _ #[.slice _ _ _] _ _ rfl (E0.out.1.set_ 0 _) Try.underlying42 rfl infoCe) rfl ?_
            exact HF.out
          · go_wp2_with fail
            refine (pick_any B g _ 2 _ E0.out.src (by omega) (by omega) (by omega)).mono ?_
            rintro e w11 ⟨vv, rfl, ⟨x, rfl, hx0, hx1⟩, hs, hg⟩
            rw [P2.out] at hx1
            have E1 := Lib.hid (E0.out.call hg0 hs hg)
            clear hs hg E0
            obtain ⟨n, rfl⟩ : ∃ n : Nat, x = (n : Int) := ⟨x.toNat, by omega⟩
            have hwx : IntKind.i64.wrap (64 + (n : Int)) = ((64 + n : Nat) : Int) := by rw [IntWalk.i64_in _ (by omega)]; omega
            have hn2 : n ≤ 1 := by omega
            have hz := E1.out.2.2.2.2.2
            have hb := Below.refl (w.heap.size + 2) w11
            go_wp2_with (refine wpList_make_ints rfl _ _ rfl (64 + n) rfl rfl (by omega) hb hz ?_; intro w12 hown hb2; have q3 := (E1.out.2.1.below hb2 (by omega)).one; have f3 := (E1.out.2.1.below hb2 (by omega)).free 0; have E2 := Lib.hid (E1.out.app hg0 hb2 hown); have q4 := E2.out.1.one; have q5 := E2.out.cell; have f4 := E2.out.1.free 0; clear hb hown)
            refine bodyPost_ret (results_cell_row Try.results89 _ _ _ _ #[.slice _ _ _] _ _ rfl (E2.out.1.set_ 0 _) Try.underlying42 rfl infoCe) rfl ?_
            exact E2.out.fin (by simp; omega) hg0 (by omega)
end Go.Proofs.Ytgamoiagpglcmaa
