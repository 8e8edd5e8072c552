/- The proof's own lemmas, part 15: WeO PmK IntsK. -/
import Derived.Test.YtgamoiagpglcmaaProg
import Derived.Test.YtgamoiagpglcmaaMg3
import Derived.Test.YtgamoiagpglcmaaMg10
import Derived.Test.YtgamoiagpglcmaaMg12
import Derived.Test.YtgamoiagpglcmaaMg13
import Derived.Deep.Grids
import Derived.Test.YtgamoiagpglcmaaMg4
import Derived.Test.YtgamoiagpglcmaaMg11
/- Wear that comes in as an argument of a law, opened: what is known of it. -/
namespace Go.Proofs.Ytgamoiagpglcmaa
open Go.RowKit Go.ChangeShapes Go.WideShapes
set_option linter.unusedVariables false
def WeW (M : We) : Prop := WfI M.n ∧ WfL M.e ∧ WfL M.c
section
variable {H : Type} {enc : TypeId × Value → H} {W : World} {sp : Nat → Bool} {held : Bool}
theorem cellsLWe : Try.prog.cellsOf 25 = 4 := by kernel_rfl
theorem cellsWeb : Try.prog.cellsOf 23 = 1 := by kernel_rfl
theorem cellsWei : Try.prog.cellsOf 2 = 1 := by kernel_rfl
theorem cellsWel : Try.prog.cellsOf 22 = 1 := by kernel_rfl
theorem listWe {α : Type} {l : List α} (h : l.length = 4) : ∃ x0 x1 x2 x3, l = [x0, x1, x2, x3] := by
  match l, h with
  | [x0, x1, x2, x3], _ => exact ⟨x0, x1, x2, x3, rfl⟩
theorem open_we {fuel : Nat} {cs : List Value} {x : DataW H × List MemPlace} (h : DataW.trod enc Try.prog W 0 sp held fuel 25 cs = some x) : ∃ M : We, WeIn W W.heap.size (.agg cs.toArray) M ∧ WeW M := by
  obtain ⟨hl, hf⟩ := field_of Try.underlying25 h
  rw [cellsLWe] at hl
  obtain ⟨v0, v1, v2, v3, rfl⟩ := listWe hl
  obtain ⟨n0, y0, h0⟩ := hf 0 _ rfl
  obtain ⟨n1, y1, h1⟩ := hf 1 _ rfl
  obtain ⟨n2, y2, h2⟩ := hf 2 _ rfl
  obtain ⟨n3, y3, h3⟩ := hf 3 _ rfl
  simp [cellsWeb, cellsWei, cellsWel] at h0 h1 h2 h3
  obtain ⟨i0, hL0, w0⟩ := open_ints1 h0
  obtain ⟨i1, hL1⟩ := open_bools1 h1
  obtain ⟨i2, hL2, w2⟩ := open_ints1 h2
  obtain ⟨i3, rfl, w3⟩ := open_int1 h3
  exact ⟨⟨i0, i1, i2, i3⟩, ⟨v0, v1, v2, rfl, hL0, hL1, hL2⟩, w3, w0, w2⟩
end
end Go.Proofs.Ytgamoiagpglcmaa
/- The laws' helpers markPageMap and heldPageMap: their contracts. -/
namespace Go.Proofs.Ytgamoiagpglcmaa
open Go.RowKit
set_option linter.unusedVariables false
/-- Only blocks from lo up to hi may have turned, and new ones may stand. -/
def Kp (lo hi : Nat) (w w' : World) : Prop := Below lo w w' ∧ Same hi w.heap.size w w'
theorem Kp.size {lo hi : Nat} {w w' : World} (h : Kp lo hi w w') : w.heap.size ≤ w'.heap.size := h.1.size
theorem Kp.call {lo hi : Nat} {w w' w'' : World} (h : Kp lo hi w w') (hb : Below w'.heap.size w' w'') (hl : lo ≤ w.heap.size) : Kp lo hi w w'' :=
  ⟨h.1.trans (hb.mono (by have := h.1.size; omega)), h.2.trans (sm hb hi h.1.size)⟩
theorem Kp.grown {lo hi : Nat} {w w' w'' : World} {row : Option Nat} (h : Kp lo hi w w') (hg : w'.grownBy w'' row) (hb : Below lo w' w'') (hr : ∀ k, row = some k → lo ≤ k ∧ k < hi) : Kp lo hi w w'' :=
  ⟨h.1.trans hb, fun j h1 h2 => (hg.block j (Nat.lt_of_lt_of_le h2 h.1.size) (fun e => by have := (hr j e.symm).2; omega)).trans (h.2 j h1 h2)⟩
def markM (M : Pm) : Pm := ⟨M.b, M.p, mkL 1 M.mp.length, mkB (1 + M.mp.length) M.tr.length⟩
theorem markM_sz {M : Pm} (h : PmSz M) : PmSz (markM M) := by unfold PmSz markM; rw [mkL_length, mkB_length]; exact h
theorem grownRw {w w' : World} {g : Nat} {t : TypeId} {cs : Array Value} {row : Option Nat} (h : Rw w g t cs) (hg : w.grownBy w' row) (hne : some g ≠ row) : Rw w' g t cs := (hg.block g h.lt hne).trans h
theorem own_ne {a b : Option Nat} (h : a = none ∨ a ≠ b) : b = none ∨ b ≠ a := by
  cases b with
  | none => exact .inl rfl
  | some x => rcases h with rfl | h; exact .inr (by simp); exact .inr (fun e => h e.symm)
theorem heldIntsB_any (v : Value) (n : Nat) (w : World) (h : IntsIn w v (mkL 1 n)) (hl : n ≤ 1048576) :
    Calls Try.prog 81 #[v, .int .i64 1] w fun e w' => e = .returned (.int .i64 (1 + (n : Int))) ∧ Below w.heap.size w w' :=
  (heldInts_any v n w h hl).mono fun e w' q => ⟨q.1, by rw [← q.2]; exact Below.refl _ _⟩
end Go.Proofs.Ytgamoiagpglcmaa
/- Marks in lists of int64, from any number on. -/
namespace Go.Proofs.Ytgamoiagpglcmaa
open Go.RowKit
set_option linter.unusedVariables false
def MarkPostK (B : Nat) (v : Value) (k0 n : Nat) (w : World) (e : Ending) (w' : World) : Prop := e = .returned (.int .i64 ((k0 + n : Nat) : Int)) ∧ IntsOwn w' B v (mkL (k0 : Int) n) ∧ w.grownBy w' v.ownBlock ∧ Below B w w'
theorem markIntsK_any (B : Nat) (v : Value) (l : List Int) (k0 : Nat) (w : World) (h : IntsOwn w B v l) (hl : l.length ≤ 1048576) (hk0 : k0 ≤ 4000000) :
    Calls Try.prog 79 #[v, .int .i64 (k0 : Int)] w (MarkPostK B v k0 l.length w) := by
  rcases h.shape with ⟨rfl, rfl⟩ | ⟨g, cap, rfl, hg, hgl⟩
  · go_enter Try.func79, Try.ntmps79
    go_wp2
    go_loop [1, 5] (fun u i => u = .int .i64 (k0 : Int) ∧ i = .int .i64 0) (fun _ _ => 0)
    case atStart => exact ⟨rfl, rfl⟩
    case round =>
      obtain ⟨rfl, rfl⟩ := hrel
      go_wp2
      go_ret
      exact ⟨rfl, h, ⟨rfl, rfl, rfl, Nat.le_refl _, fun _ _ _ => rfl⟩, Below.refl _ _⟩
  · obtain ⟨n, hn⟩ : ∃ n, n = l.length := ⟨_, rfl⟩
    rw [← hn] at h hl ⊢
    have hnm : (n : Int) ≤ 1048576 := by omega
    have hk1 : (k0 : Int) ≤ 4000000 := by omega
    have H := Lib.hid h
    have HN := Lib.hid hn
    clear h hn
    go_enter Try.func79, Try.ntmps79
    go_wp2
    go_loopw [1, 5] (fun u i wr => ∃ k q : Nat, k ≤ n ∧ q = k0 + k ∧ i = .int .i64 k ∧ u = .int .i64 (q : Int) ∧ IntsOwn wr B (.slice (some ⟨g, 0, none⟩) n cap) (mkL (k0 : Int) k ++ l.drop k) ∧ w.grownBy wr (some g) ∧ Below B w wr) (fun _ i _ => n - (intOf i).toNat)
    case atStart => exact ⟨0, k0, by omega, rfl, rfl, rfl, H.out, ⟨rfl, rfl, rfl, Nat.le_refl _, fun _ _ _ => rfl⟩, Below.refl _ _⟩
    case round =>
      obtain ⟨k, q, hk, hq, rfl, rfl, hown, hgr, hb⟩ := hrel
      have hN := HN.out
      have hlen : (mkL (k0 : Int) k ++ l.drop k).length = n := by simp [mkL_length]; omega
      by_cases hlt : k < n
      · have hki : (k : Int) < (n : Int) := by omega
        have hqi : (q : Int) ≤ 6000000 := by omega
        have hc := hown.cell (j := k) hlen hlt
        have hf := hown.free hlen k
        have hs := hown.stored hlen k ((k0 : Int) + (k : Int))
        have hqq : (k0 : Int) + (k : Int) = (q : Int) := by omega
        rw [mkL_set (k0 : Int) l k (by omega), hqq] at hs
        have hgr2 : w.grownBy (wr.setCell ⟨g, k, none⟩ (.int .i64 (q : Int))) (some g) := ⟨hgr.os, hgr.tape, hgr.output, by simpa using hgr.size, fun j hj hne => (heap_setCell_other _ _ j _ (fun e => hne (by simp [e]))).trans (hgr.block j hj hne)⟩
        have hb2 := hb.setCell (p := ⟨g, k, none⟩) hg (.int .i64 (q : Int))
        have HQ := Lib.hid hq
        clear hown hgr hb hN hlen hq hqq
        generalize (mkL (k0 : Int) k ++ l.drop k).getD k 0 = old at *
        go_wp2
        go_roundw
        case rel => exact ⟨k + 1, q + 1, by omega, by have := HQ.out; omega, by go_num, by go_num, hs, hgr2, hb2⟩
        case measure => simp [intOf]; omega
      · obtain rfl : k = n := by omega
        rw [List.drop_eq_nil_of_le (by omega), List.append_nil] at hown
        subst hq
        clear hN hlen
        go_wp2
        go_ret
        exact ⟨rfl, hown, hgr, hb⟩
theorem heldIntsK_any (v : Value) (k0 n : Nat) (w : World) (h : IntsIn w v (mkL (k0 : Int) n)) (hl : n ≤ 1048576) (hk0 : k0 ≤ 4000000) :
    Calls Try.prog 81 #[v, .int .i64 (k0 : Int)] w fun e w' => e = .returned (.int .i64 ((k0 + n : Nat) : Int)) ∧ w = w' := by
  obtain ⟨A, n', cap, rfl, hn, hA⟩ := h
  rw [mkL_length] at hn
  subst hn
  have hnm : (n : Int) ≤ 1048576 := by omega
  have hk1 : (k0 : Int) ≤ 4000000 := by omega
  rcases Nat.eq_zero_or_pos n with h0 | h0
  · subst h0
    clear hA
    go_enter Try.func81, Try.ntmps81
    go_wp2
    go_loop [1, 5] (fun u i => u = .int .i64 (k0 : Int) ∧ i = .int .i64 0) (fun _ _ => 0)
    case atStart => exact ⟨rfl, rfl⟩
    case round =>
      obtain ⟨rfl, rfl⟩ := hrel
      go_wp2
      go_ret
      exact ⟨rfl, rfl⟩
  · obtain ⟨b, off, rfl, hbl, hx⟩ := hA h0
    have HX := Lib.hid hx
    clear hA hx h0
    go_enter Try.func81, Try.ntmps81
    go_wp2
    go_loop [1, 5] (fun u i => ∃ k q : Nat, k ≤ n ∧ q = k0 + k ∧ i = .int .i64 k ∧ u = .int .i64 (q : Int)) (fun _ i => n - (intOf i).toNat)
    case atStart => exact ⟨0, k0, by omega, rfl, rfl, rfl⟩
    case round =>
      obtain ⟨k, q, hk, hq, rfl, rfl⟩ := hrel
      by_cases hlt : k < n
      · have hki : (k : Int) < (n : Int) := by omega
        have hqi : (q : Int) ≤ 6000000 := by omega
        have hc := HX.out k hlt
        have hqq : (k0 : Int) + (k : Int) = (q : Int) := by omega
        rw [mkL_at (k0 : Int) hlt, hqq] at hc
        have HQ := Lib.hid hq
        clear hq hqq
        have hxx : ((q : Int) != (q : Int)) = false := by simp
        go_wp2
        go_round
        case rel => exact ⟨k + 1, q + 1, by omega, by have := HQ.out; omega, by go_num, by go_num⟩
        case measure => simp [intOf]; omega
      · obtain rfl : k = n := by omega
        subst hq
        go_wp2
        go_ret
        exact ⟨rfl, rfl⟩
def MarkPostBK (B : Nat) (v : Value) (k0 n : Nat) (w : World) (e : Ending) (w' : World) : Prop := e = .returned (.int .i64 ((k0 + n : Nat) : Int)) ∧ BoolsOwn w' B v (mkB k0 n) ∧ w.grownBy w' v.ownBlock ∧ Below B w w'
theorem markBoolsK_any (B : Nat) (v : Value) (l : List Bool) (k0 : Nat) (w : World) (h : BoolsOwn w B v l) (hl : l.length ≤ 1048576) (hk0 : k0 ≤ 4000000) :
    Calls Try.prog 80 #[v, .int .i64 (k0 : Int)] w (MarkPostBK B v k0 l.length w) := by
  rcases h.shape with ⟨rfl, rfl⟩ | ⟨g, cap, rfl, hg, hgl⟩
  · go_enter Try.func80, Try.ntmps80
    go_wp2
    go_loop [1, 5] (fun u i => u = .int .i64 (k0 : Int) ∧ i = .int .i64 0) (fun _ _ => 0)
    case atStart => exact ⟨rfl, rfl⟩
    case round =>
      obtain ⟨rfl, rfl⟩ := hrel
      go_wp2
      go_ret
      exact ⟨rfl, h, ⟨rfl, rfl, rfl, Nat.le_refl _, fun _ _ _ => rfl⟩, Below.refl _ _⟩
  · obtain ⟨n, hn⟩ : ∃ n, n = l.length := ⟨_, rfl⟩
    rw [← hn] at h hl ⊢
    have hnm : (n : Int) ≤ 1048576 := by omega
    have hk1 : (k0 : Int) ≤ 4000000 := by omega
    have H := Lib.hid h
    have HN := Lib.hid hn
    clear h hn
    go_enter Try.func80, Try.ntmps80
    go_wp2
    go_loopw [1, 5] (fun u i wr => ∃ k q : Nat, k ≤ n ∧ q = k0 + k ∧ i = .int .i64 k ∧ u = .int .i64 (q : Int) ∧ BoolsOwn wr B (.slice (some ⟨g, 0, none⟩) n cap) (mkB k0 k ++ l.drop k) ∧ w.grownBy wr (some g) ∧ Below B w wr) (fun _ i _ => n - (intOf i).toNat)
    case atStart => exact ⟨0, k0, by omega, rfl, rfl, rfl, H.out, ⟨rfl, rfl, rfl, Nat.le_refl _, fun _ _ _ => rfl⟩, Below.refl _ _⟩
    case round =>
      obtain ⟨k, q, hk, hq, rfl, rfl, hown, hgr, hb⟩ := hrel
      have hN := HN.out
      have hlen : (mkB k0 k ++ l.drop k).length = n := by simp [mkB_length]; omega
      by_cases hlt : k < n
      · have hki : (k : Int) < (n : Int) := by omega
        have hqi : (q : Int) ≤ 6000000 := by omega
        have hc := hown.cell (j := k) hlen hlt
        have hf := hown.free hlen k
        have hs := hown.stored hlen k (decide ((k0 + k) % 3 = 0))
        rw [mkB_set k0 l k (by omega), ← hq, ← beqB q] at hs
        have hgr2 : w.grownBy (wr.setCell ⟨g, k, none⟩ (.bool ((q : Int) % 3 == 0))) (some g) := ⟨hgr.os, hgr.tape, hgr.output, by simpa using hgr.size, fun j hj hne => (heap_setCell_other _ _ j _ (fun e => hne (by simp [e]))).trans (hgr.block j hj hne)⟩
        have hb2 := hb.setCell (p := ⟨g, k, none⟩) hg (.bool ((q : Int) % 3 == 0))
        have HQ := Lib.hid hq
        clear hown hgr hb hN hlen hq
        generalize (mkB k0 k ++ l.drop k).getD k false = old at *
        go_wp2
        go_roundw
        case rel => exact ⟨k + 1, q + 1, by omega, by have := HQ.out; omega, by go_num, by go_num, hs, hgr2, hb2⟩
        case measure => simp [intOf]; omega
      · obtain rfl : k = n := by omega
        rw [List.drop_eq_nil_of_le (by omega), List.append_nil] at hown
        subst hq
        clear hN hlen
        go_wp2
        go_ret
        exact ⟨rfl, hown, hgr, hb⟩
theorem heldBoolsK_any (v : Value) (k0 n : Nat) (w : World) (h : BoolsIn w v (mkB k0 n)) (hl : n ≤ 1048576) (hk0 : k0 ≤ 4000000) :
    Calls Try.prog 82 #[v, .int .i64 (k0 : Int)] w fun e w' => e = .returned (.int .i64 ((k0 + n : Nat) : Int)) ∧ w = w' := by
  obtain ⟨A, n', cap, rfl, hn, hA⟩ := h
  rw [mkB_length] at hn
  subst hn
  have hnm : (n : Int) ≤ 1048576 := by omega
  have hk1 : (k0 : Int) ≤ 4000000 := by omega
  rcases Nat.eq_zero_or_pos n with h0 | h0
  · subst h0
    clear hA
    go_enter Try.func82, Try.ntmps82
    go_wp2
    go_loop [1, 5] (fun u i => u = .int .i64 (k0 : Int) ∧ i = .int .i64 0) (fun _ _ => 0)
    case atStart => exact ⟨rfl, rfl⟩
    case round =>
      obtain ⟨rfl, rfl⟩ := hrel
      go_wp2
      go_ret
      exact ⟨rfl, rfl⟩
  · obtain ⟨b, off, rfl, hbl, hx⟩ := hA h0
    have HX := Lib.hid hx
    clear hA hx h0
    go_enter Try.func82, Try.ntmps82
    go_wp2
    go_loop [1, 5] (fun u i => ∃ k q : Nat, k ≤ n ∧ q = k0 + k ∧ i = .int .i64 k ∧ u = .int .i64 (q : Int)) (fun _ i => n - (intOf i).toNat)
    case atStart => exact ⟨0, k0, by omega, rfl, rfl, rfl⟩
    case round =>
      obtain ⟨k, q, hk, hq, rfl, rfl⟩ := hrel
      by_cases hlt : k < n
      · have hki : (k : Int) < (n : Int) := by omega
        have hqi : (q : Int) ≤ 6000000 := by omega
        have hc := HX.out k hlt
        rw [mkB_at k0 hlt, ← hq, ← beqB q] at hc
        have HQ := Lib.hid hq
        clear hq
        generalize hz : ((q : Int) % 3 == 0) = z at *
        have hxx : (z != z) = false := by simp
        go_wp2
        go_round
        case rel => exact ⟨k + 1, q + 1, by omega, by have := HQ.out; omega, by go_num, by go_num⟩
        case measure => simp [intOf]; omega
      · obtain rfl : k = n := by omega
        subst hq
        go_wp2
        go_ret
        exact ⟨rfl, rfl⟩
end Go.Proofs.Ytgamoiagpglcmaa
