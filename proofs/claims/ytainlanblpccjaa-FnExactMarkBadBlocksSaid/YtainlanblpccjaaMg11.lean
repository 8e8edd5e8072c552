/- The proof's own lemmas, part 12: PmK IntsK Lu. -/
import Derived.Test.YtainlanblpccjaaProg
import Derived.Test.YtainlanblpccjaaMg9
import Derived.Test.YtainlanblpccjaaMg3
import Derived.Test.YtainlanblpccjaaMg8
import Derived.Test.YtainlanblpccjaaMg7
/- The laws' helpers markPageMap and heldPageMap: their contracts. -/
namespace Go.Proofs.Ytainlanblpccjaa
open Go.RowKit
set_option linter.unusedVariables false
/-- Only blocks from lo up to hi may have turned, and new ones may stand. -/
def Kp (lo hi : Nat) (w w' : World) : Prop := Below lo w w' ∧ Same hi w.heap.size w w'
theorem Kp.size {lo hi : Nat} {w w' : World} (h : Kp lo hi w w') : w.heap.size ≤ w'.heap.size := h.1.size
theorem Kp.call {lo hi : Nat} {w w' w'' : World} (h : Kp lo hi w w') (hb : Below w'.heap.size w' w'') (hl : lo ≤ w.heap.size) : Kp lo hi w w'' :=
  ⟨h.1.trans (hb.mono (by have := h.1.size; omega)), h.2.trans (sm hb hi h.1.size)⟩
theorem Kp.grown {lo hi : Nat} {w w' w'' : World} {row : Option Nat} (h : Kp lo hi w w') (hg : w'.grownBy w'' row) (hb : Below lo w' w'') (hr : ∀ k, row = some k → lo ≤ k ∧ k < hi) : Kp lo hi w w'' :=
  ⟨h.1.trans hb, fun j h1 h2 => (hg.block j (Nat.lt_of_lt_of_le h2 h.1.size) (fun e => by have := (hr j e.symm).2; omega)).trans (h.2 j h1 h2)⟩
def markM (M : Pm) : Pm := ⟨M.b, M.p, mkL 1 M.mp.length, mkB (1 + M.mp.length) M.tr.length⟩
theorem markM_sz {M : Pm} (h : PmSz M) : PmSz (markM M) := by unfold PmSz markM; rw [mkL_length, mkB_length]; exact h
theorem grownRw {w w' : World} {g : Nat} {t : TypeId} {cs : Array Value} {row : Option Nat} (h : Rw w g t cs) (hg : w.grownBy w' row) (hne : some g ≠ row) : Rw w' g t cs := (hg.block g h.lt hne).trans h
theorem own_ne {a b : Option Nat} (h : a = none ∨ a ≠ b) : b = none ∨ b ≠ a := by
  cases b with
  | none => exact .inl rfl
  | some x => rcases h with rfl | h; exact .inr (by simp); exact .inr (fun e => h e.symm)
set_option maxHeartbeats 1000000 in
theorem markPm_any (v : Value) (M : Pm) (w : World) (lo hi : Nat) (h : PmOwn w lo hi v M) (hl : lo ≤ hi) (hh : hi ≤ w.heap.size) (hz : PmSz M) :
    Calls Try.prog 77 #[v, .int .i64 1] w fun e w' => e = .returned (.int .i64 ((1 + M.mp.length + M.tr.length : Nat) : Int)) ∧ PmOwn w' lo hi v (markM M) ∧ Kp lo hi w w' := by
  obtain ⟨a, b, rfl, h1, h2, h3⟩ := h
  unfold PmSz at hz
  have HA := Lib.hid (fun (W : World) (q : IntsOwn W lo a M.mp) => markInts_any lo a M.mp W q (by omega))
  have HB := Lib.hid (fun (W : World) (q : BoolsOwn W lo b M.tr) => markBools_any lo b M.tr (1 + M.mp.length) W q (by omega) (by omega))
  have H1 := Lib.hid h1
  have H2 := Lib.hid h2
  have H3 := Lib.hid h3
  have HZ := Lib.hid hz
  have hn1 : ((1 + M.mp.length : Nat) : Int) ≤ 1048577 := by omega
  have r0 := Rw.new w 104 (pmc M a b)
  have b0 := (Below.refl w.heap.size w).alloc (Nat.le_refl _) (.cells (pmc M a b) 104)
  have K0 := Lib.hid (show Kp lo hi w (w.alloc (.cells (pmc M a b) 104)) from ⟨b0.mono (by omega), sm b0 hi (Nat.le_refl _)⟩)
  have A0 := Lib.hid (h1.same (sm b0 lo hh))
  have B0 := Lib.hid (h2.same (sm b0 lo hh))
  have hsz : (w.alloc (.cells (pmc M a b) 104)).heap.size = w.heap.size + 1 := by simp
  have R0 := Lib.hid r0
  have hne : ∀ (o : Option Nat), (∀ k, o = some k → k < hi) → some w.heap.size ≠ o := fun o ho e => by have := ho _ e.symm; omega
  have HNE := Lib.hid hne
  obtain ⟨c0, c1, c2, c3⟩ := r0.four
  clear h1 h2 h3 b0 r0 hz hne
  have hpc : pmc M a b = #[.int .i64 M.b, .int .i64 M.p, a, b] := rfl
  rw [hpc] at A0 B0 R0 K0 hsz
  go_enter Try.func77, Try.ntmps77
  go_wp2_with fail
  refine (HA.out _ A0.out.1).mono ?_
  rintro e w1 ⟨rfl, ho, hg, hb⟩
  have K1 := Lib.hid (K0.out.grown hg hb (fun k e => ⟨(H1.out.1.blockOf e).1, H1.out.2 k e⟩))
  have R1 := Lib.hid (grownRw R0.out hg (HNE.out _ H1.out.2))
  have B1 := Lib.hid (show BW w1 lo hi b M.tr from ⟨B0.out.1.kept hg (own_ne H3.out), B0.out.2⟩)
  have A1 := Lib.hid ho
  clear c0 c1 c2 c3 ho hg hb K0 A0 R0 B0 HA
  obtain ⟨c0, c1, c2, c3⟩ := R1.out.four
  go_wp2_with fail
  refine (HB.out _ B1.out.1).mono ?_
  rintro e w2 ⟨rfl, ho, hg, hb⟩
  have K2 := Lib.hid (K1.out.grown hg hb (fun k e => ⟨(H2.out.1.blockOf e).1, H2.out.2 k e⟩))
  have A2 := Lib.hid (A1.out.kept hg H3.out)
  have B2 := Lib.hid ho
  clear c0 c1 c2 c3 ho hg hb K1 A1 R1 B1 HB
  go_wp2
  go_ret
  exact ⟨by rfl, ⟨a, b, rfl, ⟨A2.out, H1.out.2⟩, ⟨B2.out, H2.out.2⟩, H3.out⟩, K2.out⟩
theorem heldIntsB_any (v : Value) (n : Nat) (w : World) (h : IntsIn w v (mkL 1 n)) (hl : n ≤ 1048576) :
    Calls Try.prog 87 #[v, .int .i64 1] w fun e w' => e = .returned (.int .i64 (1 + (n : Int))) ∧ Below w.heap.size w w' :=
  (heldInts_any v n w h hl).mono fun e w' q => ⟨q.1, by rw [← q.2]; exact Below.refl _ _⟩
end Go.Proofs.Ytainlanblpccjaa
/- Marks in lists of int64, from any number on. -/
namespace Go.Proofs.Ytainlanblpccjaa
open Go.RowKit
set_option linter.unusedVariables false
def MarkPostK (B : Nat) (v : Value) (k0 n : Nat) (w : World) (e : Ending) (w' : World) : Prop := e = .returned (.int .i64 ((k0 + n : Nat) : Int)) ∧ IntsOwn w' B v (mkL (k0 : Int) n) ∧ w.grownBy w' v.ownBlock ∧ Below B w w'
theorem markIntsK_any (B : Nat) (v : Value) (l : List Int) (k0 : Nat) (w : World) (h : IntsOwn w B v l) (hl : l.length ≤ 1048576) (hk0 : k0 ≤ 4000000) :
    Calls Try.prog 57 #[v, .int .i64 (k0 : Int)] w (MarkPostK B v k0 l.length w) := by
  rcases h.shape with ⟨rfl, rfl⟩ | ⟨g, cap, rfl, hg, hgl⟩
  · go_enter Try.func57, Try.ntmps57
    go_wp2
    go_loop [1, 5] (fun u i => u = .int .i64 (k0 : Int) ∧ i = .int .i64 0) (fun _ _ => 0)
    case atStart => exact ⟨rfl, rfl⟩
    case round =>
      obtain ⟨rfl, rfl⟩ := hrel
      go_wp2
      go_ret
      exact ⟨rfl, h, ⟨rfl, rfl, rfl, Nat.le_refl _, fun _ _ _ => rfl⟩, Below.refl _ _⟩
  · obtain ⟨n, hn⟩ : ∃ n, n = l.length := ⟨_, rfl⟩
    rw [← hn] at h hl ⊢
    have hnm : (n : Int) ≤ 1048576 := by omega
    have hk1 : (k0 : Int) ≤ 4000000 := by omega
    have H := Lib.hid h
    have HN := Lib.hid hn
    clear h hn
    go_enter Try.func57, Try.ntmps57
    go_wp2
    go_loopw [1, 5] (fun u i wr => ∃ k q : Nat, k ≤ n ∧ q = k0 + k ∧ i = .int .i64 k ∧ u = .int .i64 (q : Int) ∧ IntsOwn wr B (.slice (some ⟨g, 0, none⟩) n cap) (mkL (k0 : Int) k ++ l.drop k) ∧ w.grownBy wr (some g) ∧ Below B w wr) (fun _ i _ => n - (intOf i).toNat)
    case atStart => exact ⟨0, k0, by omega, rfl, rfl, rfl, H.out, ⟨rfl, rfl, rfl, Nat.le_refl _, fun _ _ _ => rfl⟩, Below.refl _ _⟩
    case round =>
      obtain ⟨k, q, hk, hq, rfl, rfl, hown, hgr, hb⟩ := hrel
      have hN := HN.out
      have hlen : (mkL (k0 : Int) k ++ l.drop k).length = n := by simp [mkL_length]; omega
      by_cases hlt : k < n
      · have hki : (k : Int) < (n : Int) := by omega
        have hqi : (q : Int) ≤ 6000000 := by omega
        have hc := hown.cell (j := k) hlen hlt
        have hf := hown.free hlen k
        have hs := hown.stored hlen k ((k0 : Int) + (k : Int))
        have hqq : (k0 : Int) + (k : Int) = (q : Int) := by omega
        rw [mkL_set (k0 : Int) l k (by omega), hqq] at hs
        have hgr2 : w.grownBy (wr.setCell ⟨g, k, none⟩ (.int .i64 (q : Int))) (some g) := ⟨hgr.os, hgr.tape, hgr.output, by simpa using hgr.size, fun j hj hne => (heap_setCell_other _ _ j _ (fun e => hne (by simp [e]))).trans (hgr.block j hj hne)⟩
        have hb2 := hb.setCell (p := ⟨g, k, none⟩) hg (.int .i64 (q : Int))
        have HQ := Lib.hid hq
        clear hown hgr hb hN hlen hq hqq
        generalize (mkL (k0 : Int) k ++ l.drop k).getD k 0 = old at *
        go_wp2
        go_roundw
        case rel => exact ⟨k + 1, q + 1, by omega, by have := HQ.out; omega, by go_num, by go_num, hs, hgr2, hb2⟩
        case measure => simp [intOf]; omega
      · obtain rfl : k = n := by omega
        rw [List.drop_eq_nil_of_le (by omega), List.append_nil] at hown
        subst hq
        clear hN hlen
        go_wp2
        go_ret
        exact ⟨rfl, hown, hgr, hb⟩
theorem heldIntsK_any (v : Value) (k0 n : Nat) (w : World) (h : IntsIn w v (mkL (k0 : Int) n)) (hl : n ≤ 1048576) (hk0 : k0 ≤ 4000000) :
    Calls Try.prog 87 #[v, .int .i64 (k0 : Int)] w fun e w' => e = .returned (.int .i64 ((k0 + n : Nat) : Int)) ∧ w = w' := by
  obtain ⟨A, n', cap, rfl, hn, hA⟩ := h
  rw [mkL_length] at hn
  subst hn
  have hnm : (n : Int) ≤ 1048576 := by omega
  have hk1 : (k0 : Int) ≤ 4000000 := by omega
  rcases Nat.eq_zero_or_pos n with h0 | h0
  · subst h0
    clear hA
    go_enter Try.func87, Try.ntmps87
    go_wp2
    go_loop [1, 5] (fun u i => u = .int .i64 (k0 : Int) ∧ i = .int .i64 0) (fun _ _ => 0)
    case atStart => exact ⟨rfl, rfl⟩
    case round =>
      obtain ⟨rfl, rfl⟩ := hrel
      go_wp2
      go_ret
      exact ⟨rfl, rfl⟩
  · obtain ⟨b, off, rfl, hbl, hx⟩ := hA h0
    have HX := Lib.hid hx
    clear hA hx h0
    go_enter Try.func87, Try.ntmps87
    go_wp2
    go_loop [1, 5] (fun u i => ∃ k q : Nat, k ≤ n ∧ q = k0 + k ∧ i = .int .i64 k ∧ u = .int .i64 (q : Int)) (fun _ i => n - (intOf i).toNat)
    case atStart => exact ⟨0, k0, by omega, rfl, rfl, rfl⟩
    case round =>
      obtain ⟨k, q, hk, hq, rfl, rfl⟩ := hrel
      by_cases hlt : k < n
      · have hki : (k : Int) < (n : Int) := by omega
        have hqi : (q : Int) ≤ 6000000 := by omega
        have hc := HX.out k hlt
        have hqq : (k0 : Int) + (k : Int) = (q : Int) := by omega
        rw [mkL_at (k0 : Int) hlt, hqq] at hc
        have HQ := Lib.hid hq
        clear hq hqq
        have hxx : ((q : Int) != (q : Int)) = false := by simp
        go_wp2
        go_round
        case rel => exact ⟨k + 1, q + 1, by omega, by have := HQ.out; omega, by go_num, by go_num⟩
        case measure => simp [intOf]; omega
      · obtain rfl : k = n := by omega
        subst hq
        go_wp2
        go_ret
        exact ⟨rfl, rfl⟩
def MarkPostBK (B : Nat) (v : Value) (k0 n : Nat) (w : World) (e : Ending) (w' : World) : Prop := e = .returned (.int .i64 ((k0 + n : Nat) : Int)) ∧ BoolsOwn w' B v (mkB k0 n) ∧ w.grownBy w' v.ownBlock ∧ Below B w w'
theorem markBoolsK_any (B : Nat) (v : Value) (l : List Bool) (k0 : Nat) (w : World) (h : BoolsOwn w B v l) (hl : l.length ≤ 1048576) (hk0 : k0 ≤ 4000000) :
    Calls Try.prog 78 #[v, .int .i64 (k0 : Int)] w (MarkPostBK B v k0 l.length w) := by
  rcases h.shape with ⟨rfl, rfl⟩ | ⟨g, cap, rfl, hg, hgl⟩
  · go_enter Try.func78, Try.ntmps78
    go_wp2
    go_loop [1, 5] (fun u i => u = .int .i64 (k0 : Int) ∧ i = .int .i64 0) (fun _ _ => 0)
    case atStart => exact ⟨rfl, rfl⟩
    case round =>
      obtain ⟨rfl, rfl⟩ := hrel
      go_wp2
      go_ret
      exact ⟨rfl, h, ⟨rfl, rfl, rfl, Nat.le_refl _, fun _ _ _ => rfl⟩, Below.refl _ _⟩
  · obtain ⟨n, hn⟩ : ∃ n, n = l.length := ⟨_, rfl⟩
    rw [← hn] at h hl ⊢
    have hnm : (n : Int) ≤ 1048576 := by omega
    have hk1 : (k0 : Int) ≤ 4000000 := by omega
    have H := Lib.hid h
    have HN := Lib.hid hn
    clear h hn
    go_enter Try.func78, Try.ntmps78
    go_wp2
    go_loopw [1, 5] (fun u i wr => ∃ k q : Nat, k ≤ n ∧ q = k0 + k ∧ i = .int .i64 k ∧ u = .int .i64 (q : Int) ∧ BoolsOwn wr B (.slice (some ⟨g, 0, none⟩) n cap) (mkB k0 k ++ l.drop k) ∧ w.grownBy wr (some g) ∧ Below B w wr) (fun _ i _ => n - (intOf i).toNat)
    case atStart => exact ⟨0, k0, by omega, rfl, rfl, rfl, H.out, ⟨rfl, rfl, rfl, Nat.le_refl _, fun _ _ _ => rfl⟩, Below.refl _ _⟩
    case round =>
      obtain ⟨k, q, hk, hq, rfl, rfl, hown, hgr, hb⟩ := hrel
      have hN := HN.out
      have hlen : (mkB k0 k ++ l.drop k).length = n := by simp [mkB_length]; omega
      by_cases hlt : k < n
      · have hki : (k : Int) < (n : Int) := by omega
        have hqi : (q : Int) ≤ 6000000 := by omega
        have hc := hown.cell (j := k) hlen hlt
        have hf := hown.free hlen k
        have hs := hown.stored hlen k (decide ((k0 + k) % 3 = 0))
        rw [mkB_set k0 l k (by omega), ← hq, ← beqB q] at hs
        have hgr2 : w.grownBy (wr.setCell ⟨g, k, none⟩ (.bool ((q : Int) % 3 == 0))) (some g) := ⟨hgr.os, hgr.tape, hgr.output, by simpa using hgr.size, fun j hj hne => (heap_setCell_other _ _ j _ (fun e => hne (by simp [e]))).trans (hgr.block j hj hne)⟩
        have hb2 := hb.setCell (p := ⟨g, k, none⟩) hg (.bool ((q : Int) % 3 == 0))
        have HQ := Lib.hid hq
        clear hown hgr hb hN hlen hq
        generalize (mkB k0 k ++ l.drop k).getD k false = old at *
        go_wp2
        go_roundw
        case rel => exact ⟨k + 1, q + 1, by omega, by have := HQ.out; omega, by go_num, by go_num, hs, hgr2, hb2⟩
        case measure => simp [intOf]; omega
      · obtain rfl : k = n := by omega
        rw [List.drop_eq_nil_of_le (by omega), List.append_nil] at hown
        subst hq
        clear hN hlen
        go_wp2
        go_ret
        exact ⟨rfl, hown, hgr, hb⟩
theorem heldBoolsK_any (v : Value) (k0 n : Nat) (w : World) (h : BoolsIn w v (mkB k0 n)) (hl : n ≤ 1048576) (hk0 : k0 ≤ 4000000) :
    Calls Try.prog 88 #[v, .int .i64 (k0 : Int)] w fun e w' => e = .returned (.int .i64 ((k0 + n : Nat) : Int)) ∧ w = w' := by
  obtain ⟨A, n', cap, rfl, hn, hA⟩ := h
  rw [mkB_length] at hn
  subst hn
  have hnm : (n : Int) ≤ 1048576 := by omega
  have hk1 : (k0 : Int) ≤ 4000000 := by omega
  rcases Nat.eq_zero_or_pos n with h0 | h0
  · subst h0
    clear hA
    go_enter Try.func88, Try.ntmps88
    go_wp2
    go_loop [1, 5] (fun u i => u = .int .i64 (k0 : Int) ∧ i = .int .i64 0) (fun _ _ => 0)
    case atStart => exact ⟨rfl, rfl⟩
    case round =>
      obtain ⟨rfl, rfl⟩ := hrel
      go_wp2
      go_ret
      exact ⟨rfl, rfl⟩
  · obtain ⟨b, off, rfl, hbl, hx⟩ := hA h0
    have HX := Lib.hid hx
    clear hA hx h0
    go_enter Try.func88, Try.ntmps88
    go_wp2
    go_loop [1, 5] (fun u i => ∃ k q : Nat, k ≤ n ∧ q = k0 + k ∧ i = .int .i64 k ∧ u = .int .i64 (q : Int)) (fun _ i => n - (intOf i).toNat)
    case atStart => exact ⟨0, k0, by omega, rfl, rfl, rfl⟩
    case round =>
      obtain ⟨k, q, hk, hq, rfl, rfl⟩ := hrel
      by_cases hlt : k < n
      · have hki : (k : Int) < (n : Int) := by omega
        have hqi : (q : Int) ≤ 6000000 := by omega
        have hc := HX.out k hlt
        rw [mkB_at k0 hlt, ← hq, ← beqB q] at hc
        have HQ := Lib.hid hq
        clear hq
        generalize hz : ((q : Int) % 3 == 0) = z at *
        have hxx : (z != z) = false := by simp
        go_wp2
        go_round
        case rel => exact ⟨k + 1, q + 1, by omega, by have := HQ.out; omega, by go_num, by go_num⟩
        case measure => simp [intOf]; omega
      · obtain rfl : k = n := by omega
        subst hq
        go_wp2
        go_ret
        exact ⟨rfl, rfl⟩
end Go.Proofs.Ytainlanblpccjaa
/- Lists of int64 and of bool as arguments and results of a law: the laws' helpers in the shape that all kinds share. -/
namespace Go.Proofs.Ytainlanblpccjaa
open Go.RowKit
set_option linter.unusedVariables false
abbrev LiIn (w : World) (hi : Nat) (v : Value) (L : List Int) : Prop := NI w hi v L
abbrev LiOwn (w : World) (lo hi : Nat) (v : Value) (L : List Int) : Prop := IO w lo hi v L
def LiSz (L : List Int) : Prop := L.length ≤ 1048576
abbrev LiW (L : List Int) : Prop := WfL L
def nLi (L : List Int) : Nat := L.length
def markLiD (k0 : Nat) (L : List Int) : List Int := mkL (k0 : Int) L.length
abbrev BoIn (w : World) (hi : Nat) (v : Value) (L : List Bool) : Prop := NB w hi v L
abbrev BoOwn (w : World) (lo hi : Nat) (v : Value) (L : List Bool) : Prop := BW w lo hi v L
def BoSz (L : List Bool) : Prop := L.length ≤ 1048576
abbrev BoW (L : List Bool) : Prop := True
def nBo (L : List Bool) : Nat := L.length
def markBoD (k0 : Nat) (L : List Bool) : List Bool := mkB k0 L.length
theorem NI.agg_ {w : World} {hi : Nat} {v : Value} {L : List Int} (h : NI w hi v L) : ∃ (A : Option Addr) (n c : Nat), v = .slice A n c := h.slice
theorem NB.agg_ {w : World} {hi : Nat} {v : Value} {L : List Bool} (h : NB w hi v L) : ∃ (A : Option Addr) (n c : Nat), v = .slice A n c := h.slice
theorem IO.agg_ {w : World} {lo hi : Nat} {v : Value} {L : List Int} (h : IO w lo hi v L) : ∃ (A : Option Addr) (n c : Nat), v = .slice A n c := h.reads.slice
theorem BW.agg_ {w : World} {lo hi : Nat} {v : Value} {L : List Bool} (h : BW w lo hi v L) : ∃ (A : Option Addr) (n c : Nat), v = .slice A n c := h.reads.slice
theorem NI.len_ {w : World} {hi : Nat} {A : Option Addr} {n c : Nat} {L : List Int} (h : NI w hi (.slice A n c) L) : L.length = n ∧ n ≤ 9223372036854775807 := by
  obtain ⟨_, _, _, e, q1, q2, q3, _⟩ := h; injection e with z1 z2 z3; omega
theorem NB.len_ {w : World} {hi : Nat} {A : Option Addr} {n c : Nat} {L : List Bool} (h : NB w hi (.slice A n c) L) : L.length = n ∧ n ≤ 9223372036854775807 := by
  obtain ⟨_, _, _, e, q1, q2, q3, _⟩ := h; injection e with z1 z2 z3; omega
/-- A call that leaves memory as it was. -/
theorem Calls.calm {P : Program} {f : FuncId} {args : Array Value} {w : World} {r : Value} (h : Calls P f args w fun e w' => e = .returned r ∧ w = w') : Calls P f args w fun e w' => e = .returned r ∧ Below w.heap.size w w' :=
  h.mono fun e w' q => ⟨q.1, by rw [← q.2]; exact Below.refl _ _⟩
theorem toLi_any (v : Value) (L : List Int) (w : World) (hi : Nat) (h : NI w hi v L) (hh : hi ≤ w.heap.size) (hz : LiSz L) :
    Calls Try.prog 53 #[v] w fun e w' => ∃ u, e = .returned u ∧ IO w' w.heap.size w'.heap.size u L ∧ Below w.heap.size w w' :=
  (toInts_any v L w (h.intsR hh) hz).mono fun e w' ⟨u, q, ho, hb⟩ => ⟨u, q, IO.mk_ ho, hb⟩
theorem eqLi_any (u v : Value) (L : List Int) (w : World) (hi hi' : Nat) (hu : NI w hi u L) (hv : NI w hi' v L) (h1 : hi ≤ w.heap.size) (h2 : hi' ≤ w.heap.size) (hz : LiSz L) :
    Calls Try.prog 56 #[u, v] w fun e w' => e = .returned (.bool true) ∧ Below w.heap.size w w' := eqInts_any u v L w (hu.ints h1) (hv.ints h2) hz
theorem toBo_any (v : Value) (L : List Bool) (w : World) (hi : Nat) (h : NB w hi v L) (hh : hi ≤ w.heap.size) (hz : BoSz L) :
    Calls Try.prog 72 #[v] w fun e w' => ∃ u, e = .returned u ∧ BW w' w.heap.size w'.heap.size u L ∧ Below w.heap.size w w' :=
  (toBools_any v L w (h.boolsR hh) hz).mono fun e w' ⟨u, q, ho, hb⟩ => ⟨u, q, BW.mk_ ho, hb⟩
theorem eqBo_any (u v : Value) (L : List Bool) (w : World) (hi hi' : Nat) (hu : NB w hi u L) (hv : NB w hi' v L) (h1 : hi ≤ w.heap.size) (h2 : hi' ≤ w.heap.size) (hz : BoSz L) :
    Calls Try.prog 76 #[u, v] w fun e w' => e = .returned (.bool true) ∧ Below w.heap.size w w' := eqBools_any u v L w (hu.bools h1) (hv.bools h2) hz
theorem mkLi_any (v : Value) (M : List Int) (k0 : Nat) (w : World) (lo hi : Nat) (h : IO w lo hi v M) (hl : lo ≤ hi) (hh : hi ≤ w.heap.size) (hz : LiSz M) (hk : k0 ≤ 3200000) :
    Calls Try.prog 57 #[v, .int .i64 (k0 : Int)] w fun e w' => e = .returned (.int .i64 ((k0 + nLi M : Nat) : Int)) ∧ IO w' lo hi v (markLiD k0 M) ∧ Kp lo hi w w' :=
  (markIntsK_any lo v M k0 w h.1 hz (by omega)).mono fun e w' ⟨q, ho, hg, hb⟩ => ⟨q, ⟨ho, h.2⟩, hb, fun j h1 h2 => hg.block j h2 (fun e => by have := h.2 j e.symm; omega)⟩
theorem hdLi_any (v : Value) (M : List Int) (k0 : Nat) (w : World) (hi : Nat) (h : NI w hi v (markLiD k0 M)) (hh : hi ≤ w.heap.size) (hz : LiSz M) (hk : k0 ≤ 3200000) :
    Calls Try.prog 87 #[v, .int .i64 (k0 : Int)] w fun e w' => e = .returned (.int .i64 ((k0 + nLi M : Nat) : Int)) ∧ Below w.heap.size w w' :=
  Calls.calm (heldIntsK_any v k0 M.length w (h.ints hh) hz (by omega))
theorem mkBo_any (v : Value) (M : List Bool) (k0 : Nat) (w : World) (lo hi : Nat) (h : BW w lo hi v M) (hl : lo ≤ hi) (hh : hi ≤ w.heap.size) (hz : BoSz M) (hk : k0 ≤ 3200000) :
    Calls Try.prog 78 #[v, .int .i64 (k0 : Int)] w fun e w' => e = .returned (.int .i64 ((k0 + nBo M : Nat) : Int)) ∧ BW w' lo hi v (markBoD k0 M) ∧ Kp lo hi w w' :=
  (markBoolsK_any lo v M k0 w h.1 hz (by omega)).mono fun e w' ⟨q, ho, hg, hb⟩ => ⟨q, ⟨ho, h.2⟩, hb, fun j h1 h2 => hg.block j h2 (fun e => by have := h.2 j e.symm; omega)⟩
theorem hdBo_any (v : Value) (M : List Bool) (k0 : Nat) (w : World) (hi : Nat) (h : NB w hi v (markBoD k0 M)) (hh : hi ≤ w.heap.size) (hz : BoSz M) (hk : k0 ≤ 3200000) :
    Calls Try.prog 88 #[v, .int .i64 (k0 : Int)] w fun e w' => e = .returned (.int .i64 ((k0 + nBo M : Nat) : Int)) ∧ Below w.heap.size w w' :=
  Calls.calm (heldBoolsK_any v k0 M.length w (h.bools hh) hz (by omega))
end Go.Proofs.Ytainlanblpccjaa
