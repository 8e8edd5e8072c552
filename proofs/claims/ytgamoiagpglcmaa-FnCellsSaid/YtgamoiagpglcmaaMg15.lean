/- The proof's own lemmas, part 16: IntsK. -/
import Derived.Test.YtgamoiagpglcmaaProg
import Derived.Test.YtgamoiagpglcmaaMg6
import Derived.Test.YtgamoiagpglcmaaMg11
/- Marks in lists of int64, from any number on. -/
namespace Go.Proofs.Ytgamoiagpglcmaa
open Go.RowKit
set_option linter.unusedVariables false
def MarkPostK (B : Nat) (v : Value) (k0 n : Nat) (w : World) (e : Ending) (w' : World) : Prop := e = .returned (.int .i64 ((k0 + n : Nat) : Int)) ∧ IntsOwn w' B v (mkL (k0 : Int) n) ∧ w.grownBy w' v.ownBlock ∧ Below B w w'
theorem markIntsK_any (B : Nat) (v : Value) (l : List Int) (k0 : Nat) (w : World) (h : IntsOwn w B v l) (hl : l.length ≤ 1048576) (hk0 : k0 ≤ 4000000) :
    Calls Try.prog 79 #[v, .int .i64 (k0 : Int)] w (MarkPostK B v k0 l.length w) := by
  rcases h.shape with ⟨rfl, rfl⟩ | ⟨g, cap, rfl, hg, hgl⟩
  · go_enter Try.func79, Try.ntmps79
    go_wp2
    go_loop [1, 5] (fun u i => u = .int .i64 (k0 : Int) ∧ i = .int .i64 0) (fun _ _ => 0)
    case atStart => exact ⟨rfl, rfl⟩
    case round =>
      obtain ⟨rfl, rfl⟩ := hrel
      go_wp2
      go_ret
      exact ⟨rfl, h, ⟨rfl, rfl, rfl, Nat.le_refl _, fun _ _ _ => rfl⟩, Below.refl _ _⟩
  · obtain ⟨n, hn⟩ : ∃ n, n = l.length := ⟨_, rfl⟩
    rw [← hn] at h hl ⊢
    have hnm : (n : Int) ≤ 1048576 := by omega
    have hk1 : (k0 : Int) ≤ 4000000 := by omega
    have H := Lib.hid h
    have HN := Lib.hid hn
    clear h hn
    go_enter Try.func79, Try.ntmps79
    go_wp2
    go_loopw [1, 5] (fun u i wr => ∃ k q : Nat, k ≤ n ∧ q = k0 + k ∧ i = .int .i64 k ∧ u = .int .i64 (q : Int) ∧ IntsOwn wr B (.slice (some ⟨g, 0, none⟩) n cap) (mkL (k0 : Int) k ++ l.drop k) ∧ w.grownBy wr (some g) ∧ Below B w wr) (fun _ i _ => n - (intOf i).toNat)
    case atStart => exact ⟨0, k0, by omega, rfl, rfl, rfl, H.out, ⟨rfl, rfl, rfl, Nat.le_refl _, fun _ _ _ => rfl⟩, Below.refl _ _⟩
    case round =>
      obtain ⟨k, q, hk, hq, rfl, rfl, hown, hgr, hb⟩ := hrel
      have hN := HN.out
      have hlen : (mkL (k0 : Int) k ++ l.drop k).length = n := by simp [mkL_length]; omega
      by_cases hlt : k < n
      · have hki : (k : Int) < (n : Int) := by omega
        have hqi : (q : Int) ≤ 6000000 := by omega
        have hc := hown.cell (j := k) hlen hlt
        have hf := hown.free hlen k
        have hs := hown.stored hlen k ((k0 : Int) + (k : Int))
        have hqq : (k0 : Int) + (k : Int) = (q : Int) := by omega
        rw [mkL_set (k0 : Int) l k (by omega), hqq] at hs
        have hgr2 : w.grownBy (wr.setCell ⟨g, k, none⟩ (.int .i64 (q : Int))) (some g) := ⟨hgr.os, hgr.tape, hgr.output, by simpa using hgr.size, fun j hj hne => (heap_setCell_other _ _ j _ (fun e => hne (by simp [e]))).trans (hgr.block j hj hne)⟩
        have hb2 := hb.setCell (p := ⟨g, k, none⟩) hg (.int .i64 (q : Int))
        have HQ := Lib.hid hq
        clear hown hgr hb hN hlen hq hqq
        generalize (mkL (k0 : Int) k ++ l.drop k).getD k 0 = old at *
        go_wp2
        go_roundw
        case rel => exact ⟨k + 1, q + 1, by omega, by have := HQ.out; omega, by go_num, by go_num, hs, hgr2, hb2⟩
        case measure => simp [intOf]; omega
      · obtain rfl : k = n := by omega
        rw [List.drop_eq_nil_of_le (by omega), List.append_nil] at hown
        subst hq
        clear hN hlen
        go_wp2
        go_ret
        exact ⟨rfl, hown, hgr, hb⟩
theorem heldIntsK_any (v : Value) (k0 n : Nat) (w : World) (h : IntsIn w v (mkL (k0 : Int) n)) (hl : n ≤ 1048576) (hk0 : k0 ≤ 4000000) :
    Calls Try.prog 81 #[v, .int .i64 (k0 : Int)] w fun e w' => e = .returned (.int .i64 ((k0 + n : Nat) : Int)) ∧ w = w' := by
  obtain ⟨A, n', cap, rfl, hn, hA⟩ := h
  rw [mkL_length] at hn
  subst hn
  have hnm : (n : Int) ≤ 1048576 := by omega
  have hk1 : (k0 : Int) ≤ 4000000 := by omega
  rcases Nat.eq_zero_or_pos n with h0 | h0
  · subst h0
    clear hA
    go_enter Try.func81, Try.ntmps81
    go_wp2
    go_loop [1, 5] (fun u i => u = .int .i64 (k0 : Int) ∧ i = .int .i64 0) (fun _ _ => 0)
    case atStart => exact ⟨rfl, rfl⟩
    case round =>
      obtain ⟨rfl, rfl⟩ := hrel
      go_wp2
      go_ret
      exact ⟨rfl, rfl⟩
  · obtain ⟨b, off, rfl, hbl, hx⟩ := hA h0
    have HX := Lib.hid hx
    clear hA hx h0
    go_enter Try.func81, Try.ntmps81
    go_wp2
    go_loop [1, 5] (fun u i => ∃ k q : Nat, k ≤ n ∧ q = k0 + k ∧ i = .int .i64 k ∧ u = .int .i64 (q : Int)) (fun _ i => n - (intOf i).toNat)
    case atStart => exact ⟨0, k0, by omega, rfl, rfl, rfl⟩
    case round =>
      obtain ⟨k, q, hk, hq, rfl, rfl⟩ := hrel
      by_cases hlt : k < n
      · have hki : (k : Int) < (n : Int) := by omega
        have hqi : (q : Int) ≤ 6000000 := by omega
        have hc := HX.out k hlt
        have hqq : (k0 : Int) + (k : Int) = (q : Int) := by omega
        rw [mkL_at (k0 : Int) hlt, hqq] at hc
        have HQ := Lib.hid hq
        clear hq hqq
        have hxx : ((q : Int) != (q : Int)) = false := by simp
        go_wp2
        go_round
        case rel => exact ⟨k + 1, q + 1, by omega, by have := HQ.out; omega, by go_num, by go_num⟩
        case measure => simp [intOf]; omega
      · obtain rfl : k = n := by omega
        subst hq
        go_wp2
        go_ret
        exact ⟨rfl, rfl⟩
def MarkPostBK (B : Nat) (v : Value) (k0 n : Nat) (w : World) (e : Ending) (w' : World) : Prop := e = .returned (.int .i64 ((k0 + n : Nat) : Int)) ∧ BoolsOwn w' B v (mkB k0 n) ∧ w.grownBy w' v.ownBlock ∧ Below B w w'
theorem markBoolsK_any (B : Nat) (v : Value) (l : List Bool) (k0 : Nat) (w : World) (h : BoolsOwn w B v l) (hl : l.length ≤ 1048576) (hk0 : k0 ≤ 4000000) :
    Calls Try.prog 80 #[v, .int .i64 (k0 : Int)] w (MarkPostBK B v k0 l.length w) := by
  rcases h.shape with ⟨rfl, rfl⟩ | ⟨g, cap, rfl, hg, hgl⟩
  · go_enter Try.func80, Try.ntmps80
    go_wp2
    go_loop [1, 5] (fun u i => u = .int .i64 (k0 : Int) ∧ i = .int .i64 0) (fun _ _ => 0)
    case atStart => exact ⟨rfl, rfl⟩
    case round =>
      obtain ⟨rfl, rfl⟩ := hrel
      go_wp2
      go_ret
      exact ⟨rfl, h, ⟨rfl, rfl, rfl, Nat.le_refl _, fun _ _ _ => rfl⟩, Below.refl _ _⟩
  · obtain ⟨n, hn⟩ : ∃ n, n = l.length := ⟨_, rfl⟩
    rw [← hn] at h hl ⊢
    have hnm : (n : Int) ≤ 1048576 := by omega
    have hk1 : (k0 : Int) ≤ 4000000 := by omega
    have H := Lib.hid h
    have HN := Lib.hid hn
    clear h hn
    go_enter Try.func80, Try.ntmps80
    go_wp2
    go_loopw [1, 5] (fun u i wr => ∃ k q : Nat, k ≤ n ∧ q = k0 + k ∧ i = .int .i64 k ∧ u = .int .i64 (q : Int) ∧ BoolsOwn wr B (.slice (some ⟨g, 0, none⟩) n cap) (mkB k0 k ++ l.drop k) ∧ w.grownBy wr (some g) ∧ Below B w wr) (fun _ i _ => n - (intOf i).toNat)
    case atStart => exact ⟨0, k0, by omega, rfl, rfl, rfl, H.out, ⟨rfl, rfl, rfl, Nat.le_refl _, fun _ _ _ => rfl⟩, Below.refl _ _⟩
    case round =>
      obtain ⟨k, q, hk, hq, rfl, rfl, hown, hgr, hb⟩ := hrel
      have hN := HN.out
      have hlen : (mkB k0 k ++ l.drop k).length = n := by simp [mkB_length]; omega
      by_cases hlt : k < n
      · have hki : (k : Int) < (n : Int) := by omega
        have hqi : (q : Int) ≤ 6000000 := by omega
        have hc := hown.cell (j := k) hlen hlt
        have hf := hown.free hlen k
        have hs := hown.stored hlen k (decide ((k0 + k) % 3 = 0))
        rw [mkB_set k0 l k (by omega), ← hq, ← beqB q] at hs
        have hgr2 : w.grownBy (wr.setCell ⟨g, k, none⟩ (.bool ((q : Int) % 3 == 0))) (some g) := ⟨hgr.os, hgr.tape, hgr.output, by simpa using hgr.size, fun j hj hne => (heap_setCell_other _ _ j _ (fun e => hne (by simp [e]))).trans (hgr.block j hj hne)⟩
        have hb2 := hb.setCell (p := ⟨g, k, none⟩) hg (.bool ((q : Int) % 3 == 0))
        have HQ := Lib.hid hq
        clear hown hgr hb hN hlen hq
        generalize (mkB k0 k ++ l.drop k).getD k false = old at *
        go_wp2
        go_roundw
        case rel => exact ⟨k + 1, q + 1, by omega, by have := HQ.out; omega, by go_num, by go_num, hs, hgr2, hb2⟩
        case measure => simp [intOf]; omega
      · obtain rfl : k = n := by omega
        rw [List.drop_eq_nil_of_le (by omega), List.append_nil] at hown
        subst hq
        clear hN hlen
        go_wp2
        go_ret
        exact ⟨rfl, hown, hgr, hb⟩
theorem heldBoolsK_any (v : Value) (k0 n : Nat) (w : World) (h : BoolsIn w v (mkB k0 n)) (hl : n ≤ 1048576) (hk0 : k0 ≤ 4000000) :
    Calls Try.prog 82 #[v, .int .i64 (k0 : Int)] w fun e w' => e = .returned (.int .i64 ((k0 + n : Nat) : Int)) ∧ w = w' := by
  obtain ⟨A, n', cap, rfl, hn, hA⟩ := h
  rw [mkB_length] at hn
  subst hn
  have hnm : (n : Int) ≤ 1048576 := by omega
  have hk1 : (k0 : Int) ≤ 4000000 := by omega
  rcases Nat.eq_zero_or_pos n with h0 | h0
  · subst h0
    clear hA
    go_enter Try.func82, Try.ntmps82
    go_wp2
    go_loop [1, 5] (fun u i => u = .int .i64 (k0 : Int) ∧ i = .int .i64 0) (fun _ _ => 0)
    case atStart => exact ⟨rfl, rfl⟩
    case round =>
      obtain ⟨rfl, rfl⟩ := hrel
      go_wp2
      go_ret
      exact ⟨rfl, rfl⟩
  · obtain ⟨b, off, rfl, hbl, hx⟩ := hA h0
    have HX := Lib.hid hx
    clear hA hx h0
    go_enter Try.func82, Try.ntmps82
    go_wp2
    go_loop [1, 5] (fun u i => ∃ k q : Nat, k ≤ n ∧ q = k0 + k ∧ i = .int .i64 k ∧ u = .int .i64 (q : Int)) (fun _ i => n - (intOf i).toNat)
    case atStart => exact ⟨0, k0, by omega, rfl, rfl, rfl⟩
    case round =>
      obtain ⟨k, q, hk, hq, rfl, rfl⟩ := hrel
      by_cases hlt : k < n
      · have hki : (k : Int) < (n : Int) := by omega
        have hqi : (q : Int) ≤ 6000000 := by omega
        have hc := HX.out k hlt
        rw [mkB_at k0 hlt, ← hq, ← beqB q] at hc
        have HQ := Lib.hid hq
        clear hq
        generalize hz : ((q : Int) % 3 == 0) = z at *
        have hxx : (z != z) = false := by simp
        go_wp2
        go_round
        case rel => exact ⟨k + 1, q + 1, by omega, by have := HQ.out; omega, by go_num, by go_num⟩
        case measure => simp [intOf]; omega
      · obtain rfl : k = n := by omega
        subst hq
        go_wp2
        go_ret
        exact ⟨rfl, rfl⟩
end Go.Proofs.Ytgamoiagpglcmaa
