/- Lists of integers compared, in the model and in the program: the contracts. -/
import Derived.Test.YtbdfdkhkamonpaaProg
import Derived.Test.YtbdfdkhkamonpaaTbM
import Derived.Test.YtbdfdkhkamonpaaGeo
import Derived.BigQuiet
import Derived.Deep.QuietTactic
namespace Go.Proofs.Ytbdfdkhkamonpaa
open Go.RowKit
set_option linter.unusedVariables false
theorem list_same {α : Type} {d : α} {L M : List α} (hl : L.length = M.length) (h : ∀ i, i < L.length → L.getD i d = M.getD i d) : L = M := by
  refine List.ext_getElem hl fun i h1 h2 => ?_
  have := h i h1
  rw [List.getD_eq_getElem?_getD, List.getD_eq_getElem?_getD, List.getElem?_eq_getElem h1, List.getElem?_eq_getElem h2] at this
  exact this
theorem not_true {r : Bool} {P : Prop} (hr : r = true ↔ P) (h : ¬ P) : r = false := by
  cases r
  · rfl
  · exact absurd (hr.1 rfl) h
theorem below_drewN {B : Nat} {a w : World} (h : Below B a w) (n : Nat) : Below B a (w.drewN n) := ⟨h.os, h.tape, h.output, h.size, h.block⟩
theorem cast_ne {a b : Nat} (h : a ≠ b) : ((a : Int) != (b : Int)) = true := by simp; omega
set_option maxHeartbeats 1000000 in
set_option maxRecDepth 100000 in
theorem specEqI_any (u v : Value) (L M : List Int) (r : Bool) (w : World) (hi hi' : Nat) (hu : NI w hi u L) (hv : NI w hi' v M) (h1 : hi ≤ w.heap.size) (h2 : hi' ≤ w.heap.size) (hr : r = true ↔ L = M) (hl : L.length ≤ 1048576) (hl' : M.length ≤ 1048576) :
    Calls Try.prog 133 #[u, v] w fun e w' => e = .returned (.bool r) ∧ Below w.heap.size w w' := by
  obtain ⟨A, n, cp, rfl, hn1, hn2, hn3, hc⟩ := hu
  obtain ⟨A', n', cp', rfl, hm1, hm2, hm3, hc'⟩ := hv
  by_cases h : n = n'
  case neg =>
    obtain rfl : r = false := not_true hr (fun e => h (by rw [← hn3, ← hm3, e]))
    have n4 : ((n : Int) != (n' : Int)) = true := cast_ne h
    clear hc hc' hr h
    go_enter Try.func133, Try.ntmps133
    go_wp2
    go_ret
    exact ⟨rfl, Below.refl _ _⟩
  subst h
  have n4 : ((n : Int) != (n : Int)) = false := by simp
  have HR := Lib.hid hr
  have HL := Lib.hid (show L.length = n ∧ M.length = n from ⟨hn3, hm3⟩)
  have HC := Lib.hid hc
  have HC' := Lib.hid hc'
  have HH := Lib.hid (And.intro h1 h2)
  have hnm : (n : Int) ≤ 1048576 := by omega
  clear hc hc' hr hl hl' hn1 hn2 hn3 hm1 hm2 hm3 h1 h2
  go_enter Try.func133, Try.ntmps133
  go_wp2
  go_loopw [5] (fun i wr => ∃ k : Nat, k ≤ n ∧ i = .int .i64 k ∧ (∀ j, j < k → L.getD j 0 = M.getD j 0) ∧ Below w.heap.size w wr) (fun i _ => n - (intOf i).toNat)
  case atStart => exact ⟨0, by omega, rfl, fun j hj => by omega, Below.refl _ _⟩
  case round =>
    obtain ⟨k, hk, rfl, hal, hb⟩ := hrel
    have HAL := Lib.hid hal
    have HBB := Lib.hid hb
    clear hal hb
    by_cases hlt : k < n
    · have hki : (k : Int) < (n : Int) := by omega
      obtain ⟨pb, po, rfl, hp2, hpx⟩ := HC.out (by omega)
      obtain ⟨pb', po', rfl, hp2', hpx'⟩ := HC'.out (by omega)
      have e1 := (HBB.out.cell (p := ⟨pb, po + k, none⟩) (by have := HH.out; show pb < _; omega)).trans (hpx k hlt)
      have e2 := (HBB.out.cell (p := ⟨pb', po' + k, none⟩) (by have := HH.out; show pb' < _; omega)).trans (hpx' k hlt)
      clear hpx hpx' hp2 hp2' HC HC' HH
      by_cases he : L.getD k 0 = M.getD k 0
      · have HE := Lib.hid he
        rw [he] at e1
        clear he
        generalize hz : M.getD k 0 = z at *
        have hs : (z != z) = false := by simp
        go_wp2_with fail
        go_quiet (fail)
        go_wp2
        go_roundw
        case rel => exact ⟨k + 1, by omega, by go_num, fun j hj => by
          by_cases e : j = k
          · subst e; exact HE.out.trans hz.symm
          · exact HAL.out j (by omega), below_drewN HBB.out _⟩
        case measure => simp [intOf]; omega
      · have hs : (L.getD k 0 != M.getD k 0) = true := by simpa using he
        obtain rfl : r = false := not_true HR.out (fun e => he (by rw [e]))
        clear HR he
        generalize L.getD k 0 = z at *
        generalize M.getD k 0 = z' at *
        go_wp2_with fail
        go_quiet (fail)
        go_wp2
        go_ret
        exact ⟨rfl, below_drewN HBB.out _⟩
    · obtain rfl : k = n := by omega
      have hf : r = true := HR.out.2 (list_same (d := 0) (by have := HL.out; omega) fun i hi => HAL.out i (by have := HL.out; omega))
      subst hf
      clear HR
      go_wp2
      go_ret
      exact ⟨rfl, HBB.out⟩
set_option maxHeartbeats 1000000 in
set_option maxRecDepth 100000 in
theorem slEqI_any (u v : Value) (L M : List Int) (r : Bool) (w : World) (hi hi' : Nat) (hu : NI w hi u L) (hv : NI w hi' v M) (h1 : hi ≤ w.heap.size) (h2 : hi' ≤ w.heap.size) (hr : r = true ↔ L = M) (hl : L.length ≤ 1048576) (hl' : M.length ≤ 1048576) :
    Calls Try.prog 137 #[u, v] w fun e w' => e = .returned (.bool r) ∧ Below w.heap.size w w' := by
  obtain ⟨A, n, cp, rfl, hn1, hn2, hn3, hc⟩ := hu
  obtain ⟨A', n', cp', rfl, hm1, hm2, hm3, hc'⟩ := hv
  by_cases h : n = n'
  case neg =>
    obtain rfl : r = false := not_true hr (fun e => h (by rw [← hn3, ← hm3, e]))
    have n4 : ((n : Int) != (n' : Int)) = true := cast_ne h
    clear hc hc' hr h
    go_enter Try.func137, Try.ntmps137
    go_wp2
    go_ret
    exact ⟨rfl, Below.refl _ _⟩
  subst h
  have n4 : ((n : Int) != (n : Int)) = false := by simp
  have HR := Lib.hid hr
  have HL := Lib.hid (show L.length = n ∧ M.length = n from ⟨hn3, hm3⟩)
  have HC := Lib.hid hc
  have HC' := Lib.hid hc'
  have HH := Lib.hid (And.intro h1 h2)
  have hnm : (n : Int) ≤ 1048576 := by omega
  clear hc hc' hr hl hl' hn1 hn2 hn3 hm1 hm2 hm3 h1 h2
  go_enter Try.func137, Try.ntmps137
  go_wp2
  go_loopw [13] (fun i wr => ∃ k : Nat, k ≤ n ∧ i = .int .i64 k ∧ (∀ j, j < k → L.getD j 0 = M.getD j 0) ∧ Below w.heap.size w wr) (fun i _ => n - (intOf i).toNat)
  case atStart => exact ⟨0, by omega, rfl, fun j hj => by omega, Below.refl _ _⟩
  case round =>
    obtain ⟨k, hk, rfl, hal, hb⟩ := hrel
    have HAL := Lib.hid hal
    have HBB := Lib.hid hb
    clear hal hb
    by_cases hlt : k < n
    · have hki : (k : Int) < (n : Int) := by omega
      obtain ⟨pb, po, rfl, hp2, hpx⟩ := HC.out (by omega)
      obtain ⟨pb', po', rfl, hp2', hpx'⟩ := HC'.out (by omega)
      have e1 := (HBB.out.cell (p := ⟨pb, po + k, none⟩) (by have := HH.out; show pb < _; omega)).trans (hpx k hlt)
      have e2 := (HBB.out.cell (p := ⟨pb', po' + k, none⟩) (by have := HH.out; show pb' < _; omega)).trans (hpx' k hlt)
      clear hpx hpx' hp2 hp2' HC HC' HH
      by_cases he : L.getD k 0 = M.getD k 0
      · have HE := Lib.hid he
        rw [he] at e1
        clear he
        generalize hz : M.getD k 0 = z at *
        have hs : (z != z) = false := by simp
        go_wp2_with fail
        go_quiet (fail)
        go_wp2
        go_roundw
        case rel => exact ⟨k + 1, by omega, by go_num, fun j hj => by
          by_cases e : j = k
          · subst e; exact HE.out.trans hz.symm
          · exact HAL.out j (by omega), below_drewN HBB.out _⟩
        case measure => simp [intOf]; omega
      · have hs : (L.getD k 0 != M.getD k 0) = true := by simpa using he
        obtain rfl : r = false := not_true HR.out (fun e => he (by rw [e]))
        clear HR he
        generalize L.getD k 0 = z at *
        generalize M.getD k 0 = z' at *
        go_wp2_with fail
        go_quiet (fail)
        go_wp2
        go_ret
        exact ⟨rfl, below_drewN HBB.out _⟩
    · obtain rfl : k = n := by omega
      have hf : r = true := HR.out.2 (list_same (d := 0) (by have := HL.out; omega) fun i hi => HAL.out i (by have := HL.out; omega))
      subst hf
      clear HR
      go_wp2
      go_ret
      exact ⟨rfl, HBB.out⟩
end Go.Proofs.Ytbdfdkhkamonpaa
