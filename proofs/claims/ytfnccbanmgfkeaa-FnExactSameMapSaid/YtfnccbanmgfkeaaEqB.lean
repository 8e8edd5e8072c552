/- Lists of bools compared in the program: the contract. -/
import Derived.Test.YtfnccbanmgfkeaaProg
import Derived.Test.YtfnccbanmgfkeaaEqI
import Derived.Test.YtfnccbanmgfkeaaBoo
import Derived.BigQuiet
import Derived.Deep.QuietTactic
namespace Go.Proofs.Ytfnccbanmgfkeaa
open Go.RowKit
set_option linter.unusedVariables false
set_option maxHeartbeats 1000000 in
set_option maxRecDepth 100000 in
theorem slEqB_any (u v : Value) (L M : List Bool) (r : Bool) (w : World) (hi hi' : Nat) (hu : NB w hi u L) (hv : NB w hi' v M) (h1 : hi ≤ w.heap.size) (h2 : hi' ≤ w.heap.size) (hr : r = true ↔ L = M) (hl : L.length ≤ 1048576) (hl' : M.length ≤ 1048576) :
    Calls Try.prog 65 #[u, v] w fun e w' => e = .returned (.bool r) ∧ Below w.heap.size w w' := by
  obtain ⟨A, n, cp, rfl, hn1, hn2, hn3, hc⟩ := hu
  obtain ⟨A', n', cp', rfl, hm1, hm2, hm3, hc'⟩ := hv
  by_cases h : n = n'
  case neg =>
    obtain rfl : r = false := not_true hr (fun e => h (by rw [← hn3, ← hm3, e]))
    have n4 : ((n : Int) != (n' : Int)) = true := cast_ne h
    clear hc hc' hr h
    go_enter Try.func65, Try.ntmps65
    go_wp2
    go_ret
    exact ⟨rfl, Below.refl _ _⟩
  subst h
  have n4 : ((n : Int) != (n : Int)) = false := by simp
  have HR := Lib.hid hr
  have HL := Lib.hid (show L.length = n ∧ M.length = n from ⟨hn3, hm3⟩)
  have HC := Lib.hid hc
  have HC' := Lib.hid hc'
  have HH := Lib.hid (And.intro h1 h2)
  have hnm : (n : Int) ≤ 1048576 := by omega
  clear hc hc' hr hl hl' hn1 hn2 hn3 hm1 hm2 hm3 h1 h2
  go_enter Try.func65, Try.ntmps65
  go_wp2
  go_loopw [13] (fun i wr => ∃ k : Nat, k ≤ n ∧ i = .int .i64 k ∧ (∀ j, j < k → L.getD j false = M.getD j false) ∧ Below w.heap.size w wr) (fun i _ => n - (intOf i).toNat)
  case atStart => exact ⟨0, by omega, rfl, fun j hj => by omega, Below.refl _ _⟩
  case round =>
    obtain ⟨k, hk, rfl, hal, hb⟩ := hrel
    have HAL := Lib.hid hal
    have HBB := Lib.hid hb
    clear hal hb
    by_cases hlt : k < n
    · have hki : (k : Int) < (n : Int) := by omega
      obtain ⟨pb, po, rfl, hp2, hpx⟩ := HC.out (by omega)
      obtain ⟨pb', po', rfl, hp2', hpx'⟩ := HC'.out (by omega)
      have e1 := (HBB.out.cell (p := ⟨pb, po + k, none⟩) (by have := HH.out; show pb < _; omega)).trans (hpx k hlt)
      have e2 := (HBB.out.cell (p := ⟨pb', po' + k, none⟩) (by have := HH.out; show pb' < _; omega)).trans (hpx' k hlt)
      clear hpx hpx' hp2 hp2' HC HC' HH
      by_cases he : L.getD k false = M.getD k false
      · have HE := Lib.hid he
        rw [he] at e1
        clear he
        generalize hz : M.getD k false = z at *
        have hs : (z != z) = false := by simp
        go_wp2_with fail
        go_quiet (fail)
        go_wp2
        go_roundw
        case rel => exact ⟨k + 1, by omega, by go_num, fun j hj => by
          by_cases e : j = k
          · subst e; exact HE.out.trans hz.symm
          · exact HAL.out j (by omega), below_drewN HBB.out _⟩
        case measure => simp [intOf]; omega
      · have hs : (L.getD k false != M.getD k false) = true := by simpa using he
        obtain rfl : r = false := not_true HR.out (fun e => he (by rw [e]))
        clear HR he
        generalize L.getD k false = z at *
        generalize M.getD k false = z' at *
        have hs2 : (!z == z') = true := by cases z <;> cases z' <;> simp_all
        go_wp2_with fail
        go_quiet (fail)
        go_wp2
        go_ret
        exact ⟨rfl, below_drewN HBB.out _⟩
    · obtain rfl : k = n := by omega
      have hf : r = true := HR.out.2 (list_same (d := false) (by have := HL.out; omega) fun i hi => HAL.out i (by have := HL.out; omega))
      subst hf
      clear HR
      go_wp2
      go_ret
      exact ⟨rfl, HBB.out⟩
end Go.Proofs.Ytfnccbanmgfkeaa
