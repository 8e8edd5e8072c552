/- The model's draw for GreedyVictim. -/
import Derived.Test.YtgkanacaijlljabProg
import Derived.Test.YtgkanacaijlljabDrSt
namespace Go.Proofs.Ytgkanacaijlljab
open Go.RowKit
set_option linter.unusedVariables false
set_option linter.unusedSimpArgs false
set_option maxRecDepth 100000 in
theorem drawGr_any (v : Value) (w : World) (h : CodeIs w w.heap.size v) : Calls Try.prog 39 #[v] w fun e w' => ∃ (u : Value) (L : List St) (p : Int), e = .returned (.tuple #[u, .int .i64 p]) ∧ StI w' w'.heap.size u L ∧ L.length ≤ 9 ∧ Below w.heap.size w w' := by
  have HC := Lib.hid (l00From_any w v h)
  obtain ⟨A, len, cap, rfl, -⟩ := id h
  clear h
  go_enter Try.func39, Try.ntmps39
  go_wp2_with fail
  refine HC.out.mono ?_
  rintro e w1 ⟨rfl, hS, b1⟩
  have B1 := Lib.hid b1
  have S1 := Lib.hid hS
  clear b1 hS
  go_wp2_with fail
  refine (drawSt_any _ _ _ S1.out).mono ?_
  rintro e w2 ⟨u, L, p, rfl, ho, hl, hg⟩
  have B2 := Lib.hid (B1.out.trans ((Below.refl w.heap.size w1).grown hg B1.out.size (fun j hj => by injection hj with hj; omega)))
  have HO := Lib.hid (VOwn.reads ho)
  clear ho hg
  go_wp2
  go_ret2
  exact ⟨u, L, p, rfl, HO.out, hl, B2.out⟩
end Go.Proofs.Ytgkanacaijlljab
