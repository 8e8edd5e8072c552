/- The law FnExactValidFault, walked: every call by its contract. -/
import Derived.Test.YtikdmkfngdihhadProg
import Derived.Test.YtikdmkfngdihhadVfS
import Derived.Test.YtikdmkfngdihhadVfI
import Derived.Test.YtikdmkfngdihhadFtM
import Derived.Deep.RegionHeld3
namespace Go.Proofs.Ytikdmkfngdihhad
open Go.RowKit
set_option linter.unusedVariables false
/-- What is known while the law runs: its two variables, and that nothing elder has turned. -/
structure TwoVf (w : World) (d b p k B P T : Int) (W : World) : Prop where
  g : Rw W w.heap.size 23 #[.int .i64 d, .int .i64 b, .int .i64 p]
  x : Rw W (w.heap.size + 1) 25 #[.int .i64 k, .int .i64 B, .int .i64 P, .int .i64 T]
  bel : Below w.heap.size w W
theorem TwoVf.next {w W W' : World} {d b p k B P T : Int} (h : TwoVf w d b p k B P T W) (hb : Below W.heap.size W W') : TwoVf w d b p k B P T W' :=
  ⟨h.g.below hb h.g.lt, h.x.below hb h.x.lt, h.bel.trans (hb.mono h.bel.size)⟩
theorem TwoVf.drew {w W : World} {d b p k B P T : Int} (h : TwoVf w d b p k B P T W) : TwoVf w d b p k B P T W.drew := ⟨h.g, h.x, h.bel.drew⟩
theorem TwoVf.keep {w W : World} {d b p k B P T : Int} (h : TwoVf w d b p k B P T W) : W.cell? ⟨w.heap.size, 0, none⟩ = some (.int .i64 d) ∧ W.cell? ⟨w.heap.size, 1, none⟩ = some (.int .i64 b) ∧ W.cell? ⟨w.heap.size, 2, none⟩ = some (.int .i64 p) ∧ W.cell? ⟨w.heap.size + 1, 0, none⟩ = some (.int .i64 k) ∧ W.cell? ⟨w.heap.size + 1, 1, none⟩ = some (.int .i64 B) ∧ W.cell? ⟨w.heap.size + 1, 2, none⟩ = some (.int .i64 P) ∧ W.cell? ⟨w.heap.size + 1, 3, none⟩ = some (.int .i64 T) ∧ Below w.heap.size w W := by
  obtain ⟨c0, c1, c2⟩ := h.g.three
  obtain ⟨d0, d1, d2, d3⟩ := h.x.four
  exact ⟨c0, c1, c2, d0, d1, d2, d3, h.bel⟩
set_option maxHeartbeats 4000000 in
set_option maxRecDepth 100000 in
theorem wkVft (d b p k B P T : Int) (w : World) (wB : WfJ B) (wP : WfJ P) (wT : WfJ T) : Calls Try.prog 3 #[.agg #[.int .i64 d, .int .i64 b, .int .i64 p], .agg #[.int .i64 k, .int .i64 B, .int .i64 P, .int .i64 T]] w fun e w' => e = .returned (.bool true) ∧ Below w.heap.size w w' := by
  obtain ⟨r, hr⟩ := prop_dec' (FtOk d b p ⟨k, B, P, T⟩)
  have HS := Lib.hid (fun (W : World) => specVf_any d b p k B P T r W hr)
  have HI := Lib.hid (fun (W : World) => implVf_any d b p k B P T r W hr wB wP wT)
  have hxx : (r != r) = false := by simp
  obtain ⟨r0, r1, b0⟩ := Rw.two_new w 23 25 #[.int .i64 d, .int .i64 b, .int .i64 p] #[.int .i64 k, .int .i64 B, .int .i64 P, .int .i64 T]
  have TT0 := Lib.hid (show TwoVf w d b p k B P T _ from ⟨r0, r1, b0⟩)
  clear hr wB wP wT r0 r1 b0
  go_enter Try.func3, Try.ntmps3
  go_wp2_with fail
  have q0 := TT0.out.drew
  have k0 := q0.keep
  go_region_held3 (fun W => W.cell? ⟨w.heap.size, 0, none⟩ = some (.int .i64 d) ∧ W.cell? ⟨w.heap.size, 1, none⟩ = some (.int .i64 b) ∧ W.cell? ⟨w.heap.size, 2, none⟩ = some (.int .i64 p) ∧ W.cell? ⟨w.heap.size + 1, 0, none⟩ = some (.int .i64 k) ∧ W.cell? ⟨w.heap.size + 1, 1, none⟩ = some (.int .i64 B) ∧ W.cell? ⟨w.heap.size + 1, 2, none⟩ = some (.int .i64 P) ∧ W.cell? ⟨w.heap.size + 1, 3, none⟩ = some (.int .i64 T) ∧ Below w.heap.size w W)
    (first
      | with_reducible exact k0
      | with_reducible exact k1
      | with_reducible exact k2
      | with_reducible exact k3)
    (first
      | (go_at_call 9
         refine (toGeometry_any d b p _).mono ?_
         rintro e w1 ⟨rfl, b1⟩
         have q1 := q0.next b1
         have k1 := q1.keep
         clear b1)
      | (go_at_call 10
         refine (toFault_any k B P T _).mono ?_
         rintro e w2 ⟨rfl, b1⟩
         have q2 := q1.next b1
         have k2 := q2.keep
         clear b1)
      | (go_at_call 8
         refine (HS.out _).mono ?_
         rintro e w3 ⟨rfl, b1⟩
         have q3 := q2.next b1
         have k3 := q3.keep
         clear b1))
  have TT3 := Lib.hid q3
  clear q0 q1 q2 q3 k0 k1 k2 k3 TT0
  go_wp2_with fail
  have q3 := TT3.out.drew
  have k3 := q3.keep
  go_region_held3 (fun W => W.cell? ⟨w.heap.size, 0, none⟩ = some (.int .i64 d) ∧ W.cell? ⟨w.heap.size, 1, none⟩ = some (.int .i64 b) ∧ W.cell? ⟨w.heap.size, 2, none⟩ = some (.int .i64 p) ∧ W.cell? ⟨w.heap.size + 1, 0, none⟩ = some (.int .i64 k) ∧ W.cell? ⟨w.heap.size + 1, 1, none⟩ = some (.int .i64 B) ∧ W.cell? ⟨w.heap.size + 1, 2, none⟩ = some (.int .i64 P) ∧ W.cell? ⟨w.heap.size + 1, 3, none⟩ = some (.int .i64 T) ∧ Below w.heap.size w W)
    (first
      | with_reducible exact k3
      | with_reducible exact k4
      | with_reducible exact k5
      | with_reducible exact k6)
    (first
      | (go_at_call 9
         refine (toGeometry_any d b p _).mono ?_
         rintro e w4 ⟨rfl, b1⟩
         have q4 := q3.next b1
         have k4 := q4.keep
         clear b1)
      | (go_at_call 10
         refine (toFault_any k B P T _).mono ?_
         rintro e w5 ⟨rfl, b1⟩
         have q5 := q4.next b1
         have k5 := q5.keep
         clear b1)
      | (go_at_call 11
         refine (HI.out _).mono ?_
         rintro e w6 ⟨rfl, b1⟩
         have q6 := q5.next b1
         have k6 := q6.keep
         clear b1))
  have TT6 := Lib.hid q6
  clear q3 q4 q5 q6 k3 k4 k5 k6 TT3
  go_wp2
  go_ret
  exact ⟨rfl, TT6.out.bel⟩
end Go.Proofs.Ytikdmkfngdihhad
