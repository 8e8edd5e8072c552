/- The laws' helpers markPageMap and heldPageMap: their contracts. -/
import Derived.Test.YtgamoiagpglcmaaProg
import Derived.Test.YtgamoiagpglcmaaPmM
namespace Go.Proofs.Ytgamoiagpglcmaa
open Go.RowKit
set_option linter.unusedVariables false
/-- Only blocks from lo up to hi may have turned, and new ones may stand. -/
def Kp (lo hi : Nat) (w w' : World) : Prop := Below lo w w' ∧ Same hi w.heap.size w w'
theorem Kp.size {lo hi : Nat} {w w' : World} (h : Kp lo hi w w') : w.heap.size ≤ w'.heap.size := h.1.size
theorem Kp.call {lo hi : Nat} {w w' w'' : World} (h : Kp lo hi w w') (hb : Below w'.heap.size w' w'') (hl : lo ≤ w.heap.size) : Kp lo hi w w'' :=
  ⟨h.1.trans (hb.mono (by have := h.1.size; omega)), h.2.trans (sm hb hi h.1.size)⟩
theorem Kp.grown {lo hi : Nat} {w w' w'' : World} {row : Option Nat} (h : Kp lo hi w w') (hg : w'.grownBy w'' row) (hb : Below lo w' w'') (hr : ∀ k, row = some k → lo ≤ k ∧ k < hi) : Kp lo hi w w'' :=
  ⟨h.1.trans hb, fun j h1 h2 => (hg.block j (Nat.lt_of_lt_of_le h2 h.1.size) (fun e => by have := (hr j e.symm).2; omega)).trans (h.2 j h1 h2)⟩
def markM (M : Pm) : Pm := ⟨M.b, M.p, mkL 1 M.mp.length, mkB (1 + M.mp.length) M.tr.length⟩
theorem markM_sz {M : Pm} (h : PmSz M) : PmSz (markM M) := by unfold PmSz markM; rw [mkL_length, mkB_length]; exact h
theorem grownRw {w w' : World} {g : Nat} {t : TypeId} {cs : Array Value} {row : Option Nat} (h : Rw w g t cs) (hg : w.grownBy w' row) (hne : some g ≠ row) : Rw w' g t cs := (hg.block g h.lt hne).trans h
theorem own_ne {a b : Option Nat} (h : a = none ∨ a ≠ b) : b = none ∨ b ≠ a := by
  cases b with
  | none => exact .inl rfl
  | some x => rcases h with rfl | h; exact .inr (by simp); exact .inr (fun e => h e.symm)
theorem heldIntsB_any (v : Value) (n : Nat) (w : World) (h : IntsIn w v (mkL 1 n)) (hl : n ≤ 1048576) :
    Calls Try.prog 81 #[v, .int .i64 1] w fun e w' => e = .returned (.int .i64 (1 + (n : Int))) ∧ Below w.heap.size w w' :=
  (heldInts_any v n w h hl).mono fun e w' q => ⟨q.1, by rw [← q.2]; exact Below.refl _ _⟩
end Go.Proofs.Ytgamoiagpglcmaa
