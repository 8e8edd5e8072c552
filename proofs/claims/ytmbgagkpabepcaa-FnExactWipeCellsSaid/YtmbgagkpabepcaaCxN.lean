/- Memory cells as plain data: what is valid, what an erase leaves. No program in it. -/
import Derived.Test.YtmbgagkpabepcaaCeN
namespace Go.Proofs.Ytmbgagkpabepcaa
open Go.RowKit
set_option linter.unusedVariables false
/-- One charge is in its bounds. -/
def ChOk (c : List Int) (i : Nat) : Prop := 0 ≤ c.getD i 0 ∧ c.getD i 0 ≤ 255
def CeOk (M : Ce) : Prop := M.c.length ≤ 64 ∧ ∀ i, i < M.c.length → ChOk M.c i
def eraC (M : Ce) : Ce := ⟨M.c.map (· / 4)⟩
def eraE (M : Ce) (r : Bool) : Ce := bif r then eraC M else Ce.zero
theorem eraE_sz {M : Ce} {r : Bool} (z : CeSz M) : CeSz (eraE M r) := by
  unfold CeSz at z ⊢
  cases r
  · simp [eraE, Ce.zero]
  · simpa [eraE, eraC] using z
/-- Two charges differ. -/
def Leaks (M : Ce) : Prop := ∃ i, i < M.c.length ∧ M.c.getD i 0 ≠ M.c.getD 0 0
end Go.Proofs.Ytmbgagkpabepcaa
