/- The source of choices and rows of memory, kept through calls and stores. -/
import Derived.Test.YtgkanacaijlljabProg
import Derived.Test.YtgkanacaijlljabPick
import Derived.Test.YtgkanacaijlljabFlM
import Derived.Test.YtgkanacaijlljabRw
namespace Go.Proofs.Ytgkanacaijlljab
open Go.RowKit
set_option linter.unusedVariables false
theorem grown_out {w w' : World} {g g' k : Nat} (h : w.grownBy w' (some g)) (hg : w.heap.size ≤ g') (u : Value) : w.grownBy (w'.setCell ⟨g', k, none⟩ u) (some g) :=
  ⟨h.os, h.tape, h.output, by simpa using h.size, fun j hj hr => (Below.heap_setCell w' ⟨g', k, none⟩ u j (by show j ≠ g'; omega)).trans (h.block j hj hr)⟩
theorem Src.keepS {w w' : World} {B g n : Nat} (h : Src w B g n) (hs : Same 0 (g + 1) w w') (hz : w.heap.size ≤ w'.heap.size) : Src w' B g n := by
  have hlt := h.lt
  obtain ⟨v, a, s, h1, h2, h3, h4⟩ := h
  exact ⟨v, a, s, (hs g (Nat.zero_le _) (Nat.lt_succ_self _)).trans h1, h2, h3.keep fun b hb' => hs b (Nat.zero_le _) (by omega), h4⟩
theorem Rw.grown {w w' : World} {g g' : Nat} {t : TypeId} {cs : Array Value} (h : Rw w g' t cs) (hg : w.grownBy w' (some g)) (hne : g' ≠ g) : Rw w' g' t cs :=
  (hg.block g' h.lt (fun e => hne (by injection e))).trans h
end Go.Proofs.Ytgkanacaijlljab
