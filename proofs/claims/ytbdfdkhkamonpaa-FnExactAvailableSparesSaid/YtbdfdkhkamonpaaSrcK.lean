/- The source of choices and rows of memory, kept through calls and stores. -/
import Derived.Test.YtbdfdkhkamonpaaProg
import Derived.Test.YtbdfdkhkamonpaaPick
import Derived.Test.YtbdfdkhkamonpaaFlM
import Derived.Test.YtbdfdkhkamonpaaRw
namespace Go.Proofs.Ytbdfdkhkamonpaa
open Go.RowKit
set_option linter.unusedVariables false
theorem grown_out {w w' : World} {g g' k : Nat} (h : w.grownBy w' (some g)) (hg : w.heap.size ≤ g') (u : Value) : w.grownBy (w'.setCell ⟨g', k, none⟩ u) (some g) :=
  ⟨h.os, h.tape, h.output, by simpa using h.size, fun j hj hr => (Below.heap_setCell w' ⟨g', k, none⟩ u j (by show j ≠ g'; omega)).trans (h.block j hj hr)⟩
theorem Rw.grown {w w' : World} {g g' : Nat} {t : TypeId} {cs : Array Value} (h : Rw w g' t cs) (hg : w.grownBy w' (some g)) (hne : g' ≠ g) : Rw w' g' t cs :=
  (hg.block g' h.lt (fun e => hne (by injection e))).trans h
end Go.Proofs.Ytbdfdkhkamonpaa
