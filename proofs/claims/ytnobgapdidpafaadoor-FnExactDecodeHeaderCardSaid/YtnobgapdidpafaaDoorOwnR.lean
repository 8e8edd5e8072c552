/- A region that draws its order, walked once in the order of the text, at a class of worlds of one's own choice (say: these cells are as they were, and the elder blocks too): its calls may make memory, if what they hand back is the same in every world of the class. A law over any program. -/
import Derived.BigQuiet
namespace Go.Proofs.YtnobgapdidpafaaDoor
set_option linter.unusedVariables false
theorem wp_region_own {P : Program} {C : World → Prop} {id : Nat} {Q : Exit → Act → World → Prop} {a : Act} {w : World} {l : List Oper} (hm : P.follows .mixedOrders = true) (hB : Region.lexB .any l.toArray = true) (hC : C w.drew)
    (h : wpQuiet P l.toArray C (fun a' => ∀ w', C w' → Q .normal a' w') l a) : (Code.region id l.toArray true).wp P Q a w :=
  wp_region_quiet hm hB hC (by simpa using h)
end Go.Proofs.YtnobgapdidpafaaDoor
