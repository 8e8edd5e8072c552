/- The model's source of choices: picking among numbers, making a text. Only that each returns, within its bounds, is said. -/
import Derived.Test.YtbdfdkhkamonpaaProg
import Derived.Test.YtbdfdkhkamonpaaSrc
namespace Go.Proofs.Ytbdfdkhkamonpaa
open Go.RowKit

/-- The upper bound of a choice below n. -/
def pickMax (n : Int) : Int := if n ≤ 1 then 0 else n - 1
def BoolAny (v : Value) : Prop := ∃ b : Bool, v = .bool b
theorem grown_below {w wr w' : World} {row : Option Nat} (h : w.grownBy wr row) (hb : Below w.heap.size wr w') : w.grownBy w' row :=
  ⟨hb.os.trans h.os, hb.tape.trans h.tape, hb.output.trans h.output, Nat.le_trans h.size hb.size, fun k hk hr => (hb.block k hk).trans (h.block k hk hr)⟩
theorem BytesOwn.grown {w w' : World} {B g : Nat} {v : Value} {l : List Int} (h : BytesOwn w B v l) (hg : w.grownBy w' (some g)) (hgB : g < B) : BytesOwn w' B v l := by
  refine World.ownsRow.kept h hg ?_
  cases e : v.ownBlock with
  | none => exact .inl rfl
  | some k => exact .inr (fun e2 => by injection e2 with e2; have := (World.ownsRow.lt h k e).1; omega)
def StrLe (m : Int) (v : Value) : Prop := ∃ s : ByteArray, v = .string s ∧ (s.size : Int) ≤ m
end Go.Proofs.Ytbdfdkhkamonpaa
