/- The model's source of choices: reading a byte, picking a number, making a text. Only that each returns, within its bounds, is said. -/
import Derived.Test.YtbdfdkhkamonpaaProg
import Derived.Test.YtbdfdkhkamonpaaBytes
import Derived.Test.YtbdfdkhkamonpaaArg
import Derived.Deep.QuietTactic
import Derived.BigQuiet
namespace Go.Proofs.Ytbdfdkhkamonpaa
open Go.RowKit

section
variable {w w' : World} {g at_ : Nat} {v : Value} {seed : Int}
theorem grown_two (w : World) (g : Nat) (x y : Value) (i j : Nat) : w.grownBy ((w.setCell ⟨g, i, none⟩ x).setCell ⟨g, j, none⟩ y) (some g) :=
  ⟨rfl, rfl, rfl, by simp, fun k _ hk => by
    rw [heap_setCell_other _ _ k _ (fun e => hk (by simp [e])), heap_setCell_other _ _ k _ (fun e => hk (by simp [e]))]⟩
theorem grown_twoN (w : World) (g p q : Nat) (x y : Value) (i j : Nat) : w.grownBy ((((w.drewN p).setCell ⟨g, i, none⟩ x).setCell ⟨g, j, none⟩ y).drewN q) (some g) :=
  ⟨rfl, rfl, rfl, (grown_two w g x y i j).size, (grown_two w g x y i j).block⟩
theorem grown_drew {row : Option Nat} (h : w.grownBy w' row) : w.grownBy w'.drew row := ⟨h.os, h.tape, h.output, h.size, h.block⟩
theorem grown_trans {w'' : World} {row : Option Nat} (h : w.grownBy w' row) (h' : w'.grownBy w'' row) : w.grownBy w'' row :=
  ⟨h'.os.trans h.os, h'.tape.trans h.tape, h'.output.trans h.output, Nat.le_trans h.size h'.size, fun k hk hr => (h'.block k (Nat.lt_of_lt_of_le hk h.size) hr).trans (h.block k hk hr)⟩
end
theorem and255_u64 (x : Int) : 0 ≤ bits .and .u64 x 255 ∧ bits .and .u64 x 255 ≤ 255 := by
  have h : (BitVec.ofInt 64 x &&& BitVec.ofInt 64 255).toNat ≤ 255 := by
    rw [BitVec.toNat_and]
    exact Nat.le_trans Nat.and_le_right (by decide)
  have e : bits .and .u64 x 255 = IntKind.u64.wrap ((BitVec.ofInt 64 x &&& BitVec.ofInt 64 255).toNat : Int) := rfl
  rw [e]
  have : IntKind.u64.wrap ((BitVec.ofInt 64 x &&& BitVec.ofInt 64 255).toNat : Int) = ((BitVec.ofInt 64 x &&& BitVec.ofInt 64 255).toNat : Int) % 18446744073709551616 := rfl
  omega

theorem and255_wrap (x : Int) : 0 ≤ wrap64 (bits .and .u64 x 255) ∧ wrap64 (bits .and .u64 x 255) ≤ 255 := by
  have h := and255_u64 x
  rw [IntWalk.wrap64_in _ (by omega)]; exact h

def IntIn (lo hi : Int) (v : Value) : Prop := ∃ x : Int, v = .int .i64 x ∧ lo ≤ x ∧ x ≤ hi

end Go.Proofs.Ytbdfdkhkamonpaa
