/- Decoding a codeword, in the model: the contracts. -/
import Derived.Test.YteigdjocjcjkiaaDoorProg
import Derived.Test.YteigdjocjcjkiaaDoorDecN
import Derived.Test.YteigdjocjcjkiaaDoorEccS
import Derived.Test.YteigdjocjcjkiaaDoorFlipS
namespace Go.Proofs.YteigdjocjcjkiaaDoor
open Go.RowKit

theorem syn_ret (X S P : Nat) (w : World) (hX : X < 2 ^ 72) (hS : synN X = S) (hP : parN X = P) :
    Calls Tryd.prog 24 #[.string (wStr (lo X)), .int .i64 (hi X : Nat)] w fun e w' => e = .returned (.tuple #[.int .i64 S, .int .i64 P]) ∧ w = w' := by
  subst hS; subst hP; exact l03Syndrome_any X w hX
end Go.Proofs.YteigdjocjcjkiaaDoor
