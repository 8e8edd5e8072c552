/- Plain data: BlockStat. -/
import Derived.Test.YtgkanacaijlljabTbN
namespace Go.Proofs.Ytgkanacaijlljab
open Go.RowKit
set_option linter.unusedVariables false
structure St where
  l : Int
  a : Int
  u : Bool
def St.zero : St := ⟨0, 0, false⟩
instance : Inhabited St := ⟨St.zero⟩
def stF (x : St) : List Value := [.int .i64 x.l, .int .i64 x.a, .bool x.u]
theorem stF_len (x : St) : (stF x).length = 3 := rfl
end Go.Proofs.Ytgkanacaijlljab
