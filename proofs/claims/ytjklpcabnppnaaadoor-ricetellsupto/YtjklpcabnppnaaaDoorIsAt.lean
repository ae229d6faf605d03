/-
  What IndexFunc tells: where one is found, or that none is. No function is walked, and no statement is proved here.
-/
import Derived.Test.YtjklpcabnppnaaaDoorBase
namespace Go.Proofs.YtjklpcabnppnaaaDoor
open Go.RowKit
set_option linter.unusedVariables false
set_option maxRecDepth 100000

/-- Where a first one is found, or that none is. -/
def IsAt (q : Nat → Bool) (n : Nat) (i : Int) : Prop := (i = -1 ∧ ∀ j, j < n → q j = false) ∨ ∃ j : Nat, i = j ∧ j < n ∧ q j = true
end Go.Proofs.YtjklpcabnppnaaaDoor
