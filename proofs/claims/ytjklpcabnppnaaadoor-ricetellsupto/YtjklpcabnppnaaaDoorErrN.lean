/-
  An error that stands for a number. No function is walked, and no statement is proved here.
-/
import Derived.Test.YtjklpcabnppnaaaDoorBase
namespace Go.Proofs.YtjklpcabnppnaaaDoor
open Go.RowKit
set_option linter.unusedVariables false
set_option maxRecDepth 100000

/-- The error that stands for the number x: none for 0. -/
def ErrIs (x : Int) (err : Value) : Prop := (x = 0 ∧ err = .nilIface) ∨ err = .iface 40 (.int .i64 x)
end Go.Proofs.YtjklpcabnppnaaaDoor
