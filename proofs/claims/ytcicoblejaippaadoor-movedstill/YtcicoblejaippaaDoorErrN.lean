/-
  An error that stands for a number. No function is walked, and no statement is proved here.
-/
import Derived.Test.YtcicoblejaippaaDoorBase
namespace Go.Proofs.YtcicoblejaippaaDoor
open Go.RowKit
set_option linter.unusedVariables false
set_option maxRecDepth 100000

/-- The error that stands for the number x: none for 0. -/
def ErrIs (x : Int) (err : Value) : Prop := (x = 0 ∧ err = .nilIface) ∨ err = .iface 54 (.int .i64 x)
end Go.Proofs.YtcicoblejaippaaDoor
