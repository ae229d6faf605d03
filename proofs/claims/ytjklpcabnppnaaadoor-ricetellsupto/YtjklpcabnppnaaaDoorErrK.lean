/-
  The error of a number, nil for 0. No function is walked, and no statement is proved here.
-/
import Derived.Test.YtjklpcabnppnaaaDoorBase
namespace Go.Proofs.YtjklpcabnppnaaaDoor
open Go.RowKit
set_option linter.unusedVariables false
set_option maxRecDepth 100000

/-- The error that stands for a number: nil for 0. -/
def errN (f : Nat) : Value := if f = 0 then .nilIface else .iface 40 (.int .i64 f)
theorem errN_pos {k : Nat} (h : k ≠ 0) : errN k = .iface 40 (.int .i64 k) := by unfold errN; rw [if_neg h]
theorem errN_zero : errN 0 = .nilIface := rfl
theorem errN_one : errN 1 = .iface 40 (.int .i64 1) := rfl
theorem errN_three : errN 3 = .iface 40 (.int .i64 3) := rfl
end Go.Proofs.YtjklpcabnppnaaaDoor
