/-
  So many bytes 0, byte by byte. Lemmas for the laws above; no statement is proved here.
-/
import Derived.Test.YtkbnoebhckngaaaDoorZeroN
import Derived.Test.YtkbnoebhckngaaaDoorXorN
namespace Go.Proofs.YtkbnoebhckngaaaDoor
open Go.RowKit
set_option linter.unusedVariables false
set_option maxRecDepth 100000

theorem zerosB_at (n i : Nat) : atB (zerosB n) i = 0 := by
  rw [atB, zerosB, List.toList_toArray, List.getD, List.getElem?_replicate]; split <;> rfl
end Go.Proofs.YtkbnoebhckngaaaDoor
