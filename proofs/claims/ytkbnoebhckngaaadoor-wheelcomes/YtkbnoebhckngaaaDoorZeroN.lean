/-
  So many bytes 0. Lemmas for the laws above; no statement is proved here.
-/
import Derived.Test.YtkbnoebhckngaaaDoorBase
import Derived.Lib.Strings
namespace Go.Proofs.YtkbnoebhckngaaaDoor
open Go.RowKit
set_option linter.unusedVariables false
set_option maxRecDepth 100000

/-- n bytes 0. -/
def zerosB (n : Nat) : ByteArray := ⟨(List.replicate n 0).toArray⟩
theorem zerosB_size (n : Nat) : (zerosB n).size = n := by rw [Lib.size_eq, zerosB, List.toList_toArray, List.length_replicate]
theorem zerosB_succ (n : Nat) : zerosB n ++ ⟨#[0]⟩ = zerosB (n + 1) := by
  apply ByteArray.ext
  rw [ByteArray.data_append, ← Array.toList_inj, Array.toList_append]
  simp [zerosB, List.replicate_succ']
end Go.Proofs.YtkbnoebhckngaaaDoor
