/-
  The error of a number is the error of that number. A lemma for the laws above; no statement is proved here.
-/
import Derived.Test.YtcicoblejaippaaDoorPicE
import Derived.Test.YtcicoblejaippaaDoorErrN
namespace Go.Proofs.YtcicoblejaippaaDoor
open Go.RowKit
set_option linter.unusedVariables false
set_option maxRecDepth 100000

theorem errIs_N (k : Nat) : ErrIs (k : Int) (errN k) := by
  by_cases h : k = 0
  · subst h; exact Or.inl ⟨rfl, rfl⟩
  · exact Or.inr (errN_pos h)

end Go.Proofs.YtcicoblejaippaaDoor
