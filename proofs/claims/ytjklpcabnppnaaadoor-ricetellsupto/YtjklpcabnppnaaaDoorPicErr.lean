/-
  The error of a number is the error of that number. A lemma for the laws above; no statement is proved here.
-/
import Derived.Test.YtjklpcabnppnaaaDoorErrK
import Derived.Test.YtjklpcabnppnaaaDoorErrN
namespace Go.Proofs.YtjklpcabnppnaaaDoor
open Go.RowKit
set_option linter.unusedVariables false
set_option maxRecDepth 100000

theorem errIs_N (k : Nat) : ErrIs (k : Int) (errN k) := by
  by_cases h : k = 0
  · subst h; exact Or.inl ⟨rfl, rfl⟩
  · exact Or.inr (errN_pos h)

end Go.Proofs.YtjklpcabnppnaaaDoor
