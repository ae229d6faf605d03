/-
  Lemmas for the law above, joined into one text (PicErr). No statement is proved here.
-/
import Derived.Test.YtjhflcgphejddaaDoorTG12
import Derived.Test.YtjhflcgphejddaaDoorTG36
namespace Go.Proofs.YtjhflcgphejddaaDoor
open Go.RowKit
set_option linter.unusedVariables false
set_option maxRecDepth 100000

theorem errIs_N (k : Nat) : ErrIs (k : Int) (errN k) := by
  by_cases h : k = 0
  · subst h; exact Or.inl ⟨rfl, rfl⟩
  · exact Or.inr (errN_pos h)

end Go.Proofs.YtjhflcgphejddaaDoor
