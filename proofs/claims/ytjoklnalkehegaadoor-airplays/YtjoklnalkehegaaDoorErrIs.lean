/-
  What dropsame.Error says of an error that stands for a number, over this seat's translation. Lemmas for the laws above; no statement is proved here.
-/
import Derived.Test.YtjoklnalkehegaaDoorTold
namespace Go.Proofs.YtjoklnalkehegaaDoor
open Go.RowKit
set_option linter.unusedVariables false
set_option maxRecDepth 100000

/-- The error that stands for the number x: none for 0. -/
def ErrIs (x : Int) (err : Value) : Prop := (x = 0 ∧ err = .nilIface) ∨ err = .iface 48 (.int .i64 x)
theorem error_right (x : Int) (err : Value) (w : World) (hg : HasErr w) (h : ErrIs x err) :
    Calls Tryd.prog 10 #[err, .int .i64 x] w fun e w' => e = .returned (.bool true) ∧ Below w.heap.size w w' := by
  rcases h with ⟨rfl, rfl⟩ | rfl
  · exact (error_nil 0 w).mono fun e w' ⟨he, hw⟩ => ⟨he, hw ▸ Below.refl _ _⟩
  · exact (error_hit x x w hg).mono fun e w' ⟨he, hb⟩ => ⟨by rw [he]; simp, hb⟩
end Go.Proofs.YtjoklnalkehegaaDoor
