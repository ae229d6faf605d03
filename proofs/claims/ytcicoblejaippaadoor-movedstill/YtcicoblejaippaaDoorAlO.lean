/-
  Which numbers are a step, a rest, rests. No function is walked, and no statement is proved here.
-/
import Derived.Test.YtcicoblejaippaaDoorAlN
namespace Go.Proofs.YtcicoblejaippaaDoor
set_option linter.unusedVariables false
set_option maxRecDepth 100000

def stepOk (n : Int) : Bool := decide (1 ≤ n) && decide (n ≤ 64)
def restOk (n : Int) : Bool := decide (-255 ≤ n) && decide (n ≤ 255)
theorem stepOk_iff {n : Int} : stepOk n = true ↔ 1 ≤ n ∧ n ≤ 64 := by simp [stepOk]
theorem stepOk_not {n : Int} : stepOk n = false ↔ n < 1 ∨ 64 < n := by rw [← Bool.not_eq_true, stepOk_iff]; omega
theorem restOk_iff {n : Int} : restOk n = true ↔ -255 ≤ n ∧ n ≤ 255 := by simp [restOk]
theorem restOk_not {n : Int} : restOk n = false ↔ n < -255 ∨ 255 < n := by rw [← Bool.not_eq_true, restOk_iff]; omega

def restsOk (n : Nat) (f : Nat → Int) : Bool := (List.range n).all fun i => decide (-255 ≤ f i) && decide (f i ≤ 255)
theorem restsOk_iff {n : Nat} {f : Nat → Int} : restsOk n f = true ↔ ∀ i, i < n → -255 ≤ f i ∧ f i ≤ 255 := by
  simp [restsOk]
end Go.Proofs.YtcicoblejaippaaDoor
