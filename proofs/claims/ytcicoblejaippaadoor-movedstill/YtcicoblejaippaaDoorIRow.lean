/-
  A row of numbers made by make, stored into. Lemmas for the laws above; no statement is proved here.
-/
import Derived.Test.YtcicoblejaippaaDoorOwn
namespace Go.Proofs.YtcicoblejaippaaDoor
open Go.RowKit
set_option linter.unusedVariables false
set_option maxRecDepth 100000

/-- A block whose first n cells are the numbers f 0, f 1, .., none of them frozen. -/
def IRow (w : World) (b n : Nat) (f : Nat → Int) : Prop :=
  ∀ i, i < n → w.cell? ⟨b, i, none⟩ = some (.int .i64 (f i)) ∧ w.frozen? ⟨b, i, none⟩ = false
theorem IRow.congr {w : World} {b n : Nat} {f g : Nat → Int} (h : IRow w b n f) (e : ∀ i, i < n → f i = g i) : IRow w b n g := fun i hi => by rw [← e i hi]; exact h i hi
theorem IRow.set {w : World} {b n : Nat} {f : Nat → Int} (h : IRow w b n f) (j : Nat) (v : Int) : IRow (w.setCell ⟨b, j, none⟩ (.int .i64 v)) b n (fun i => if i = j then v else f i) := fun i hi => by
  refine ⟨?_, by rw [World.frozen?_setCell]; exact (h i hi).2⟩
  have hc := (h i hi).1
  by_cases e : i = j
  · subst e
    rw [World.cell?_setCell_same _ _ _ hc]; simp
  · rw [World.cell?_setCell_other _ _ _ _ (fun h => e (by cases h; rfl))]; simp only [if_neg e]; exact hc

theorem irow_zero {w : World} {b n : Nat} {t : TypeId} (h : w.rowIs b t n (fun _ => .int .i64 0)) : IRow w b n (fun _ => 0) := fun i hi => ⟨h.cell hi, h.frozen i⟩
end Go.Proofs.YtcicoblejaippaaDoor
