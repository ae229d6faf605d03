/-
  A move as it lies in a block. Lemmas for the laws above; no statement is proved here.
-/
import Derived.Test.YtcicoblejaippaaDoorPicX
namespace Go.Proofs.YtcicoblejaippaaDoor
open Go.RowKit
set_option linter.unusedVariables false
set_option maxRecDepth 100000

/-- A block that holds a Move. -/
def MoveIn (w : World) (b : Nat) (x y : Int) : Prop := w.cell? ⟨b, 0, none⟩ = some (.int .i64 x) ∧ w.cell? ⟨b, 1, none⟩ = some (.int .i64 y)
theorem moveIn_new (w : World) (x y : Int) : MoveIn (w.alloc (.cells #[.int .i64 x, .int .i64 y] 26)) w.heap.size x y := ⟨by simp, by simp⟩
theorem MoveIn.below {w w' : World} {b : Nat} {x y : Int} (h : MoveIn w b x y) (hb : Below w.heap.size w w') : MoveIn w' b x y := ⟨cell_below hb h.1, cell_below hb h.2⟩
theorem MoveIn.mono {w w' : World} {B b : Nat} {x y : Int} (h : MoveIn w b x y) (hb : Below B w w') (hlt : b < B) : MoveIn w' b x y := ⟨(hb.cell hlt).trans h.1, (hb.cell hlt).trans h.2⟩
theorem MoveIn.setOther {w : World} {b b2 o : Nat} {x y : Int} (h : MoveIn w b x y) (hne : b ≠ b2) (u : Value) : MoveIn (w.setCell ⟨b2, o, none⟩ u) b x y := by
  refine ⟨?_, ?_⟩
  · rw [World.cell?_setCell_other _ _ _ _ (fun e => hne (by cases e; rfl))]; exact h.1
  · rw [World.cell?_setCell_other _ _ _ _ (fun e => hne (by cases e; rfl))]; exact h.2
end Go.Proofs.YtcicoblejaippaaDoor
