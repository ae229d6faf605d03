/-
  A picture as it lies in a block. Lemmas for the laws above; no statement is proved here.
-/
import Derived.Test.YtcicoblejaippaaDoorBase
namespace Go.Proofs.YtcicoblejaippaaDoor
open Go.RowKit
set_option linter.unusedVariables false
set_option maxRecDepth 100000

/-- A block that holds a Picture, none of it frozen. -/
def PicIn (w : World) (b : Nat) (x y : Int) (s : Value) : Prop :=
  (w.cell? ⟨b, 0, none⟩ = some (.int .i64 x) ∧ w.frozen? ⟨b, 0, none⟩ = false) ∧ (w.cell? ⟨b, 1, none⟩ = some (.int .i64 y) ∧ w.frozen? ⟨b, 1, none⟩ = false) ∧ w.cell? ⟨b, 2, none⟩ = some s ∧ w.frozen? ⟨b, 2, none⟩ = false
theorem picIn_new (w : World) (x y : Int) (s : Value) : PicIn (w.alloc (.cells #[.int .i64 x, .int .i64 y, s] 24)) w.heap.size x y s :=
  ⟨⟨by simp, by simp only [World.frozen?, (MapKept.heap_alloc w _).1]; simp⟩, ⟨by simp, by simp only [World.frozen?, (MapKept.heap_alloc w _).1]; simp⟩, by simp, by simp only [World.frozen?, (MapKept.heap_alloc w _).1]; simp⟩
theorem PicIn.lt {w : World} {b : Nat} {x y : Int} {s : Value} (h : PicIn w b x y s) : b < w.heap.size := cell_lt h.1.1
theorem PicIn.below {w w' : World} {b : Nat} {x y : Int} {s : Value} (h : PicIn w b x y s) (hb : Below w.heap.size w w') : PicIn w' b x y s :=
  ⟨⟨(hb.cell h.lt).trans h.1.1, (hb.frozen h.lt).trans h.1.2⟩, ⟨(hb.cell h.lt).trans h.2.1.1, (hb.frozen h.lt).trans h.2.1.2⟩, (hb.cell h.lt).trans h.2.2.1, (hb.frozen h.lt).trans h.2.2.2⟩
end Go.Proofs.YtcicoblejaippaaDoor
