/-
  A region that draws its order and holds calls that only grow the memory: the worlds that lie above one world, as a family. Lemmas for the laws above; no statement is proved here.
-/
import Derived.Test.YtopibfbpecjgbaaDoorBase
import Derived.Deep.QuietTactic
import Derived.BigQuiet
namespace Go.Proofs.YtopibfbpecjgbaaDoor
open Go.RowKit
set_option linter.unusedVariables false
set_option maxRecDepth 100000

/-- F runs through the worlds that are w below its size. -/
structure Fam (w : World) {ι : Type} (F : ι → World) : Prop where
  above : ∀ i, Below w.heap.size w (F i)
  all : ∀ w', Below w.heap.size w w' → ∃ i, w' = F i
  ne : Nonempty ι
theorem fam_some (w : World) : ∃ (ι : Type) (F : ι → World), Fam w F := ⟨{ w' // Below w.heap.size w w' }, Subtype.val, fun i => i.2, fun w' h => ⟨⟨w', h⟩, rfl⟩, ⟨⟨w, Below.refl _ _⟩⟩⟩
theorem Fam.cell {w : World} {ι : Type} {F : ι → World} (h : Fam w F) {a : Addr} {v : Value} (hc : w.cell? a = some v) : ∀ i, (F i).cell? a = some v := fun i => cell_below (h.above i) hc
theorem Fam.call {P : Program} {w : World} {ι : Type} {F : ι → World} (h : Fam w F) {f : FuncId} {args : Array Value} {i : ι} {v : Value}
    (hC : Calls P f args (F i) fun e w' => e = .returned v ∧ Below (F i).heap.size (F i) w') : Calls P f args (F i) fun e w' => e = .returned v ∧ ∃ m, w' = F m :=
  hC.mono fun e w' ⟨he, hb⟩ => ⟨he, h.all w' (below_two (h.above i) hb)⟩
theorem Fam.region {P : Program} {w : World} {ι : Type} {F : ι → World} (hF : Fam w F) {id : Nat} {Q : Exit → Act → World → Prop} {a : Act} {l : List Oper} (hm : P.follows .mixedOrders = true) (hB : Region.lexB .any l.toArray = true)
    (h : wpQuiet P l.toArray (fun w' => ∃ i, w' = F i) (fun a' => ∀ w', (∃ i, w' = F i) → Q .normal a' w') l a) : (Code.region id l.toArray true).wp P Q a w :=
  wp_region_quiet (C := fun w' => ∃ i, w' = F i) hm hB (hF.all _ ⟨rfl, rfl, rfl, Nat.le_refl _, fun _ _ => rfl⟩) (by simpa using h)
end Go.Proofs.YtopibfbpecjgbaaDoor
