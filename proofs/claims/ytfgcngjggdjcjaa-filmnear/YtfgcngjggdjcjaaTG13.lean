/-
  Lemmas for the law above, joined into one text (PicV, MvO, PicG). No statement is proved here.
-/
import Derived.Test.YtfgcngjggdjcjaaTG6
namespace Go.Proofs.Ytfgcngjggdjcjaa
open Go.RowKit
set_option linter.unusedVariables false
set_option maxRecDepth 100000

/-- A block that holds a Move. -/
def MoveIn (w : World) (b : Nat) (x y : Int) : Prop := w.cell? ⟨b, 0, none⟩ = some (.int .i64 x) ∧ w.cell? ⟨b, 1, none⟩ = some (.int .i64 y)
theorem moveIn_new (w : World) (x y : Int) : MoveIn (w.alloc (.cells #[.int .i64 x, .int .i64 y] 34)) w.heap.size x y := ⟨by simp, by simp⟩
theorem MoveIn.below {w w' : World} {b : Nat} {x y : Int} (h : MoveIn w b x y) (hb : Below w.heap.size w w') : MoveIn w' b x y := ⟨cell_below hb h.1, cell_below hb h.2⟩
theorem MoveIn.mono {w w' : World} {B b : Nat} {x y : Int} (h : MoveIn w b x y) (hb : Below B w w') (hlt : b < B) : MoveIn w' b x y := ⟨(hb.cell hlt).trans h.1, (hb.cell hlt).trans h.2⟩
theorem MoveIn.setOther {w : World} {b b2 o : Nat} {x y : Int} (h : MoveIn w b x y) (hne : b ≠ b2) (u : Value) : MoveIn (w.setCell ⟨b2, o, none⟩ u) b x y := by
  refine ⟨?_, ?_⟩
  · rw [World.cell?_setCell_other _ _ _ _ (fun e => hne (by cases e; rfl))]; exact h.1
  · rw [World.cell?_setCell_other _ _ _ _ (fun e => hne (by cases e; rfl))]; exact h.2
end Go.Proofs.Ytfgcngjggdjcjaa

namespace Go.Proofs.Ytfgcngjggdjcjaa
open Go.RowKit
set_option linter.unusedVariables false
set_option maxRecDepth 100000

/-- A block that holds a Move, none of it frozen. -/
structure MvIn (w : World) (b : Nat) (x y : Int) : Prop where
  c0 : w.cell? ⟨b, 0, none⟩ = some (.int .i64 x)
  c1 : w.cell? ⟨b, 1, none⟩ = some (.int .i64 y)
  g0 : w.frozen? ⟨b, 0, none⟩ = false
  g1 : w.frozen? ⟨b, 1, none⟩ = false
theorem mvIn_new (w : World) (x y : Int) : MvIn (w.alloc (.cells #[.int .i64 x, .int .i64 y] 34)) w.heap.size x y :=
  ⟨by simp, by simp, by simp only [World.frozen?, (MapKept.heap_alloc w _).1]; simp, by simp only [World.frozen?, (MapKept.heap_alloc w _).1]; simp⟩
theorem MvIn.lt {w : World} {b : Nat} {x y : Int} (h : MvIn w b x y) : b < w.heap.size := cell_lt h.c0
theorem MvIn.mono {w w' : World} {B b : Nat} {x y : Int} (h : MvIn w b x y) (hb : Below B w w') (hlt : b < B) : MvIn w' b x y :=
  ⟨(hb.cell hlt).trans h.c0, (hb.cell hlt).trans h.c1, (hb.frozen hlt).trans h.g0, (hb.frozen hlt).trans h.g1⟩
theorem MvIn.below {w w' : World} {b : Nat} {x y : Int} (h : MvIn w b x y) (hb : Below w.heap.size w w') : MvIn w' b x y := h.mono hb h.lt
theorem MvIn.setOther {w : World} {b b2 o : Nat} {x y : Int} (h : MvIn w b x y) (hne : b ≠ b2) (u : Value) : MvIn (w.setCell ⟨b2, o, none⟩ u) b x y := by
  refine ⟨?_, ?_, by rw [World.frozen?_setCell]; exact h.g0, by rw [World.frozen?_setCell]; exact h.g1⟩
  · rw [World.cell?_setCell_other _ _ _ _ (fun e => hne (by cases e; rfl))]; exact h.c0
  · rw [World.cell?_setCell_other _ _ _ _ (fun e => hne (by cases e; rfl))]; exact h.c1
theorem MvIn.put {w : World} {b : Nat} {x y : Int} (h : MvIn w b x y) (x' y' : Int) : MvIn ((w.setCell ⟨b, 0, none⟩ (.int .i64 x')).setCell ⟨b, 1, none⟩ (.int .i64 y')) b x' y' := by
  have n01 : (⟨b, 0, none⟩ : Addr) ≠ ⟨b, 1, none⟩ := fun e => by cases e
  refine ⟨?_, ?_, by rw [World.frozen?_setCell, World.frozen?_setCell]; exact h.g0, by rw [World.frozen?_setCell, World.frozen?_setCell]; exact h.g1⟩
  · rw [World.cell?_setCell_other _ _ _ _ (by first | exact n01 | exact n01.symm), World.cell?_setCell_same _ _ _ h.c0]
  · have e1 : (w.setCell ⟨b, 0, none⟩ (.int .i64 x')).cell? ⟨b, 1, none⟩ = some (.int .i64 y) := by
      rw [World.cell?_setCell_other _ _ _ _ (by first | exact n01 | exact n01.symm)]; exact h.c1
    exact World.cell?_setCell_same _ _ _ e1
end Go.Proofs.Ytfgcngjggdjcjaa

namespace Go.Proofs.Ytfgcngjggdjcjaa
open Go.RowKit
set_option linter.unusedVariables false
set_option maxRecDepth 100000

theorem pfar_ok (n : Int) (w : World) : Calls Try.prog 44 #[.int .i64 n] w fun e w' => e = .returned (.bool (farOk n)) ∧ w = w' := by
  rcases Int.lt_or_le n (-6) with h | h
  · go_enter Try.func44, Try.ntmps44
    go_wp2
    go_ret
    exact ⟨ret_bool (farOk_not.2 (Or.inl h)).symm, rfl⟩
  · rcases Int.lt_or_le 6 n with k | k
    · go_enter Try.func44, Try.ntmps44
      go_wp2
      go_ret
      exact ⟨ret_bool (by first | exact (farOk_not.2 (Or.inr k)).symm | (rw [Bool.eq_iff_iff, farOk_iff, decide_eq_true_iff]; omega)), rfl⟩
    · go_enter Try.func44, Try.ntmps44
      go_wp2
      go_ret
      exact ⟨ret_bool (farOk_iff.2 ⟨h, k⟩).symm, rfl⟩
end Go.Proofs.Ytfgcngjggdjcjaa
