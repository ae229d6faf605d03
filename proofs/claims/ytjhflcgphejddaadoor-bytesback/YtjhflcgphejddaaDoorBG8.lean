/-
  Lemmas for the law above, joined into one text (BmR, PicB, PicX). No statement is proved here.
-/
import Derived.Test.YtjhflcgphejddaaDoorBG6
import Derived.Test.YtjhflcgphejddaaDoorBG7
import Derived.Laws.OwnMore
import Derived.Deep.AppendLies
import Derived.Lib.SmallJoins
import Derived.Test.YtjhflcgphejddaaDoorBG0
namespace Go.Proofs.YtjhflcgphejddaaDoor
open Go.RowKit
set_option linter.unusedVariables false
set_option maxRecDepth 100000

/-- Some bytes as values. -/
def encU (n : Nat) (f : Nat → UInt8) : List Value := (List.range n).map fun i => .int .u8 ((f i).toNat : Int)
theorem encU_snoc (n : Nat) (f : Nat → UInt8) : encU (n + 1) f = encU n f ++ [.int .u8 ((f n).toNat : Int)] := by simp [encU, List.range_succ]
theorem encU_len (n : Nat) (f : Nat → UInt8) : (encU n f).length = n := by simp [encU]
theorem encU_row {w : World} {B n cap g : Nat} {f : Nat → UInt8} (h : w.ownsRow B 5 1 (.slice (some ⟨g, 0, none⟩) n cap) n (encU n f)) : BRow w g n f := fun i hi => by
  refine ⟨?_, h.frozenAt i⟩
  rw [h.cellAt i (by omega)]
  simp [encU, hi]
/-- A literal of some cells is a row that is owned. -/
theorem own_lit (w : World) {B : Nat} {e : TypeId} (cur : Array Value) (hB : B ≤ w.heap.size) (hm : cur.size ≤ maxLen) : (w.alloc (.cells cur e)).ownsRow B e 1 (.slice (some ⟨w.heap.size, 0, none⟩) cur.size cur.size) cur.size cur.toList := by
  refine ⟨by simp, .inr ⟨w.heap.size, cur.size, cur, rfl, hB, heap_alloc_new w _, Nat.le_refl _, hm, by omega, ?_⟩⟩
  rw [Nat.mul_one, List.take_of_length_le (by simp)]
end Go.Proofs.YtjhflcgphejddaaDoor

namespace Go.Proofs.YtjhflcgphejddaaDoor
open Go.RowKit
set_option linter.unusedVariables false
set_option maxRecDepth 100000

/-- A block that holds a Picture, none of it frozen. -/
def PicIn (w : World) (b : Nat) (x y : Int) (s : Value) : Prop :=
  (w.cell? ⟨b, 0, none⟩ = some (.int .i64 x) ∧ w.frozen? ⟨b, 0, none⟩ = false) ∧ (w.cell? ⟨b, 1, none⟩ = some (.int .i64 y) ∧ w.frozen? ⟨b, 1, none⟩ = false) ∧ w.cell? ⟨b, 2, none⟩ = some s ∧ w.frozen? ⟨b, 2, none⟩ = false
theorem picIn_new (w : World) (x y : Int) (s : Value) : PicIn (w.alloc (.cells #[.int .i64 x, .int .i64 y, s] 46)) w.heap.size x y s :=
  ⟨⟨by simp, by simp only [World.frozen?, (MapKept.heap_alloc w _).1]; simp⟩, ⟨by simp, by simp only [World.frozen?, (MapKept.heap_alloc w _).1]; simp⟩, by simp, by simp only [World.frozen?, (MapKept.heap_alloc w _).1]; simp⟩
theorem PicIn.lt {w : World} {b : Nat} {x y : Int} {s : Value} (h : PicIn w b x y s) : b < w.heap.size := cell_lt h.1.1
theorem PicIn.below {w w' : World} {b : Nat} {x y : Int} {s : Value} (h : PicIn w b x y s) (hb : Below w.heap.size w w') : PicIn w' b x y s :=
  ⟨⟨(hb.cell h.lt).trans h.1.1, (hb.frozen h.lt).trans h.1.2⟩, ⟨(hb.cell h.lt).trans h.2.1.1, (hb.frozen h.lt).trans h.2.1.2⟩, (hb.cell h.lt).trans h.2.2.1, (hb.frozen h.lt).trans h.2.2.2⟩
end Go.Proofs.YtjhflcgphejddaaDoor

namespace Go.Proofs.YtjhflcgphejddaaDoor
open Go.RowKit
set_option linter.unusedVariables false
set_option maxRecDepth 100000

theorem PicIn.mono {w w' : World} {B b : Nat} {x y : Int} {s : Value} (h : PicIn w b x y s) (hb : Below B w w') (hlt : b < B) : PicIn w' b x y s :=
  ⟨⟨(hb.cell hlt).trans h.1.1, (hb.frozen hlt).trans h.1.2⟩, ⟨(hb.cell hlt).trans h.2.1.1, (hb.frozen hlt).trans h.2.1.2⟩, (hb.cell hlt).trans h.2.2.1, (hb.frozen hlt).trans h.2.2.2⟩
theorem PicIn.setOther {w : World} {b b2 o : Nat} {x y : Int} {s : Value} (h : PicIn w b x y s) (hne : b ≠ b2) (u : Value) : PicIn (w.setCell ⟨b2, o, none⟩ u) b x y s := by
  obtain ⟨⟨c0, g0⟩, ⟨c1, g1⟩, c2, g2⟩ := h
  refine ⟨⟨?_, by rw [World.frozen?_setCell]; exact g0⟩, ⟨?_, by rw [World.frozen?_setCell]; exact g1⟩, ?_, by rw [World.frozen?_setCell]; exact g2⟩
  · rw [World.cell?_setCell_other _ _ _ _ (fun e => hne (by cases e; rfl))]; exact c0
  · rw [World.cell?_setCell_other _ _ _ _ (fun e => hne (by cases e; rfl))]; exact c1
  · rw [World.cell?_setCell_other _ _ _ _ (fun e => hne (by cases e; rfl))]; exact c2
theorem PicIn.setPix {w : World} {b : Nat} {x y : Int} {s : Value} (h : PicIn w b x y s) (u : Value) : PicIn (w.setCell ⟨b, 2, none⟩ u) b x y u := by
  obtain ⟨⟨c0, g0⟩, ⟨c1, g1⟩, c2, g2⟩ := h
  refine ⟨⟨?_, by rw [World.frozen?_setCell]; exact g0⟩, ⟨?_, by rw [World.frozen?_setCell]; exact g1⟩, ?_, by rw [World.frozen?_setCell]; exact g2⟩
  · rw [World.cell?_setCell_other _ _ _ _ (fun e => by cases e)]; exact c0
  · rw [World.cell?_setCell_other _ _ _ _ (fun e => by cases e)]; exact c1
  · rw [World.cell?_setCell_same _ _ _ c2]

theorem PicIn.put {w : World} {k : Nat} {x y : Int} {s : Value} (h : PicIn w k x y s) (x' y' : Int) (s' : Value) :
    PicIn (((w.setCell ⟨k, 0, none⟩ (.int .i64 x')).setCell ⟨k, 1, none⟩ (.int .i64 y')).setCell ⟨k, 2, none⟩ s') k x' y' s' := by
  obtain ⟨⟨c0, g0⟩, ⟨c1, g1⟩, c2, g2⟩ := h
  have n01 : (⟨k, 0, none⟩ : Addr) ≠ ⟨k, 1, none⟩ := fun e => by cases e
  have n02 : (⟨k, 0, none⟩ : Addr) ≠ ⟨k, 2, none⟩ := fun e => by cases e
  have n12 : (⟨k, 1, none⟩ : Addr) ≠ ⟨k, 2, none⟩ := fun e => by cases e
  refine ⟨⟨?_, by rw [World.frozen?_setCell, World.frozen?_setCell, World.frozen?_setCell]; exact g0⟩, ⟨?_, by rw [World.frozen?_setCell, World.frozen?_setCell, World.frozen?_setCell]; exact g1⟩, ?_, by rw [World.frozen?_setCell, World.frozen?_setCell, World.frozen?_setCell]; exact g2⟩
  · rw [World.cell?_setCell_other _ _ _ _ (by first | exact n02 | exact n02.symm), World.cell?_setCell_other _ _ _ _ (by first | exact n01 | exact n01.symm), World.cell?_setCell_same _ _ _ c0]
  · rw [World.cell?_setCell_other _ _ _ _ (by first | exact n12 | exact n12.symm)]
    have e1 : (w.setCell ⟨k, 0, none⟩ (.int .i64 x')).cell? ⟨k, 1, none⟩ = some (.int .i64 y) := by
      rw [World.cell?_setCell_other _ _ _ _ (by first | exact n01 | exact n01.symm)]; exact c1
    exact World.cell?_setCell_same _ _ _ e1
  · have e2 : ((w.setCell ⟨k, 0, none⟩ (.int .i64 x')).setCell ⟨k, 1, none⟩ (.int .i64 y')).cell? ⟨k, 2, none⟩ = some s := by
      rw [World.cell?_setCell_other _ _ _ _ (by first | exact n12 | exact n12.symm), World.cell?_setCell_other _ _ _ _ (by first | exact n02 | exact n02.symm)]; exact c2
    exact World.cell?_setCell_same _ _ _ e2

theorem slice_shape {w : World} {v : Value} {n : Nat} {f : Nat → Int} (h : IntsIn w v n f) : ∃ ad cap, v = .slice ad n cap := by
  rcases h with ⟨rfl, a, c, rfl⟩ | ⟨_, b, o, c, rfl, _⟩
  · exact ⟨_, _, rfl⟩
  · exact ⟨_, _, rfl⟩

end Go.Proofs.YtjhflcgphejddaaDoor
