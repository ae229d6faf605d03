/-
  Lemmas for the law above, joined into one text (RcV, U8, BmR, PicB). No statement is proved here.
-/
import Derived.Test.YtjhflcgphejddaaDoorHG3
import Derived.Test.YtjhflcgphejddaaDoorHG4
import Derived.Test.YtjhflcgphejddaaDoorHG0
import Derived.Laws.OwnMore
import Derived.Deep.AppendLies
import Derived.Lib.SmallJoins
namespace Go.Proofs.YtjhflcgphejddaaDoor
open Go.RowKit
set_option linter.unusedVariables false
set_option maxRecDepth 100000

/-- Numbers as a row holds them. -/
def encI (l : List Int) : List Value := l.map fun b => .int .i64 b
theorem encI_nil : encI [] = [] := rfl
theorem encI_snoc (l : List Int) (b : Int) : encI (l ++ [b]) = encI l ++ [.int .i64 b] := by simp [encI]
theorem encI_len (l : List Int) : (encI l).length = l.length := by simp [encI]
theorem encI_range (l : List Int) : encI l = (List.range l.length).map fun k : Nat => .int .i64 (l.getD k 0) := by
  apply List.ext_getElem
  · simp [encI]
  · intro i h1 h2
    simp [encI] at h1 ⊢
    simp [h1]
theorem rowV_in {w : World} {B n : Nat} {v : Value} {l : List Int} (h : w.ownsRow B 3 1 v n (encI l)) (hn : n = l.length) : IntsIn w v n (fun k => l.getD k 0) := by
  rw [encI_range] at h
  subst hn
  exact own_in h
theorem rowV_slice {w : World} {B n : Nat} {v : Value} {xs : List Value} (h : w.ownsRow B 3 1 v n xs) : ∃ a cap, v = .slice a n cap := by
  rcases h.2 with ⟨hv, h0⟩ | ⟨g, cap, cur, hv, _⟩
  · exact ⟨none, 0, by rw [h0]; exact hv⟩
  · exact ⟨_, cap, hv⟩
end Go.Proofs.YtjhflcgphejddaaDoor

namespace Go.Proofs.YtjhflcgphejddaaDoor
open Go.RowKit
set_option linter.unusedVariables false
set_option maxRecDepth 100000

theorem Tryd.infoU8 : (Tryd.prog.info? 5).map (fun i => (i.zero, i.size, i.bytes)) = some (some (.int .u8 0), 1, 1) := by kernel_rfl
end Go.Proofs.YtjhflcgphejddaaDoor

namespace Go.Proofs.YtjhflcgphejddaaDoor
open Go.RowKit
set_option linter.unusedVariables false
set_option maxRecDepth 100000

/-- Some bytes as values. -/
def encU (n : Nat) (f : Nat → UInt8) : List Value := (List.range n).map fun i => .int .u8 ((f i).toNat : Int)
theorem encU_snoc (n : Nat) (f : Nat → UInt8) : encU (n + 1) f = encU n f ++ [.int .u8 ((f n).toNat : Int)] := by simp [encU, List.range_succ]
theorem encU_len (n : Nat) (f : Nat → UInt8) : (encU n f).length = n := by simp [encU]
theorem encU_row {w : World} {B n cap g : Nat} {f : Nat → UInt8} (h : w.ownsRow B 5 1 (.slice (some ⟨g, 0, none⟩) n cap) n (encU n f)) : BRow w g n f := fun i hi => by
  refine ⟨?_, h.frozenAt i⟩
  rw [h.cellAt i (by omega)]
  simp [encU, hi]
/-- A literal of some cells is a row that is owned. -/
theorem own_lit (w : World) {B : Nat} {e : TypeId} (cur : Array Value) (hB : B ≤ w.heap.size) (hm : cur.size ≤ maxLen) : (w.alloc (.cells cur e)).ownsRow B e 1 (.slice (some ⟨w.heap.size, 0, none⟩) cur.size cur.size) cur.size cur.toList := by
  refine ⟨by simp, .inr ⟨w.heap.size, cur.size, cur, rfl, hB, heap_alloc_new w _, Nat.le_refl _, hm, by omega, ?_⟩⟩
  rw [Nat.mul_one, List.take_of_length_le (by simp)]
end Go.Proofs.YtjhflcgphejddaaDoor

namespace Go.Proofs.YtjhflcgphejddaaDoor
open Go.RowKit
set_option linter.unusedVariables false
set_option maxRecDepth 100000

/-- A block that holds a Picture, none of it frozen. -/
def PicIn (w : World) (b : Nat) (x y : Int) (s : Value) : Prop :=
  (w.cell? ⟨b, 0, none⟩ = some (.int .i64 x) ∧ w.frozen? ⟨b, 0, none⟩ = false) ∧ (w.cell? ⟨b, 1, none⟩ = some (.int .i64 y) ∧ w.frozen? ⟨b, 1, none⟩ = false) ∧ w.cell? ⟨b, 2, none⟩ = some s ∧ w.frozen? ⟨b, 2, none⟩ = false
theorem picIn_new (w : World) (x y : Int) (s : Value) : PicIn (w.alloc (.cells #[.int .i64 x, .int .i64 y, s] 46)) w.heap.size x y s :=
  ⟨⟨by simp, by simp only [World.frozen?, (MapKept.heap_alloc w _).1]; simp⟩, ⟨by simp, by simp only [World.frozen?, (MapKept.heap_alloc w _).1]; simp⟩, by simp, by simp only [World.frozen?, (MapKept.heap_alloc w _).1]; simp⟩
theorem PicIn.lt {w : World} {b : Nat} {x y : Int} {s : Value} (h : PicIn w b x y s) : b < w.heap.size := cell_lt h.1.1
theorem PicIn.below {w w' : World} {b : Nat} {x y : Int} {s : Value} (h : PicIn w b x y s) (hb : Below w.heap.size w w') : PicIn w' b x y s :=
  ⟨⟨(hb.cell h.lt).trans h.1.1, (hb.frozen h.lt).trans h.1.2⟩, ⟨(hb.cell h.lt).trans h.2.1.1, (hb.frozen h.lt).trans h.2.1.2⟩, (hb.cell h.lt).trans h.2.2.1, (hb.frozen h.lt).trans h.2.2.2⟩
end Go.Proofs.YtjhflcgphejddaaDoor
