/-
  Lemmas for the law above, joined into one text (PicX, PicV, CodB, RcB). No statement is proved here.
-/
import Derived.Test.YtjhflcgphejddaaDoorHG5
import Derived.Test.YtjhflcgphejddaaDoorHG4
import Derived.Test.YtjhflcgphejddaaDoorHG0
import Derived.Laws.BitsAllLaws
namespace Go.Proofs.YtjhflcgphejddaaDoor
open Go.RowKit
set_option linter.unusedVariables false
set_option maxRecDepth 100000

theorem PicIn.mono {w w' : World} {B b : Nat} {x y : Int} {s : Value} (h : PicIn w b x y s) (hb : Below B w w') (hlt : b < B) : PicIn w' b x y s :=
  ⟨⟨(hb.cell hlt).trans h.1.1, (hb.frozen hlt).trans h.1.2⟩, ⟨(hb.cell hlt).trans h.2.1.1, (hb.frozen hlt).trans h.2.1.2⟩, (hb.cell hlt).trans h.2.2.1, (hb.frozen hlt).trans h.2.2.2⟩
theorem PicIn.setOther {w : World} {b b2 o : Nat} {x y : Int} {s : Value} (h : PicIn w b x y s) (hne : b ≠ b2) (u : Value) : PicIn (w.setCell ⟨b2, o, none⟩ u) b x y s := by
  obtain ⟨⟨c0, g0⟩, ⟨c1, g1⟩, c2, g2⟩ := h
  refine ⟨⟨?_, by rw [World.frozen?_setCell]; exact g0⟩, ⟨?_, by rw [World.frozen?_setCell]; exact g1⟩, ?_, by rw [World.frozen?_setCell]; exact g2⟩
  · rw [World.cell?_setCell_other _ _ _ _ (fun e => hne (by cases e; rfl))]; exact c0
  · rw [World.cell?_setCell_other _ _ _ _ (fun e => hne (by cases e; rfl))]; exact c1
  · rw [World.cell?_setCell_other _ _ _ _ (fun e => hne (by cases e; rfl))]; exact c2
theorem PicIn.setPix {w : World} {b : Nat} {x y : Int} {s : Value} (h : PicIn w b x y s) (u : Value) : PicIn (w.setCell ⟨b, 2, none⟩ u) b x y u := by
  obtain ⟨⟨c0, g0⟩, ⟨c1, g1⟩, c2, g2⟩ := h
  refine ⟨⟨?_, by rw [World.frozen?_setCell]; exact g0⟩, ⟨?_, by rw [World.frozen?_setCell]; exact g1⟩, ?_, by rw [World.frozen?_setCell]; exact g2⟩
  · rw [World.cell?_setCell_other _ _ _ _ (fun e => by cases e)]; exact c0
  · rw [World.cell?_setCell_other _ _ _ _ (fun e => by cases e)]; exact c1
  · rw [World.cell?_setCell_same _ _ _ c2]

theorem PicIn.put {w : World} {k : Nat} {x y : Int} {s : Value} (h : PicIn w k x y s) (x' y' : Int) (s' : Value) :
    PicIn (((w.setCell ⟨k, 0, none⟩ (.int .i64 x')).setCell ⟨k, 1, none⟩ (.int .i64 y')).setCell ⟨k, 2, none⟩ s') k x' y' s' := by
  obtain ⟨⟨c0, g0⟩, ⟨c1, g1⟩, c2, g2⟩ := h
  have n01 : (⟨k, 0, none⟩ : Addr) ≠ ⟨k, 1, none⟩ := fun e => by cases e
  have n02 : (⟨k, 0, none⟩ : Addr) ≠ ⟨k, 2, none⟩ := fun e => by cases e
  have n12 : (⟨k, 1, none⟩ : Addr) ≠ ⟨k, 2, none⟩ := fun e => by cases e
  refine ⟨⟨?_, by rw [World.frozen?_setCell, World.frozen?_setCell, World.frozen?_setCell]; exact g0⟩, ⟨?_, by rw [World.frozen?_setCell, World.frozen?_setCell, World.frozen?_setCell]; exact g1⟩, ?_, by rw [World.frozen?_setCell, World.frozen?_setCell, World.frozen?_setCell]; exact g2⟩
  · rw [World.cell?_setCell_other _ _ _ _ (by first | exact n02 | exact n02.symm), World.cell?_setCell_other _ _ _ _ (by first | exact n01 | exact n01.symm), World.cell?_setCell_same _ _ _ c0]
  · rw [World.cell?_setCell_other _ _ _ _ (by first | exact n12 | exact n12.symm)]
    have e1 : (w.setCell ⟨k, 0, none⟩ (.int .i64 x')).cell? ⟨k, 1, none⟩ = some (.int .i64 y) := by
      rw [World.cell?_setCell_other _ _ _ _ (by first | exact n01 | exact n01.symm)]; exact c1
    exact World.cell?_setCell_same _ _ _ e1
  · have e2 : ((w.setCell ⟨k, 0, none⟩ (.int .i64 x')).setCell ⟨k, 1, none⟩ (.int .i64 y')).cell? ⟨k, 2, none⟩ = some s := by
      rw [World.cell?_setCell_other _ _ _ _ (by first | exact n12 | exact n12.symm), World.cell?_setCell_other _ _ _ _ (by first | exact n02 | exact n02.symm)]; exact c2
    exact World.cell?_setCell_same _ _ _ e2

theorem slice_shape {w : World} {v : Value} {n : Nat} {f : Nat → Int} (h : IntsIn w v n f) : ∃ ad cap, v = .slice ad n cap := by
  rcases h with ⟨rfl, a, c, rfl⟩ | ⟨_, b, o, c, rfl, _⟩
  · exact ⟨_, _, rfl⟩
  · exact ⟨_, _, rfl⟩

end Go.Proofs.YtjhflcgphejddaaDoor

namespace Go.Proofs.YtjhflcgphejddaaDoor
open Go.RowKit
set_option linter.unusedVariables false
set_option maxRecDepth 100000

/-- A block that holds a Move. -/
def MoveIn (w : World) (b : Nat) (x y : Int) : Prop := w.cell? ⟨b, 0, none⟩ = some (.int .i64 x) ∧ w.cell? ⟨b, 1, none⟩ = some (.int .i64 y)
theorem moveIn_new (w : World) (x y : Int) : MoveIn (w.alloc (.cells #[.int .i64 x, .int .i64 y] 38)) w.heap.size x y := ⟨by simp, by simp⟩
theorem MoveIn.below {w w' : World} {b : Nat} {x y : Int} (h : MoveIn w b x y) (hb : Below w.heap.size w w') : MoveIn w' b x y := ⟨cell_below hb h.1, cell_below hb h.2⟩
theorem MoveIn.mono {w w' : World} {B b : Nat} {x y : Int} (h : MoveIn w b x y) (hb : Below B w w') (hlt : b < B) : MoveIn w' b x y := ⟨(hb.cell hlt).trans h.1, (hb.cell hlt).trans h.2⟩
theorem MoveIn.setOther {w : World} {b b2 o : Nat} {x y : Int} (h : MoveIn w b x y) (hne : b ≠ b2) (u : Value) : MoveIn (w.setCell ⟨b2, o, none⟩ u) b x y := by
  refine ⟨?_, ?_⟩
  · rw [World.cell?_setCell_other _ _ _ _ (fun e => hne (by cases e; rfl))]; exact h.1
  · rw [World.cell?_setCell_other _ _ _ _ (fun e => hne (by cases e; rfl))]; exact h.2
end Go.Proofs.YtjhflcgphejddaaDoor

namespace Go.Proofs.YtjhflcgphejddaaDoor
open Go.RowKit
set_option linter.unusedVariables false
set_option maxRecDepth 100000

/-- A block that holds a Coded, none of it frozen. -/
structure CodIn (w : World) (b : Nat) (al : Bool) (x y : Int) (s : Value) : Prop where
  c0 : w.cell? ⟨b, 0, none⟩ = some (.bool al)
  c1 : w.cell? ⟨b, 1, none⟩ = some (.int .i64 x)
  c2 : w.cell? ⟨b, 2, none⟩ = some (.int .i64 y)
  c3 : w.cell? ⟨b, 3, none⟩ = some s
  g0 : w.frozen? ⟨b, 0, none⟩ = false
  g1 : w.frozen? ⟨b, 1, none⟩ = false
  g2 : w.frozen? ⟨b, 2, none⟩ = false
  g3 : w.frozen? ⟨b, 3, none⟩ = false
theorem codIn_new (w : World) (al : Bool) (x y : Int) (s : Value) : CodIn (w.alloc (.cells #[.bool al, .int .i64 x, .int .i64 y, s] 40)) w.heap.size al x y s :=
  ⟨by simp, by simp, by simp, by simp, by simp only [World.frozen?, (MapKept.heap_alloc w _).1]; simp, by simp only [World.frozen?, (MapKept.heap_alloc w _).1]; simp, by simp only [World.frozen?, (MapKept.heap_alloc w _).1]; simp, by simp only [World.frozen?, (MapKept.heap_alloc w _).1]; simp⟩
theorem CodIn.lt {w : World} {b : Nat} {al : Bool} {x y : Int} {s : Value} (h : CodIn w b al x y s) : b < w.heap.size := cell_lt h.c0
theorem CodIn.mono {w w' : World} {B b : Nat} {al : Bool} {x y : Int} {s : Value} (h : CodIn w b al x y s) (hb : Below B w w') (hlt : b < B) : CodIn w' b al x y s :=
  ⟨(hb.cell hlt).trans h.c0, (hb.cell hlt).trans h.c1, (hb.cell hlt).trans h.c2, (hb.cell hlt).trans h.c3, (hb.frozen hlt).trans h.g0, (hb.frozen hlt).trans h.g1, (hb.frozen hlt).trans h.g2, (hb.frozen hlt).trans h.g3⟩
theorem CodIn.below {w w' : World} {b : Nat} {al : Bool} {x y : Int} {s : Value} (h : CodIn w b al x y s) (hb : Below w.heap.size w w') : CodIn w' b al x y s := h.mono hb h.lt
theorem CodIn.setOther {w : World} {b b2 o : Nat} {al : Bool} {x y : Int} {s : Value} (h : CodIn w b al x y s) (hne : b ≠ b2) (u : Value) : CodIn (w.setCell ⟨b2, o, none⟩ u) b al x y s := by
  refine ⟨?_, ?_, ?_, ?_, by rw [World.frozen?_setCell]; exact h.g0, by rw [World.frozen?_setCell]; exact h.g1, by rw [World.frozen?_setCell]; exact h.g2, by rw [World.frozen?_setCell]; exact h.g3⟩
  · rw [World.cell?_setCell_other _ _ _ _ (fun e => hne (by cases e; rfl))]; exact h.c0
  · rw [World.cell?_setCell_other _ _ _ _ (fun e => hne (by cases e; rfl))]; exact h.c1
  · rw [World.cell?_setCell_other _ _ _ _ (fun e => hne (by cases e; rfl))]; exact h.c2
  · rw [World.cell?_setCell_other _ _ _ _ (fun e => hne (by cases e; rfl))]; exact h.c3
theorem CodIn.setRest {w : World} {b : Nat} {al : Bool} {x y : Int} {s : Value} (h : CodIn w b al x y s) (u : Value) : CodIn (w.setCell ⟨b, 3, none⟩ u) b al x y u := by
  refine ⟨?_, ?_, ?_, World.cell?_setCell_same _ _ _ h.c3, by rw [World.frozen?_setCell]; exact h.g0, by rw [World.frozen?_setCell]; exact h.g1, by rw [World.frozen?_setCell]; exact h.g2, by rw [World.frozen?_setCell]; exact h.g3⟩
  · rw [World.cell?_setCell_other _ _ _ _ (fun e => by cases e)]; exact h.c0
  · rw [World.cell?_setCell_other _ _ _ _ (fun e => by cases e)]; exact h.c1
  · rw [World.cell?_setCell_other _ _ _ _ (fun e => by cases e)]; exact h.c2
theorem CodIn.setAlone {w : World} {b : Nat} {al : Bool} {x y : Int} {s : Value} (h : CodIn w b al x y s) (al' : Bool) : CodIn (w.setCell ⟨b, 0, none⟩ (.bool al')) b al' x y s := by
  refine ⟨World.cell?_setCell_same _ _ _ h.c0, ?_, ?_, ?_, by rw [World.frozen?_setCell]; exact h.g0, by rw [World.frozen?_setCell]; exact h.g1, by rw [World.frozen?_setCell]; exact h.g2, by rw [World.frozen?_setCell]; exact h.g3⟩
  · rw [World.cell?_setCell_other _ _ _ _ (fun e => by cases e)]; exact h.c1
  · rw [World.cell?_setCell_other _ _ _ _ (fun e => by cases e)]; exact h.c2
  · rw [World.cell?_setCell_other _ _ _ _ (fun e => by cases e)]; exact h.c3
theorem CodIn.put {w : World} {b : Nat} {al : Bool} {x y : Int} {s : Value} (h : CodIn w b al x y s) (al' : Bool) (x' y' : Int) (s' : Value) :
    CodIn ((((w.setCell ⟨b, 0, none⟩ (.bool al')).setCell ⟨b, 1, none⟩ (.int .i64 x')).setCell ⟨b, 2, none⟩ (.int .i64 y')).setCell ⟨b, 3, none⟩ s') b al' x' y' s' := by
  have n01 : (⟨b, 0, none⟩ : Addr) ≠ ⟨b, 1, none⟩ := fun e => by cases e
  have n02 : (⟨b, 0, none⟩ : Addr) ≠ ⟨b, 2, none⟩ := fun e => by cases e
  have n03 : (⟨b, 0, none⟩ : Addr) ≠ ⟨b, 3, none⟩ := fun e => by cases e
  have n12 : (⟨b, 1, none⟩ : Addr) ≠ ⟨b, 2, none⟩ := fun e => by cases e
  have n13 : (⟨b, 1, none⟩ : Addr) ≠ ⟨b, 3, none⟩ := fun e => by cases e
  have n23 : (⟨b, 2, none⟩ : Addr) ≠ ⟨b, 3, none⟩ := fun e => by cases e
  have k0 := h.setAlone al'
  refine ⟨?_, ?_, ?_, ?_, by rw [World.frozen?_setCell, World.frozen?_setCell, World.frozen?_setCell, World.frozen?_setCell]; exact h.g0, by rw [World.frozen?_setCell, World.frozen?_setCell, World.frozen?_setCell, World.frozen?_setCell]; exact h.g1, by rw [World.frozen?_setCell, World.frozen?_setCell, World.frozen?_setCell, World.frozen?_setCell]; exact h.g2, by rw [World.frozen?_setCell, World.frozen?_setCell, World.frozen?_setCell, World.frozen?_setCell]; exact h.g3⟩
  · rw [World.cell?_setCell_other _ _ _ _ (by first | exact n03 | exact n03.symm), World.cell?_setCell_other _ _ _ _ (by first | exact n02 | exact n02.symm), World.cell?_setCell_other _ _ _ _ (by first | exact n01 | exact n01.symm)]; exact k0.c0
  · rw [World.cell?_setCell_other _ _ _ _ (by first | exact n13 | exact n13.symm), World.cell?_setCell_other _ _ _ _ (by first | exact n12 | exact n12.symm), World.cell?_setCell_same _ _ _ k0.c1]
  · rw [World.cell?_setCell_other _ _ _ _ (by first | exact n23 | exact n23.symm)]
    have e : ((w.setCell ⟨b, 0, none⟩ (.bool al')).setCell ⟨b, 1, none⟩ (.int .i64 x')).cell? ⟨b, 2, none⟩ = some (.int .i64 y) := by
      rw [World.cell?_setCell_other _ _ _ _ (by first | exact n12 | exact n12.symm)]; exact k0.c2
    exact World.cell?_setCell_same _ _ _ e
  · have e : (((w.setCell ⟨b, 0, none⟩ (.bool al')).setCell ⟨b, 1, none⟩ (.int .i64 x')).setCell ⟨b, 2, none⟩ (.int .i64 y')).cell? ⟨b, 3, none⟩ = some s := by
      rw [World.cell?_setCell_other _ _ _ _ (by first | exact n23 | exact n23.symm), World.cell?_setCell_other _ _ _ _ (by first | exact n13 | exact n13.symm)]; exact k0.c3
    exact World.cell?_setCell_same _ _ _ e
theorem ints_set {w : World} {b o : Nat} {v : Value} {n : Nat} {f : Nat → Int} (h : IntsIn w v n f) (hv : ∀ k, v.ownBlock = some k → k ≠ b) (u : Value) : IntsIn (w.setCell ⟨b, o, none⟩ u) v n f := by
  rcases h with h | ⟨h0, g, og, c, rfl, hc⟩
  · exact Or.inl h
  · refine Or.inr ⟨h0, g, og, c, rfl, fun i hi => ?_⟩
    rw [World.cell?_setCell_other _ _ _ _ (fun e => hv g rfl (by cases e; rfl))]
    exact hc i hi
end Go.Proofs.YtjhflcgphejddaaDoor

namespace Go.Proofs.YtjhflcgphejddaaDoor
open Go.RowKit
set_option linter.unusedVariables false
set_option maxRecDepth 100000

theorem wrap_i64_small (n : Int) (h0 : 0 ≤ n) (h1 : n < 9223372036854775808) : IntKind.i64.wrap n = n := by
  simp [IntKind.wrap, IntKind.bits, IntKind.signed]
  split <;> omega
theorem i64_and_one (a : Nat) (ha : a < 9223372036854775808) : bits .and .i64 (a : Int) 1 = ((a % 2 : Nat) : Int) := by
  show IntKind.i64.wrap ((BitVec.ofInt 64 (a : Int) &&& BitVec.ofInt 64 1).toNat : Int) = _
  have h1 : (BitVec.ofInt 64 1).toNat = 1 := by decide
  rw [BitVec.toNat_and, ofInt_u64 a (by omega), h1, Nat.and_one_is_mod]
  exact wrap_i64_small _ (by omega) (by omega)
theorem or_even (a b : Nat) (hb : b ≤ 1) : (2 * a ||| b) = 2 * a + b := by
  have h := Nat.two_pow_add_eq_or_of_lt (i := 1) (b := b) (by omega) a
  have e : 2 ^ 1 * a = 2 * a := by omega
  rw [e] at h
  exact h.symm
theorem i64_or_bit (a b : Nat) (hb : b ≤ 1) (ha : 2 * a + 1 < 9223372036854775808) : bits .or .i64 ((2 * a : Nat) : Int) (b : Int) = ((2 * a + b : Nat) : Int) := by
  show IntKind.i64.wrap ((BitVec.ofInt 64 ((2 * a : Nat) : Int) ||| BitVec.ofInt 64 (b : Int)).toNat : Int) = _
  rw [BitVec.toNat_or, ofInt_u64 _ (by omega), ofInt_u64 _ (by omega), or_even a b hb]
  exact wrap_i64_small _ (by omega) (by omega)
theorem shr_nat (x k : Nat) : ((x : Int) / 2 ^ ((k : Int)).toNat) = ((x / 2 ^ k : Nat) : Int) := by
  rw [Int.toNat_natCast, Int.natCast_ediv, Int.natCast_pow]; rfl
theorem shr_nat' (x k : Nat) : ((x : Int) / 2 ^ k) = ((x / 2 ^ k : Nat) : Int) := by
  rw [Int.natCast_ediv, Int.natCast_pow]; rfl
end Go.Proofs.YtjhflcgphejddaaDoor
