/-
  Two pictures and a move in three blocks beside one another. Lemmas for the laws above; no statement is proved here.
-/
import Derived.Test.YtcicoblejaippaaPicV
namespace Go.Proofs.Ytcicoblejaippaa
open Go.RowKit
set_option linter.unusedVariables false
set_option maxRecDepth 100000

/-- The law's arguments as they lie in blocks of their own. -/
structure Tl (w0 w : World) (a b : Int) (s : Value) (a' b' : Int) (s' : Value) (mx my : Int) : Prop where
  p : PicIn w w0.heap.size a b s
  q : PicIn w (w0.heap.size + 1) a' b' s'
  m : MoveIn w (w0.heap.size + 1 + 1) mx my
  b : Below w0.heap.size w0 w
theorem Tl.below {w0 w w' : World} {a b : Int} {s : Value} {a' b' : Int} {s' : Value} {mx my : Int} (h : Tl w0 w a b s a' b' s' mx my) (hb : Below w.heap.size w w') : Tl w0 w' a b s a' b' s' mx my :=
  ⟨h.p.below hb, h.q.below hb, h.m.below hb, below_two h.b hb⟩
theorem Tl.mono {w0 w w' : World} {B : Nat} {a b : Int} {s : Value} {a' b' : Int} {s' : Value} {mx my : Int} (h : Tl w0 w a b s a' b' s' mx my) (hb : Below B w w') (hB : w0.heap.size + 1 + 1 < B) : Tl w0 w' a b s a' b' s' mx my :=
  ⟨h.p.mono hb (by omega), h.q.mono hb (by omega), h.m.mono hb (by omega), h.b.trans (hb.mono (by omega))⟩
theorem Tl.set {w0 w : World} {a b : Int} {s : Value} {a' b' : Int} {s' : Value} {mx my : Int} (h : Tl w0 w a b s a' b' s' mx my) {k : Nat} (hk : w0.heap.size + 1 + 1 < k) (o : Nat) (u : Value) : Tl w0 (w.setCell ⟨k, o, none⟩ u) a b s a' b' s' mx my :=
  ⟨h.p.setOther (by omega) u, h.q.setOther (by omega) u, h.m.setOther (by omega) u, h.b.setCell (by show w0.heap.size ≤ k; omega) u⟩
theorem Tl.cells {w0 w : World} {a b : Int} {s : Value} {a' b' : Int} {s' : Value} {mx my : Int} (h : Tl w0 w a b s a' b' s' mx my) :
    w.cell? ⟨w0.heap.size, 0, none⟩ = some (.int .i64 a) ∧ w.cell? ⟨w0.heap.size, 1, none⟩ = some (.int .i64 b) ∧ w.cell? ⟨w0.heap.size, 2, none⟩ = some s ∧
    w.cell? ⟨w0.heap.size + 1, 0, none⟩ = some (.int .i64 a') ∧ w.cell? ⟨w0.heap.size + 1, 1, none⟩ = some (.int .i64 b') ∧ w.cell? ⟨w0.heap.size + 1, 2, none⟩ = some s' ∧
    w.cell? ⟨w0.heap.size + 1 + 1, 0, none⟩ = some (.int .i64 mx) ∧ w.cell? ⟨w0.heap.size + 1 + 1, 1, none⟩ = some (.int .i64 my) :=
  ⟨h.p.1.1, h.p.2.1.1, h.p.2.2.1, h.q.1.1, h.q.2.1.1, h.q.2.2.1, h.m.1, h.m.2⟩
theorem tl_new (w : World) (a b : Int) (s : Value) (a' b' : Int) (s' : Value) (mx my : Int) :
    Tl w (((w.alloc (.cells #[.int .i64 a, .int .i64 b, s] 24)).alloc (.cells #[.int .i64 a', .int .i64 b', s'] 24)).alloc (.cells #[.int .i64 mx, .int .i64 my] 26)) a b s a' b' s' mx my := by
  obtain ⟨W1, hW1⟩ : ∃ W1, W1 = w.alloc (.cells #[.int .i64 a, .int .i64 b, s] 24) := ⟨_, rfl⟩
  obtain ⟨W2, hW2⟩ : ∃ W2, W2 = W1.alloc (.cells #[.int .i64 a', .int .i64 b', s'] 24) := ⟨_, rfl⟩
  obtain ⟨W4, hW4⟩ : ∃ W4, W4 = W2.alloc (.cells #[.int .i64 mx, .int .i64 my] 26) := ⟨_, rfl⟩
  rw [← hW1, ← hW2, ← hW4]
  have b1 : Below w.heap.size w W1 := hW1 ▸ (Below.refl _ _).alloc (Nat.le_refl _) _
  have b12 : Below W1.heap.size W1 W2 := hW2 ▸ (Below.refl _ _).alloc (Nat.le_refl _) _
  have b24 : Below W2.heap.size W2 W4 := hW4 ▸ (Below.refl _ _).alloc (Nat.le_refl _) _
  have b4 := below_two (below_two b1 b12) b24
  have z1 : W1.heap.size = w.heap.size + 1 := by rw [hW1]; simp
  have z2 : W2.heap.size = w.heap.size + 1 + 1 := by rw [hW2]; simp [z1]
  refine ⟨?_, ?_, ?_, b4⟩
  · exact PicIn.below (hW1 ▸ picIn_new w a b s) (below_two b12 b24)
  · have := picIn_new W1 a' b' s'
    rw [← hW2, z1] at this
    exact this.below b24
  · have := moveIn_new W2 mx my
    rw [← hW4, z2] at this
    exact this
end Go.Proofs.Ytcicoblejaippaa
