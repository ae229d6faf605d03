/-
  Lemmas for the law above, joined into one text (MvQ, ErrN). No statement is proved here.
-/
import Derived.Test.YtcicoblejaippaaDoorTG11
import Derived.Test.YtcicoblejaippaaDoorTG23
import Derived.Test.YtcicoblejaippaaDoorTG0
namespace Go.Proofs.YtcicoblejaippaaDoor
open Go.RowKit
set_option linter.unusedVariables false
set_option maxRecDepth 100000

set_option maxHeartbeats 1000000 in
theorem codes_alike {v v2 : Value} {n : Nat} {f : Nat → Int} {w : World} (al : Bool) (x y : Int) (hn : n ≤ 1000000) (h : IntsIn w v n f) (h2 : IntsIn w v2 n f) :
    Calls Tryd.prog 11 #[.agg #[.bool al, .int .i64 x, .int .i64 y, v], .agg #[.bool al, .int .i64 x, .int .i64 y, v2]] w fun e w' => e = .returned (.bool true) ∧ Below w.heap.size w w' := by
  obtain ⟨W1, hW1⟩ : ∃ W1, W1 = w.alloc (.cells #[.bool al, .int .i64 x, .int .i64 y, v] 28) := ⟨_, rfl⟩
  obtain ⟨W2, hW2⟩ : ∃ W2, W2 = W1.alloc (.cells #[.bool al, .int .i64 x, .int .i64 y, v2] 28) := ⟨_, rfl⟩
  have b1 : Below w.heap.size w W1 := hW1 ▸ (Below.refl _ _).alloc (Nat.le_refl _) _
  have b12 : Below W1.heap.size W1 W2 := hW2 ▸ (Below.refl _ _).alloc (Nat.le_refl _) _
  have b2 := below_two b1 b12
  have z1 : W1.heap.size = w.heap.size + 1 := by rw [hW1]; simp
  have p1 : CodIn W2 w.heap.size al x y v := CodIn.below (hW1 ▸ codIn_new w al x y v) b12
  have p2 : CodIn W2 (w.heap.size + 1) al x y v2 := by
    have := codIn_new W1 al x y v2
    rw [← hW2, z1] at this
    exact this
  have K := hide (ints_same hn (h.below b2) (h2.below b2))
  have B2 := hide b2
  obtain ⟨c0, c1, c2, c3, _, _, _, _⟩ := p1
  obtain ⟨d0, d1, d2, d3, _, _, _, _⟩ := p2
  obtain ⟨ad, cap, rfl⟩ := slice_shape h
  obtain ⟨ad2, cap2, rfl⟩ := slice_shape h2
  have q0 : (al == al) = true := by simp
  have q1 : (x == x) = true := by simp
  have q2 : (y == y) = true := by simp
  subst hW2
  subst hW1
  clear h h2 b1 b12 b2 z1
  go_enter Tryd.func11, Tryd.ntmps11
  go_wp2_with fail
  refine (K.out).mono ?_
  rintro e w1 ⟨rfl, hb1⟩
  have B3 := hide (below_two B2.out hb1)
  clear hb1
  go_wp2
  go_ret
  exact ⟨ret_bool (by first | rfl | simp), B3.out⟩
end Go.Proofs.YtcicoblejaippaaDoor

namespace Go.Proofs.YtcicoblejaippaaDoor
open Go.RowKit
set_option linter.unusedVariables false
set_option maxRecDepth 100000

/-- The error that stands for the number x: none for 0. -/
def ErrIs (x : Int) (err : Value) : Prop := (x = 0 ∧ err = .nilIface) ∨ err = .iface 54 (.int .i64 x)
end Go.Proofs.YtcicoblejaippaaDoor
