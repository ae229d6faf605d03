/-
  An Air and the row of what was sent, side by side. Lemmas for the laws above; no statement is proved here.
-/
import Derived.Test.YtjoklnalkehegaaAirK
namespace Go.Proofs.Ytjoklnalkehegaa
open Go.RowKit Go.Maps
set_option linter.unusedVariables false
set_option maxRecDepth 100000

/-- The Air at block b holds X; the slice vS holds S; the two are apart, above w0. -/
def Keep (w0 w : World) (b : Nat) (X S : List Drp) (vS : Value) : Prop :=
  ∃ v, AQ w w0.heap.size b v X ∧ w.ownsRow w0.heap.size 30 2 vS S.length (dC S) ∧ (∀ i, AF b v i → vS.ownBlock ≠ some i) ∧ Below w0.heap.size w0 w ∧ S.length ≤ 60
theorem Keep.above {w0 w : World} {b : Nat} {X S : List Drp} {vS : Value} (h : Keep w0 w b X S vS) : Below w0.heap.size w0 w := by
  obtain ⟨_, _, _, _, h, _⟩ := h
  exact h
theorem Keep.few {w0 w : World} {b : Nat} {X S : List Drp} {vS : Value} (h : Keep w0 w b X S vS) : X.length ≤ 60 ∧ S.length ≤ 60 := by
  obtain ⟨_, h, _, _, _, h2⟩ := h
  exact ⟨h.few, h2⟩
theorem Keep.row {w0 w : World} {b : Nat} {X S : List Drp} {vS : Value} (h : Keep w0 w b X S vS) : w.ownsRow w0.heap.size 30 2 vS S.length (dC S) := by
  obtain ⟨_, _, h, _⟩ := h
  exact h
theorem Keep.below {w0 w w' : World} {b : Nat} {X S : List Drp} {vS : Value} (h : Keep w0 w b X S vS) (hb : Below w.heap.size w w') : Keep w0 w' b X S vS := by
  obtain ⟨v, h1, h2, h3, h4, h5⟩ := h
  exact ⟨v, h1.below hb, own_under' h2 hb, h3, below_two h4 hb, h5⟩
/-- A method. -/
theorem Keep.call {P : Program} {f : FuncId} {args : Array Value} {E : Ending} {w0 w : World} {b : Nat} {X S X' : List Drp} {vS : Value} (h : Keep w0 w b X S vS)
    (K : ∀ v, AQ w w0.heap.size b v X → Calls P f args w fun e w' => e = E ∧ Moved w w0.heap.size b v X' w') : Calls P f args w fun e w' => e = E ∧ Keep w0 w' b X' S vS := by
  obtain ⟨v, h1, h2, h3, h4, h5⟩ := h
  refine (K v h1).mono fun e w' ⟨he, v', hq, hk, hat⟩ => ⟨he, v', hq, own_blk h2 fun i e => hk.block i (h2.lt i e).2 fun hf => h3 i hf e, fun i hi e => ?_, kept_below h4 hk fun i hi => (h1.lt i hi).1, h5⟩
  rcases hi with rfl | e2
  · exact h3 _ (Or.inl rfl) e
  · rcases hat i e2 with e3 | e3
    · exact h3 i (Or.inr e3) e
    · have := (h2.lt i e).2; omega
/-- One more is written down. -/
theorem Keep.grow {w0 w w1 : World} {b : Nat} {X S : List Drp} {vS v1 : Value} {d : Drp} (h : Keep w0 w b X S vS) (hl : S.length < 60) (hg : w.grownBy w1 vS.ownBlock) (ho : w1.ownsRow w0.heap.size 30 2 v1 (S.length + 1) (dC S ++ [.int .i64 (d.1 : Nat), .string d.2]))
    (hat : v1.ownBlock = vS.ownBlock ∨ v1.ownBlock = some w.heap.size) : Keep w0 w1 b X (S ++ [d]) v1 := by
  obtain ⟨v, h1, h2, h3, h4, h5⟩ := h
  refine ⟨v, h1.keep fun i hi => hg.block i (h1.lt i hi).2 fun e => h3 i hi e.symm, by rw [List.length_append, dC_snoc]; exact ho, fun i hi e => ?_, (h4.grown hg h4.size fun q hq => (h2.lt q hq).1), by rw [List.length_append]; simp; omega⟩
  rcases hat with e2 | e2
  · exact h3 i hi (e2 ▸ e)
  · rw [e2] at e
    have := (h1.lt i hi).2
    cases e
    omega
/-- All of them, as a slice. -/
theorem Keep.all {w0 w : World} {b : Nat} {X S : List Drp} {vS : Value} (h : Keep w0 w b X S vS) : Calls Try.prog 7 #[.pointer (some ⟨b, 0, none⟩)] w fun e w' => ∃ a c, e = .returned (.slice a X.length c) ∧ X.length ≤ c ∧ c ≤ maxLen ∧ Keep w0 w' b X S vS := by
  have h' := h
  obtain ⟨v, h1, _⟩ := h'
  refine (aall_ok h1).mono fun e w' ⟨v', he, ho, hb⟩ => ?_
  obtain ⟨a, c, rfl, q1, q2⟩ := own_slice ho
  exact ⟨a, c, he, q1, q2, h.below hb⟩
theorem eraseIdx_zero (X : List Drp) : X.eraseIdx 0 = X.drop 1 := by cases X <;> rfl
theorem dAt_drop {S : List Drp} {i : Nat} : dAt (S.drop i) 0 = dAt S i := by simp [dAt, List.getD]
end Go.Proofs.Ytjoklnalkehegaa
