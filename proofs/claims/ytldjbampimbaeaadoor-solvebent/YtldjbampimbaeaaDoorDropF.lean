/-
  What is wrong with a Drop, as a number; our own contract of drop.Check whatever it is handed, over this seat's translation. Lemmas for the laws above; no statement is proved here.
-/
import Derived.Test.YtldjbampimbaeaaDoorDropM
import Derived.Test.YtldjbampimbaeaaDoorErrIs
namespace Go.Proofs.YtldjbampimbaeaaDoor
open Go.RowKit Go.Maps
set_option linter.unusedVariables false
set_option maxRecDepth 100000

/-- What is wrong with a Drop: its number. -/
def OkD (k size seed : Int) : Prop := (1 ≤ k ∧ k ≤ 16) ∧ (1 ≤ size ∧ size ≤ 8) ∧ 1 ≤ seed ∧ seed ≤ 10000
instance (k size seed : Int) : Decidable (OkD k size seed) := inferInstanceAs (Decidable (_ ∧ _))
def fD (k size seed : Int) (n : Nat) : Int := if OkD k size seed then (if (n : Int) = size then 0 else 3) else 1

theorem dcheck_any (k size seed : Int) (s : ByteArray) (w : World) :
    Calls Tryd.prog 41 #[.int .i64 k, .int .i64 size, dropV seed s] w fun e w' => ∃ err, e = .returned err ∧ ErrIs (fD k size seed s.size) err ∧ Below w.heap.size w w' := by
  unfold fD
  by_cases h : OkD k size seed
  · rw [if_pos h]
    by_cases c : (s.size : Int) = size
    · rw [if_pos c]; exact (dcheck_ok k size seed s w h.1 h.2.1 h.2.2 c).mono fun e w' ⟨he, hb⟩ => ⟨_, he, Or.inl ⟨rfl, rfl⟩, hb⟩
    · rw [if_neg c]; exact (dcheck_shape k size seed s w h.1 h.2.1 h.2.2 c).mono fun e w' ⟨he, hb⟩ => ⟨_, he, Or.inr rfl, hb⟩
  · rw [if_neg h]; exact (dcheck_range k size seed s w h).mono fun e w' ⟨he, hb⟩ => ⟨_, he, Or.inr rfl, hb⟩
/-- The error that tells the number x: none for 0. -/
def Tell (x : Int) : Value := if x = 0 then .nilIface else .iface 52 (.int .i64 x)
theorem tell_is (x : Int) : ErrIs x (Tell x) := by
  unfold Tell
  by_cases h : x = 0
  · rw [if_pos h]; exact Or.inl ⟨h, rfl⟩
  · rw [if_neg h]; exact Or.inr rfl
theorem dcheck_tell (k size seed : Int) (s : ByteArray) (w : World) :
    Calls Tryd.prog 41 #[.int .i64 k, .int .i64 size, .agg #[.int .i64 seed, .string s]] w fun e w' => e = .returned (Tell (fD k size seed s.size)) ∧ Below w.heap.size w w' := by
  unfold fD
  by_cases h : OkD k size seed
  · rw [if_pos h]
    by_cases c : (s.size : Int) = size
    · rw [if_pos c]; exact dcheck_ok k size seed s w h.1 h.2.1 h.2.2 c
    · rw [if_neg c]; exact dcheck_shape k size seed s w h.1 h.2.1 h.2.2 c
  · rw [if_neg h]; exact dcheck_range k size seed s w h
end Go.Proofs.YtldjbampimbaeaaDoor
