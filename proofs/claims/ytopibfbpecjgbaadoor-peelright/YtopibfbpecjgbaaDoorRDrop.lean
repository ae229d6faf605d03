/-
  Our own contracts of dropref1.Drop and of drop.Check whatever they are handed: the fault's number. Lemmas for the laws above; no statement is proved here.
-/
import Derived.Test.YtopibfbpecjgbaaDoorDropM
import Derived.Test.YtopibfbpecjgbaaDoorErrIs
namespace Go.Proofs.YtopibfbpecjgbaaDoor
open Go.RowKit Go.Maps
set_option linter.unusedVariables false
set_option maxRecDepth 100000

/-- What is wrong with a Drop: its number. -/
def OkD (k size seed : Int) : Prop := (1 ≤ k ∧ k ≤ 16) ∧ (1 ≤ size ∧ size ≤ 8) ∧ 1 ≤ seed ∧ seed ≤ 10000
instance (k size seed : Int) : Decidable (OkD k size seed) := inferInstanceAs (Decidable (_ ∧ _))
def fD (k size seed : Int) (n : Nat) : Int := if OkD k size seed then (if (n : Int) = size then 0 else 3) else 1

set_option maxHeartbeats 1000000 in
theorem rdrop_range (k size seed : Int) (s : ByteArray) (w : World) (h : ¬ OkD k size seed) :
    Calls Tryd.prog 15 #[.int .i64 k, .int .i64 size, dropV seed s] w fun e w' => e = .returned (.int .i64 1) ∧ Below w.heap.size w w' := by
  unfold dropV
  by_cases c0 : k < 1
  · clear h
    go_enter Tryd.func15, Tryd.ntmps15
    go_wp2
    go_ret
    exact ⟨rfl, (Below.refl _ _).alloc (Nat.le_refl _) _⟩
  · skip
    by_cases c1 : 16 < k
    · clear h
      go_enter Tryd.func15, Tryd.ntmps15
      go_wp2
      go_ret
      exact ⟨rfl, (Below.refl _ _).alloc (Nat.le_refl _) _⟩
    · skip
      by_cases c2 : size < 1
      · clear h
        go_enter Tryd.func15, Tryd.ntmps15
        go_wp2
        go_ret
        exact ⟨rfl, (Below.refl _ _).alloc (Nat.le_refl _) _⟩
      · skip
        by_cases c3 : 8 < size
        · clear h
          go_enter Tryd.func15, Tryd.ntmps15
          go_wp2
          go_ret
          exact ⟨rfl, (Below.refl _ _).alloc (Nat.le_refl _) _⟩
        · skip
          by_cases c4 : seed < 1
          · clear h
            go_enter Tryd.func15, Tryd.ntmps15
            go_wp2
            go_ret
            exact ⟨rfl, (Below.refl _ _).alloc (Nat.le_refl _) _⟩
          · skip
            by_cases c5 : 10000 < seed
            · clear h
              go_enter Tryd.func15, Tryd.ntmps15
              go_wp2
              go_ret
              exact ⟨rfl, (Below.refl _ _).alloc (Nat.le_refl _) _⟩
            · exact absurd (show OkD k size seed by unfold OkD; omega) h
set_option maxHeartbeats 1000000 in
theorem rdrop_size (k size seed : Int) (s : ByteArray) (w : World) (h : OkD k size seed) :
    Calls Tryd.prog 15 #[.int .i64 k, .int .i64 size, dropV seed s] w fun e w' => e = .returned (.int .i64 (if (s.size : Int) = size then 0 else 3)) ∧ Below w.heap.size w w' := by
  obtain ⟨⟨h1, h2⟩, ⟨h3, h4⟩, h5, h6⟩ := h
  unfold dropV
  have c0 : ¬ k < 1 := by omega
  have c1 : ¬ 16 < k := by omega
  have c2 : ¬ size < 1 := by omega
  have c3 : ¬ 8 < size := by omega
  have c4 : ¬ seed < 1 := by omega
  have c5 : ¬ 10000 < seed := by omega
  clear h1 h2 h3 h4 h5 h6
  by_cases c : (s.size : Int) = size
  · have hne : ((s.size : Int) == size) = true := by rw [beq_iff_eq]; exact c
    rw [if_pos c]
    clear c
    go_enter Tryd.func15, Tryd.ntmps15
    go_wp2
    go_ret
    exact ⟨rfl, (Below.refl _ _).alloc (Nat.le_refl _) _⟩
  · have hne : ((s.size : Int) == size) = false := by rw [beq_eq_false_iff_ne]; exact c
    rw [if_neg c]
    clear c
    go_enter Tryd.func15, Tryd.ntmps15
    go_wp2
    go_ret
    exact ⟨rfl, (Below.refl _ _).alloc (Nat.le_refl _) _⟩
theorem rdrop_any (k size seed : Int) (s : ByteArray) (w : World) :
    Calls Tryd.prog 15 #[.int .i64 k, .int .i64 size, dropV seed s] w fun e w' => e = .returned (.int .i64 (fD k size seed s.size)) ∧ Below w.heap.size w w' := by
  unfold fD
  by_cases h : OkD k size seed
  · rw [if_pos h]; exact rdrop_size k size seed s w h
  · rw [if_neg h]; exact rdrop_range k size seed s w h
theorem dcheck_any (k size seed : Int) (s : ByteArray) (w : World) :
    Calls Tryd.prog 19 #[.int .i64 k, .int .i64 size, dropV seed s] w fun e w' => ∃ err, e = .returned err ∧ ErrIs (fD k size seed s.size) err ∧ Below w.heap.size w w' := by
  unfold fD
  by_cases h : OkD k size seed
  · rw [if_pos h]
    by_cases c : (s.size : Int) = size
    · rw [if_pos c]; exact (dcheck_ok k size seed s w h.1 h.2.1 h.2.2 c).mono fun e w' ⟨he, hb⟩ => ⟨_, he, Or.inl ⟨rfl, rfl⟩, hb⟩
    · rw [if_neg c]; exact (dcheck_shape k size seed s w h.1 h.2.1 h.2.2 c).mono fun e w' ⟨he, hb⟩ => ⟨_, he, Or.inr rfl, hb⟩
  · rw [if_neg h]; exact (dcheck_range k size seed s w h).mono fun e w' ⟨he, hb⟩ => ⟨_, he, Or.inr rfl, hb⟩
end Go.Proofs.YtopibfbpecjgbaaDoor
