/-
  What is wrong with seeds, as a number; our own contract of solve.Rank over this seat's translation where something is. Lemmas for the laws above; no statement is proved here.
-/
import Derived.Test.YtakaeikobahaoaaSvRank
namespace Go.Proofs.Ytakaeikobahaoaa
open Go.RowKit
set_option linter.unusedVariables false
set_option maxRecDepth 100000

/-- What is wrong with seeds: its number. -/
noncomputable def fS (k : Int) (len : Nat) (f : Nat → Int) : Int := @ite Int (60 < len) (Nat.decLt _ _) 4 (@ite Int (1 ≤ k ∧ k ≤ 16) inferInstance (@ite Int (∃ j, j < len ∧ badS (f j) = true) (Classical.propDecidable _) 1 0) 1)
theorem IntsAt.below {w w' : World} {v : Value} {len : Nat} {f : Nat → Int} (h : IntsAt w v len f) (hb : Below w.heap.size w w') : IntsAt w' v len f := by
  rcases h with h | ⟨h0, b, o, cap, hv, h1, h2, h3, h4⟩
  · exact Or.inl h
  · exact Or.inr ⟨h0, b, o, cap, hv, h1, h2, fun i hi => cell_below hb (h3 i hi), h4⟩
theorem IntsAt.congr {w : World} {v : Value} {len : Nat} {f g : Nat → Int} (h : IntsAt w v len f) (e : ∀ i, i < len → f i = g i) : IntsAt w v len g := by
  rcases h with h | ⟨h0, b, o, cap, hv, h1, h2, h3, h4⟩
  · exact Or.inl h
  · exact Or.inr ⟨h0, b, o, cap, hv, h1, h2, fun i hi => by rw [← e i hi]; exact h3 i hi, fun i hi => by rw [← e i hi]; exact h4 i hi⟩
theorem fS_ok {k : Int} {len : Nat} {f : Nat → Int} (h : fS k len f = 0) : len ≤ 60 ∧ (1 ≤ k ∧ k ≤ 16) ∧ ∀ j, j < len → 1 ≤ f j ∧ f j ≤ 10000 := by
  unfold fS at h
  by_cases hl : 60 < len
  · rw [if_pos hl] at h; cases h
  rw [if_neg hl] at h
  by_cases hk : 1 ≤ k ∧ k ≤ 16
  · rw [if_pos hk] at h
    refine ⟨by omega, hk, fun j hj => ?_⟩
    refine Classical.byContradiction fun hc => ?_
    rw [if_pos ⟨j, hj, by unfold badS; simp; omega⟩] at h
    cases h
  · rw [if_neg hk] at h; cases h
theorem rank_bad {k : Int} {v : Value} {len : Nat} {f : Nat → Int} {w : World} (hv : IntsAt w v len f) (h : fS k len f ≠ 0) :
    Calls Try.prog 5 #[.int .i64 k, v] w fun e w' => e = .returned (.tuple #[.int .i64 0, .iface 35 (.int .i64 (fS k len f))]) ∧ w = w' := by
  obtain ⟨a, cap, rfl, _⟩ := hv.open
  by_cases hl : 60 < len
  · have e4 : fS k len f = 4 := by unfold fS; exact if_pos hl
    rw [e4]; exact rank_full k a len cap w hl
  by_cases hk : 1 ≤ k ∧ k ≤ 16
  · by_cases hb : ∃ j, j < len ∧ badS (f j) = true
    · have e1 : fS k len f = 1 := by unfold fS; rw [if_neg hl, if_pos hk, if_pos hb]
      rw [e1]; exact rank_s k _ len f w hv (by omega) hk hb
    · exact absurd (by unfold fS; rw [if_neg hl, if_pos hk, if_neg hb]) h
  · have e1 : fS k len f = 1 := by unfold fS; rw [if_neg hl, if_neg hk]
    rw [e1]; exact rank_k k a len cap w (by omega) (by omega)
end Go.Proofs.Ytakaeikobahaoaa
