/-
  Lemmas for the law above, joined into one text (RInT). No statement is proved here.
-/
import Derived.Test.YtjgifjkdgoijmaaGreatDoorYG6
import Derived.Test.YtjgifjkdgoijmaaGreatDoorYG1
namespace Go.Proofs.YtjgifjkdgoijmaaGreatDoor
open Go.RowKit Go.Maps
set_option linter.unusedVariables false
set_option maxRecDepth 100000

theorem rin_empty (a : Option Addr) (cap : Nat) (v : Int) (w : World) : Calls Tryz.prog 11 #[.slice a 0 cap, .int .i64 v] w fun e w' => e = .returned (.bool false) ∧ w = w' := by
  go_enter Tryz.func11, Tryz.ntmps11
  go_wp2
  go_loop [5] (fun i => i = .int .i64 0) (fun _ => 0)
  case atStart => rfl
  case round =>
    obtain rfl := hrel
    go_wp2
    go_ret
    exact ⟨rfl, rfl⟩
/-- 'in' the taken ones. -/
theorem rin_T {w : World} {B : Nat} {vT : Value} {T : List Nat} (h : w.ownsRow B 3 1 vT T.length (toV T)) (seed : Int) : ∃ a cap, vT = .slice a T.length cap ∧ T.length ≤ cap ∧ cap ≤ maxLen ∧
    ∃ r : Bool, (r = true ↔ ∃ n : Nat, seed = n ∧ n ∈ T) ∧ ∀ w', Below w.heap.size w w' → Calls Tryz.prog 11 #[vT, .int .i64 seed] w' fun e w'' => e = .returned (.bool r) ∧ w' = w'' := by
  obtain ⟨a, cap, hv, h1, h2, h3⟩ := own_lsh h
  refine ⟨a, cap, hv, h1, h2, ?_⟩
  rcases Nat.eq_zero_or_pos T.length with e | h0
  · refine ⟨false, ⟨(fun h => by cases h), (fun ⟨n, _, hn⟩ => ?_)⟩, fun w' hb => ?_⟩
    · rw [List.eq_nil_of_length_eq_zero e] at hn; cases hn
    · rw [hv, e]; exact rin_empty a cap seed w'
  · obtain ⟨g, cap', hv', q1, q2, q3⟩ := h3 h0
    by_cases hm : ∃ n : Nat, seed = n ∧ n ∈ T
    · obtain ⟨n, rfl, hn⟩ := hm
      obtain ⟨q, hq, he⟩ := List.getElem_of_mem hn
      refine ⟨true, ⟨fun _ => ⟨n, rfl, hn⟩, fun _ => rfl⟩, fun w' hb => ?_⟩
      rw [hv']
      exact rin_yes g 0 _ cap' _ _ w' (by omega) (fun i hi => cell_below hb (q3 i hi)) q hq (by simp [List.getD, hq, he])
    · refine ⟨false, ⟨(fun h => by cases h), (fun h => absurd h hm)⟩, fun w' hb => ?_⟩
      rw [hv']
      exact rin_no g 0 _ cap' _ _ w' (by omega) (fun i hi => cell_below hb (q3 i hi)) (fun i hi e => hm ⟨T.getD i 0, e.symm, by rw [show T.getD i 0 = T[i] by simp [List.getD, hi]]; exact List.getElem_mem hi⟩)
end Go.Proofs.YtjgifjkdgoijmaaGreatDoor
