/-
  Our own contract of picture.far. Lemmas for the laws above; no statement is proved here.
-/
import Derived.Test.YtcicoblejaippaaDoorPicE
namespace Go.Proofs.YtcicoblejaippaaDoor
open Go.RowKit
set_option linter.unusedVariables false
set_option maxRecDepth 100000

theorem pfar_ok (n : Int) (w : World) : Calls Tryd.prog 30 #[.int .i64 n] w fun e w' => e = .returned (.bool (farOk n)) ∧ w = w' := by
  rcases Int.lt_or_le n (-6) with h | h
  · go_enter Tryd.func30, Tryd.ntmps30
    go_wp2
    go_ret
    exact ⟨ret_bool (farOk_not.2 (Or.inl h)).symm, rfl⟩
  · rcases Int.lt_or_le 6 n with k | k
    · go_enter Tryd.func30, Tryd.ntmps30
      go_wp2
      go_ret
      exact ⟨ret_bool (by first | exact (farOk_not.2 (Or.inr k)).symm | (rw [Bool.eq_iff_iff, farOk_iff, decide_eq_true_iff]; omega)), rfl⟩
    · go_enter Tryd.func30, Tryd.ntmps30
      go_wp2
      go_ret
      exact ⟨ret_bool (farOk_iff.2 ⟨h, k⟩).symm, rfl⟩
end Go.Proofs.YtcicoblejaippaaDoor
