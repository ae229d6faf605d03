/-
  alone's small functions side, isStep, apart. Lemmas for the laws above; no statement is proved here.
-/
import Derived.Test.YtckjbecfhgheiaaDoorPicE
import Derived.Test.YtckjbecfhgheiaaDoorAlN
namespace Go.Proofs.YtckjbecfhgheiaaDoor
open Go.RowKit
set_option linter.unusedVariables false
set_option maxRecDepth 100000

def stepOk (n : Int) : Bool := decide (1 ≤ n) && decide (n ≤ 64)
def restOk (n : Int) : Bool := decide (-255 ≤ n) && decide (n ≤ 255)
theorem stepOk_iff {n : Int} : stepOk n = true ↔ 1 ≤ n ∧ n ≤ 64 := by simp [stepOk]
theorem stepOk_not {n : Int} : stepOk n = false ↔ n < 1 ∨ 64 < n := by rw [← Bool.not_eq_true, stepOk_iff]; omega
theorem restOk_iff {n : Int} : restOk n = true ↔ -255 ≤ n ∧ n ≤ 255 := by simp [restOk]
theorem restOk_not {n : Int} : restOk n = false ↔ n < -255 ∨ 255 < n := by rw [← Bool.not_eq_true, restOk_iff]; omega

theorem aside_ok (n : Int) (w : World) : Calls Tryd.prog 23 #[.int .i64 n] w fun e w' => e = .returned (.bool (sideOk n)) ∧ w = w' := by
  rcases Int.lt_or_le n 1 with h | h
  · go_enter Tryd.func23, Tryd.ntmps23
    go_wp2
    go_ret
    exact ⟨ret_bool (sideOk_not.2 (Or.inl h)).symm, rfl⟩
  · rcases Int.lt_or_le 6 n with k | k
    · go_enter Tryd.func23, Tryd.ntmps23
      go_wp2
      go_ret
      exact ⟨ret_bool (by first | exact (sideOk_not.2 (Or.inr k)).symm | (rw [Bool.eq_iff_iff, sideOk_iff, decide_eq_true_iff]; omega)), rfl⟩
    · go_enter Tryd.func23, Tryd.ntmps23
      go_wp2
      go_ret
      exact ⟨ret_bool (sideOk_iff.2 ⟨h, k⟩).symm, rfl⟩
theorem astep_ok (n : Int) (w : World) : Calls Tryd.prog 17 #[.int .i64 n] w fun e w' => e = .returned (.bool (stepOk n)) ∧ w = w' := by
  rcases Int.lt_or_le n 1 with h | h
  · go_enter Tryd.func17, Tryd.ntmps17
    go_wp2
    go_ret
    exact ⟨ret_bool (stepOk_not.2 (Or.inl h)).symm, rfl⟩
  · rcases Int.lt_or_le 64 n with k | k
    · go_enter Tryd.func17, Tryd.ntmps17
      go_wp2
      go_ret
      exact ⟨ret_bool (by first | exact (stepOk_not.2 (Or.inr k)).symm | (rw [Bool.eq_iff_iff, stepOk_iff, decide_eq_true_iff]; omega)), rfl⟩
    · go_enter Tryd.func17, Tryd.ntmps17
      go_wp2
      go_ret
      exact ⟨ret_bool (stepOk_iff.2 ⟨h, k⟩).symm, rfl⟩
theorem aapart_ok (n : Int) (w : World) : Calls Tryd.prog 26 #[.int .i64 n] w fun e w' => e = .returned (.bool (restOk n)) ∧ w = w' := by
  rcases Int.lt_or_le n (-255) with h | h
  · go_enter Tryd.func26, Tryd.ntmps26
    go_wp2
    go_ret
    exact ⟨ret_bool (restOk_not.2 (Or.inl h)).symm, rfl⟩
  · rcases Int.lt_or_le 255 n with k | k
    · go_enter Tryd.func26, Tryd.ntmps26
      go_wp2
      go_ret
      exact ⟨ret_bool (by first | exact (restOk_not.2 (Or.inr k)).symm | (rw [Bool.eq_iff_iff, restOk_iff, decide_eq_true_iff]; omega)), rfl⟩
    · go_enter Tryd.func26, Tryd.ntmps26
      go_wp2
      go_ret
      exact ⟨ret_bool (restOk_iff.2 ⟨h, k⟩).symm, rfl⟩
end Go.Proofs.YtckjbecfhgheiaaDoor
