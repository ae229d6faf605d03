/-
  Lemmas for the law above, joined into one text (PicE, AlE0, AlS0). No statement is proved here.
-/
import Derived.Test.YtjhflcgphejddaaDoorBG1
import Derived.Test.YtjhflcgphejddaaDoorBG0
import Derived.Test.YtjhflcgphejddaaDoorBG12
import Derived.Laws.Cover1
namespace Go.Proofs.YtjhflcgphejddaaDoor
open Go.RowKit
set_option linter.unusedVariables false
set_option maxRecDepth 100000

def sideOk (n : Int) : Bool := decide (1 ≤ n) && decide (n ≤ 6)
def pixelOk (n : Int) : Bool := decide (0 ≤ n) && decide (n ≤ 255)
def farOk (n : Int) : Bool := decide (-6 ≤ n) && decide (n ≤ 6)
theorem sideOk_iff {n : Int} : sideOk n = true ↔ 1 ≤ n ∧ n ≤ 6 := by simp [sideOk]
theorem sideOk_not {n : Int} : sideOk n = false ↔ n < 1 ∨ 6 < n := by rw [← Bool.not_eq_true, sideOk_iff]; omega
theorem pixelOk_iff {n : Int} : pixelOk n = true ↔ 0 ≤ n ∧ n ≤ 255 := by simp [pixelOk]
theorem pixelOk_not {n : Int} : pixelOk n = false ↔ n < 0 ∨ 255 < n := by rw [← Bool.not_eq_true, pixelOk_iff]; omega
theorem farOk_iff {n : Int} : farOk n = true ↔ -6 ≤ n ∧ n ≤ 6 := by simp [farOk]
theorem farOk_not {n : Int} : farOk n = false ↔ n < -6 ∨ 6 < n := by rw [← Bool.not_eq_true, farOk_iff]; omega
theorem sides_two {a b : Int} : sidesOk a b = (sideOk a && sideOk b) := by
  simp [sidesOk, sideOk, Bool.and_assoc]

theorem pside_ok (n : Int) (w : World) : Calls Tryd.prog 30 #[.int .i64 n] w fun e w' => e = .returned (.bool (sideOk n)) ∧ w = w' := by
  rcases Int.lt_or_le n 1 with h | h
  · go_enter Tryd.func30, Tryd.ntmps30
    go_wp2
    go_ret
    exact ⟨ret_bool (sideOk_not.2 (Or.inl h)).symm, rfl⟩
  · rcases Int.lt_or_le 6 n with k | k
    · go_enter Tryd.func30, Tryd.ntmps30
      go_wp2
      go_ret
      exact ⟨ret_bool (by first | exact (sideOk_not.2 (Or.inr k)).symm | (rw [Bool.eq_iff_iff, sideOk_iff, decide_eq_true_iff]; omega)), rfl⟩
    · go_enter Tryd.func30, Tryd.ntmps30
      go_wp2
      go_ret
      exact ⟨ret_bool (sideOk_iff.2 ⟨h, k⟩).symm, rfl⟩
theorem ppixel_ok (n : Int) (w : World) : Calls Tryd.prog 31 #[.int .i64 n] w fun e w' => e = .returned (.bool (pixelOk n)) ∧ w = w' := by
  rcases Int.lt_or_le n 0 with h | h
  · go_enter Tryd.func31, Tryd.ntmps31
    go_wp2
    go_ret
    exact ⟨ret_bool (pixelOk_not.2 (Or.inl h)).symm, rfl⟩
  · rcases Int.lt_or_le 255 n with k | k
    · go_enter Tryd.func31, Tryd.ntmps31
      go_wp2
      go_ret
      exact ⟨ret_bool (by first | exact (pixelOk_not.2 (Or.inr k)).symm | (rw [Bool.eq_iff_iff, pixelOk_iff, decide_eq_true_iff]; omega)), rfl⟩
    · go_enter Tryd.func31, Tryd.ntmps31
      go_wp2
      go_ret
      exact ⟨ret_bool (pixelOk_iff.2 ⟨h, k⟩).symm, rfl⟩
end Go.Proofs.YtjhflcgphejddaaDoor

namespace Go.Proofs.YtjhflcgphejddaaDoor
open Go.RowKit
set_option linter.unusedVariables false
set_option maxRecDepth 100000

theorem astep_ok (n : Int) (w : World) : Calls Tryd.prog 69 #[.int .i64 n] w fun e w' => e = .returned (.bool (stepOk n)) ∧ w = w' := by
  rcases Int.lt_or_le n 1 with h | h
  · go_enter Tryd.func69, Tryd.ntmps69
    go_wp2
    go_ret
    exact ⟨ret_bool (stepOk_not.2 (Or.inl h)).symm, rfl⟩
  · rcases Int.lt_or_le 64 n with k | k
    · go_enter Tryd.func69, Tryd.ntmps69
      go_wp2
      go_ret
      exact ⟨ret_bool (by first | exact (stepOk_not.2 (Or.inr k)).symm | (rw [Bool.eq_iff_iff, stepOk_iff, decide_eq_true_iff]; omega)), rfl⟩
    · go_enter Tryd.func69, Tryd.ntmps69
      go_wp2
      go_ret
      exact ⟨ret_bool (stepOk_iff.2 ⟨h, k⟩).symm, rfl⟩
theorem aapart_ok (n : Int) (w : World) : Calls Tryd.prog 71 #[.int .i64 n] w fun e w' => e = .returned (.bool (restOk n)) ∧ w = w' := by
  rcases Int.lt_or_le n (-255) with h | h
  · go_enter Tryd.func71, Tryd.ntmps71
    go_wp2
    go_ret
    exact ⟨ret_bool (restOk_not.2 (Or.inl h)).symm, rfl⟩
  · rcases Int.lt_or_le 255 n with k | k
    · go_enter Tryd.func71, Tryd.ntmps71
      go_wp2
      go_ret
      exact ⟨ret_bool (by first | exact (restOk_not.2 (Or.inr k)).symm | (rw [Bool.eq_iff_iff, restOk_iff, decide_eq_true_iff]; omega)), rfl⟩
    · go_enter Tryd.func71, Tryd.ntmps71
      go_wp2
      go_ret
      exact ⟨ret_bool (restOk_iff.2 ⟨h, k⟩).symm, rfl⟩
end Go.Proofs.YtjhflcgphejddaaDoor

namespace Go.Proofs.YtjhflcgphejddaaDoor
open Go.RowKit
set_option linter.unusedVariables false
set_option maxRecDepth 100000

set_option maxHeartbeats 1000000 in
theorem asteps_up (n s : Int) (w : World) (h0 : 0 ≤ n) (h1 : n ≤ 255) (s1 : 1 ≤ s) (s2 : s ≤ 64) :
    Calls Tryd.prog 79 #[.int .i64 n, .int .i64 s] w fun e w' => e = .returned (.int .i64 (rnd n s)) ∧ w = w' := by
  have HR : Hid (rnd n s = (n + s / 2) / s) := rnd_pos h0
  have hq1 := rnd_up s1 h0
  rw [HR.out] at hq1
  have g1 : s.tdiv 2 = s / 2 := Int.tdiv_eq_ediv_of_nonneg (by omega)
  have g2 : (n + s / 2).tdiv s = (n + s / 2) / s := Int.tdiv_eq_ediv_of_nonneg (by omega)
  have b1 : 0 ≤ s / 2 ∧ s / 2 ≤ 32 := by omega
  generalize hq : (n + s / 2) / s = q at *
  clear hq
  generalize hh : s / 2 = t at *
  clear hh
  obtain ⟨b1, b2⟩ := b1
  obtain ⟨q1, q2⟩ := hq1
  go_enter Tryd.func79, Tryd.ntmps79
  go_wp2
  go_ret
  exact ⟨ret_int (by rw [HR.out]), rfl⟩

theorem asteps_ok (n s : Int) (w : World) (h0 : -255 ≤ n) (h1 : n ≤ 255) (s1 : 1 ≤ s) (s2 : s ≤ 64) :
    Calls Tryd.prog 79 #[.int .i64 n, .int .i64 s] w fun e w' => e = .returned (.int .i64 (rnd n s)) ∧ w = w' := by
  by_cases h : 0 ≤ n
  · exact asteps_up n s w h h1 s1 s2
  · have K := hide (asteps_up (-n) s w (by omega) (by omega) s1 s2)
    have HR : Hid (rnd n s = -rnd (-n) s) := rnd_neg (by omega)
    have hq := rnd_up s1 (show 0 ≤ -n by omega)
    generalize rnd (-n) s = q at *
    obtain ⟨q1, q2⟩ := hq
    go_enter Tryd.func79, Tryd.ntmps79
    go_wp2_with fail
    refine (K.out).mono ?_
    rintro e w1 ⟨rfl, rfl⟩
    go_wp2
    go_ret
    exact ⟨ret_int (by rw [HR.out]), rfl⟩
end Go.Proofs.YtjhflcgphejddaaDoor
