/-
  Lemmas for the law above, joined into one text (AlE0, AlS0, AlR, IsAt). No statement is proved here.
-/
import Derived.Test.YtjhflcgphejddaaDoorHG9
import Derived.Test.YtjhflcgphejddaaDoorHG0
import Derived.Test.YtjhflcgphejddaaDoorHG1
namespace Go.Proofs.YtjhflcgphejddaaDoor
open Go.RowKit
set_option linter.unusedVariables false
set_option maxRecDepth 100000

theorem astep_ok (n : Int) (w : World) : Calls Tryd.prog 69 #[.int .i64 n] w fun e w' => e = .returned (.bool (stepOk n)) ∧ w = w' := by
  rcases Int.lt_or_le n 1 with h | h
  · go_enter Tryd.func69, Tryd.ntmps69
    go_wp2
    go_ret
    exact ⟨ret_bool (stepOk_not.2 (Or.inl h)).symm, rfl⟩
  · rcases Int.lt_or_le 64 n with k | k
    · go_enter Tryd.func69, Tryd.ntmps69
      go_wp2
      go_ret
      exact ⟨ret_bool (by first | exact (stepOk_not.2 (Or.inr k)).symm | (rw [Bool.eq_iff_iff, stepOk_iff, decide_eq_true_iff]; omega)), rfl⟩
    · go_enter Tryd.func69, Tryd.ntmps69
      go_wp2
      go_ret
      exact ⟨ret_bool (stepOk_iff.2 ⟨h, k⟩).symm, rfl⟩
theorem aapart_ok (n : Int) (w : World) : Calls Tryd.prog 71 #[.int .i64 n] w fun e w' => e = .returned (.bool (restOk n)) ∧ w = w' := by
  rcases Int.lt_or_le n (-255) with h | h
  · go_enter Tryd.func71, Tryd.ntmps71
    go_wp2
    go_ret
    exact ⟨ret_bool (restOk_not.2 (Or.inl h)).symm, rfl⟩
  · rcases Int.lt_or_le 255 n with k | k
    · go_enter Tryd.func71, Tryd.ntmps71
      go_wp2
      go_ret
      exact ⟨ret_bool (by first | exact (restOk_not.2 (Or.inr k)).symm | (rw [Bool.eq_iff_iff, restOk_iff, decide_eq_true_iff]; omega)), rfl⟩
    · go_enter Tryd.func71, Tryd.ntmps71
      go_wp2
      go_ret
      exact ⟨ret_bool (restOk_iff.2 ⟨h, k⟩).symm, rfl⟩
end Go.Proofs.YtjhflcgphejddaaDoor

namespace Go.Proofs.YtjhflcgphejddaaDoor
open Go.RowKit
set_option linter.unusedVariables false
set_option maxRecDepth 100000

set_option maxHeartbeats 1000000 in
theorem asteps_up (n s : Int) (w : World) (h0 : 0 ≤ n) (h1 : n ≤ 255) (s1 : 1 ≤ s) (s2 : s ≤ 64) :
    Calls Tryd.prog 79 #[.int .i64 n, .int .i64 s] w fun e w' => e = .returned (.int .i64 (rnd n s)) ∧ w = w' := by
  have HR : Hid (rnd n s = (n + s / 2) / s) := rnd_pos h0
  have hq1 := rnd_up s1 h0
  rw [HR.out] at hq1
  have g1 : s.tdiv 2 = s / 2 := Int.tdiv_eq_ediv_of_nonneg (by omega)
  have g2 : (n + s / 2).tdiv s = (n + s / 2) / s := Int.tdiv_eq_ediv_of_nonneg (by omega)
  have b1 : 0 ≤ s / 2 ∧ s / 2 ≤ 32 := by omega
  generalize hq : (n + s / 2) / s = q at *
  clear hq
  generalize hh : s / 2 = t at *
  clear hh
  obtain ⟨b1, b2⟩ := b1
  obtain ⟨q1, q2⟩ := hq1
  go_enter Tryd.func79, Tryd.ntmps79
  go_wp2
  go_ret
  exact ⟨ret_int (by rw [HR.out]), rfl⟩

theorem asteps_ok (n s : Int) (w : World) (h0 : -255 ≤ n) (h1 : n ≤ 255) (s1 : 1 ≤ s) (s2 : s ≤ 64) :
    Calls Tryd.prog 79 #[.int .i64 n, .int .i64 s] w fun e w' => e = .returned (.int .i64 (rnd n s)) ∧ w = w' := by
  by_cases h : 0 ≤ n
  · exact asteps_up n s w h h1 s1 s2
  · have K := hide (asteps_up (-n) s w (by omega) (by omega) s1 s2)
    have HR : Hid (rnd n s = -rnd (-n) s) := rnd_neg (by omega)
    have hq := rnd_up s1 (show 0 ≤ -n by omega)
    generalize rnd (-n) s = q at *
    obtain ⟨q1, q2⟩ := hq
    go_enter Tryd.func79, Tryd.ntmps79
    go_wp2_with fail
    refine (K.out).mono ?_
    rintro e w1 ⟨rfl, rfl⟩
    go_wp2
    go_ret
    exact ⟨ret_int (by rw [HR.out]), rfl⟩
end Go.Proofs.YtjhflcgphejddaaDoor

namespace Go.Proofs.YtjhflcgphejddaaDoor
open Go.RowKit
set_option linter.unusedVariables false
set_option maxRecDepth 100000

def rndV (n s : Int) : Int := if rndF n s = 0 then rnd n s else 0
theorem around_any (n s : Int) (w : World) :
    Calls Tryd.prog 78 #[.int .i64 n, .int .i64 s] w fun e w' => e = .returned (.tuple #[.int .i64 (rndV n s), errN (rndF n s)]) ∧ w = w' := by
  have S1 := hide (astep_ok s w)
  have S2 := hide (aapart_ok n w)
  cases h1 : stepOk s with
  | false =>
    have HE : Hid (rndF n s = 1) := by unfold Hid rndF; rw [h1, if_neg (by simp)]
    have HV : Hid (rndV n s = 0) := by unfold Hid rndV; rw [HE.out, if_neg (by decide)]
    rw [h1] at S1
    clear h1
    go_enter Tryd.func78, Tryd.ntmps78
    go_wp2_with fail
    refine (S1.out).mono ?_
    rintro e w1 ⟨rfl, rfl⟩
    go_wp2
    go_ret2
    exact ⟨by rw [HE.out, HV.out]; rfl, rfl⟩
  | true =>
    rw [h1] at S1
    cases h2 : restOk n with
    | false =>
      have HE : Hid (rndF n s = 1) := by unfold Hid rndF; rw [h2, if_neg (by simp)]
      have HV : Hid (rndV n s = 0) := by unfold Hid rndV; rw [HE.out, if_neg (by decide)]
      rw [h2] at S2
      clear h1 h2
      go_enter Tryd.func78, Tryd.ntmps78
      go_wp2_with fail
      refine (S1.out).mono ?_
      rintro e w1 ⟨rfl, rfl⟩
      go_wp2_with fail
      refine (S2.out).mono ?_
      rintro e w1 ⟨rfl, rfl⟩
      go_wp2
      go_ret2
      exact ⟨by rw [HE.out, HV.out]; rfl, rfl⟩
    | true =>
      rw [h2] at S2
      have HE : Hid (rndF n s = 0) := by unfold Hid rndF; rw [h1, h2, if_pos ⟨rfl, rfl⟩]
      have q1 := stepOk_iff.1 h1
      have q2 := restOk_iff.1 h2
      have K := hide (asteps_ok n s w q2.1 q2.2 q1.1 q1.2)
      have HV : Hid (rndV n s = rnd n s) := by unfold Hid rndV; rw [HE.out, if_pos rfl]
      clear h1 h2 q1 q2
      generalize hr : rnd n s = r at *
      go_enter Tryd.func78, Tryd.ntmps78
      go_wp2_with fail
      refine (S1.out).mono ?_
      rintro e w1 ⟨rfl, rfl⟩
      go_wp2_with fail
      refine (S2.out).mono ?_
      rintro e w1 ⟨rfl, rfl⟩
      go_wp2_with fail
      refine (K.out).mono ?_
      rintro e w1 ⟨rfl, rfl⟩
      go_wp2
      go_ret2
      exact ⟨by rw [HE.out, HV.out]; rfl, rfl⟩
end Go.Proofs.YtjhflcgphejddaaDoor

namespace Go.Proofs.YtjhflcgphejddaaDoor
open Go.RowKit
set_option linter.unusedVariables false
set_option maxRecDepth 100000

/-- Where a first one is found, or that none is. -/
def IsAt (q : Nat → Bool) (n : Nat) (i : Int) : Prop := (i = -1 ∧ ∀ j, j < n → q j = false) ∨ ∃ j : Nat, i = j ∧ j < n ∧ q j = true
end Go.Proofs.YtjhflcgphejddaaDoor
