/-
  Lemmas for the law above, joined into one text (AlR, AlE). No statement is proved here.
-/
import Derived.Test.YtfgcngjggdjcjaaDoorTG3
import Derived.Test.YtfgcngjggdjcjaaDoorTG13
namespace Go.Proofs.YtfgcngjggdjcjaaDoor
open Go.RowKit
set_option linter.unusedVariables false
set_option maxRecDepth 100000

def rndV (n s : Int) : Int := if rndF n s = 0 then rnd n s else 0
theorem around_any (n s : Int) (w : World) :
    Calls Tryd.prog 48 #[.int .i64 n, .int .i64 s] w fun e w' => e = .returned (.tuple #[.int .i64 (rndV n s), errN (rndF n s)]) ∧ w = w' := by
  have S1 := hide (astep_ok s w)
  have S2 := hide (aapart_ok n w)
  cases h1 : stepOk s with
  | false =>
    have HE : Hid (rndF n s = 1) := by unfold Hid rndF; rw [h1, if_neg (by simp)]
    have HV : Hid (rndV n s = 0) := by unfold Hid rndV; rw [HE.out, if_neg (by decide)]
    rw [h1] at S1
    clear h1
    go_enter Tryd.func48, Tryd.ntmps48
    go_wp2_with fail
    refine (S1.out).mono ?_
    rintro e w1 ⟨rfl, rfl⟩
    go_wp2
    go_ret2
    exact ⟨by rw [HE.out, HV.out]; rfl, rfl⟩
  | true =>
    rw [h1] at S1
    cases h2 : restOk n with
    | false =>
      have HE : Hid (rndF n s = 1) := by unfold Hid rndF; rw [h2, if_neg (by simp)]
      have HV : Hid (rndV n s = 0) := by unfold Hid rndV; rw [HE.out, if_neg (by decide)]
      rw [h2] at S2
      clear h1 h2
      go_enter Tryd.func48, Tryd.ntmps48
      go_wp2_with fail
      refine (S1.out).mono ?_
      rintro e w1 ⟨rfl, rfl⟩
      go_wp2_with fail
      refine (S2.out).mono ?_
      rintro e w1 ⟨rfl, rfl⟩
      go_wp2
      go_ret2
      exact ⟨by rw [HE.out, HV.out]; rfl, rfl⟩
    | true =>
      rw [h2] at S2
      have HE : Hid (rndF n s = 0) := by unfold Hid rndF; rw [h1, h2, if_pos ⟨rfl, rfl⟩]
      have q1 := stepOk_iff.1 h1
      have q2 := restOk_iff.1 h2
      have K := hide (asteps_ok n s w q2.1 q2.2 q1.1 q1.2)
      have HV : Hid (rndV n s = rnd n s) := by unfold Hid rndV; rw [HE.out, if_pos rfl]
      clear h1 h2 q1 q2
      generalize hr : rnd n s = r at *
      go_enter Tryd.func48, Tryd.ntmps48
      go_wp2_with fail
      refine (S1.out).mono ?_
      rintro e w1 ⟨rfl, rfl⟩
      go_wp2_with fail
      refine (S2.out).mono ?_
      rintro e w1 ⟨rfl, rfl⟩
      go_wp2_with fail
      refine (K.out).mono ?_
      rintro e w1 ⟨rfl, rfl⟩
      go_wp2
      go_ret2
      exact ⟨by rw [HE.out, HV.out]; rfl, rfl⟩
end Go.Proofs.YtfgcngjggdjcjaaDoor

namespace Go.Proofs.YtfgcngjggdjcjaaDoor
open Go.RowKit
set_option linter.unusedVariables false
set_option maxRecDepth 100000

theorem aside_ok (n : Int) (w : World) : Calls Tryd.prog 55 #[.int .i64 n] w fun e w' => e = .returned (.bool (sideOk n)) ∧ w = w' := by
  rcases Int.lt_or_le n 1 with h | h
  · go_enter Tryd.func55, Tryd.ntmps55
    go_wp2
    go_ret
    exact ⟨ret_bool (sideOk_not.2 (Or.inl h)).symm, rfl⟩
  · rcases Int.lt_or_le 6 n with k | k
    · go_enter Tryd.func55, Tryd.ntmps55
      go_wp2
      go_ret
      exact ⟨ret_bool (by first | exact (sideOk_not.2 (Or.inr k)).symm | (rw [Bool.eq_iff_iff, sideOk_iff, decide_eq_true_iff]; omega)), rfl⟩
    · go_enter Tryd.func55, Tryd.ntmps55
      go_wp2
      go_ret
      exact ⟨ret_bool (sideOk_iff.2 ⟨h, k⟩).symm, rfl⟩
end Go.Proofs.YtfgcngjggdjcjaaDoor
