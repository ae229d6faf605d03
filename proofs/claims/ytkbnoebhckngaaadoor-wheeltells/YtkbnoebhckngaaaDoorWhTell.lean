/-
  Our own walks of the document's law on what a wheel says, over this seat's translation. Lemmas for the law above; no statement is proved here.
-/
import Derived.Test.YtkbnoebhckngaaaDoorErrIs
import Derived.Test.YtkbnoebhckngaaaDoorInOwn
import Derived.Test.YtkbnoebhckngaaaDoorWhRow
import Derived.Test.YtkbnoebhckngaaaDoorWhWhen
import Derived.Test.YtkbnoebhckngaaaDoorRWheel
import Derived.Deep.AppendLies
import Derived.Deep.DeepCutAuto
namespace Go.Proofs.YtkbnoebhckngaaaDoor
open Go.RowKit
set_option linter.unusedVariables false
set_option maxRecDepth 100000

theorem errV_is (f : Nat) : ErrIs f (errV f) := by
  unfold errV
  by_cases h : f = 0
  · subst h; exact Or.inl ⟨rfl, rfl⟩
  · rw [if_neg h]; exact Or.inr rfl
/-- Wheel and At say the same, whatever the time. -/
theorem at_any (k e : Nat) (t : Int) (hk : 1 ≤ k) (hk2 : k ≤ 16) (he : e ≤ 16) : ∃ x f : Nat,
    (∀ w, Calls Tryd.prog 5 #[.int .i64 k, .int .i64 e, .int .i64 t] w fun r w' => r = .returned (.tuple #[.int .i64 x, .int .i64 f]) ∧ w = w') ∧
    (∀ w, Calls Tryd.prog 6 #[.int .i64 k, .int .i64 e, .int .i64 t] w fun r w' => r = .returned (.tuple #[.int .i64 x, errV f]) ∧ ∃ n, w' = w.drewN n) := by
  by_cases h : t < 0 ∨ 1000 < t
  · exact ⟨0, 1, fun w => rwheel_range k e t w (Or.inr h), fun w => (at_range k e t w (Or.inr h)).mono fun r w' ⟨hr, hw⟩ => ⟨hr, 0, hw ▸ rfl⟩⟩
  · obtain ⟨t, rfl⟩ := Int.eq_ofNat_of_zero_le (show 0 ≤ t by omega)
    exact ⟨whAt k e t, 0, fun w => rwheel_ok k e t w hk hk2 he (by omega), fun w => at_ok k e t w hk hk2 he (by omega)⟩
theorem whOk_of {k e : Nat} (hk : 1 ≤ k) (hk2 : k ≤ 16) (he : e ≤ 16) : WhOk k e := ⟨by omega, by omega, by omega, by omega⟩

set_option maxHeartbeats 4000000 in
theorem wtells_not (k e t m s : Int) (w : World) (hg : HasErr w) (h : ¬ WhOk k e) :
    Calls Tryd.prog 3 #[.int .i64 k, .int .i64 e, .int .i64 t, .int .i64 m, .int .i64 s] w fun r w' => r = .returned (.bool true) ∧ Below w.heap.size w w' := by
  have HG := hide hg
  have HGL := hide hg.lt
  have KR := hide (fun w => rwheel_range k e t w (Or.inl h))
  have K0 := hide (fun w => rwheel_range k e 0 w (Or.inl h))
  have KA := hide (fun w => at_range k e t w (Or.inl h))
  have KO := hide (fun w => wrow_range k e t m w (Or.inl h))
  have KW := hide (fun w => when_range k e s w (Or.inl h))
  clear hg h
  go_enter Tryd.func3, Tryd.ntmps3
  go_wp2_with fail
  refine (KR.out _).mono ?_
  rintro r w1 ⟨rfl, rfl⟩
  go_wp2_with fail
  refine (KA.out _).mono ?_
  rintro r w1 ⟨rfl, rfl⟩
  have E1 := hide (error_right 1 _ w HG.out (Or.inr rfl))
  go_wp2_with fail
  refine (E1.out).mono ?_
  rintro r w1 ⟨rfl, b1⟩
  clear E1
  go_wp2_with fail
  refine (K0.out _).mono ?_
  rintro r w2 ⟨rfl, rfl⟩
  go_wp2
  go_loop [16, 17, 18] (fun f v i => f = .int .i64 1 ∧ v = .slice none 0 0 ∧ i = .int .i64 0) (fun _ _ _ => 0)
  case atStart => exact ⟨rfl, rfl, rfl⟩
  case round =>
    obtain ⟨rfl, rfl, rfl⟩ := hrel
    go_upto_region 10 with fail
    go_cut [87] (fun t wx => t = .bool false ∧ w1 = wx)
    case first =>
      by_cases h1 : 0 < m
      · go_wp2
        go_meet
        exact ⟨by first | rfl | simp, rfl⟩
      · go_wp2
        go_meet
        exact ⟨by first | rfl | simp, rfl⟩
    case rest =>
    obtain ⟨rfl, rfl⟩ := hcut
    go_wp2_with fail
    refine (KO.out _).mono ?_
    rintro r w2 ⟨rfl, rfl⟩
    have E2 := hide (error_right 1 _ w1 (HG.out.below HGL.out b1) (Or.inr rfl))
    go_wp2_with fail
    refine (E2.out).mono ?_
    rintro r w2 ⟨rfl, b2⟩
    have S := hide (ints_none none none 0 0 w2)
    have b3 := below_two b1 b2
    clear E2
    go_wp2_with fail
    refine (S.out).mono ?_
    rintro r w3 ⟨rfl, b4⟩
    have b5 := below_two b3 b4
    clear S b4 b3 b2
    go_wp2_with fail
    refine (KW.out w3).mono ?_
    rintro r w8 ⟨rfl, rfl⟩
    have E3 := hide (error_right 1 _ w3 (HG.out.below HGL.out b5) (Or.inr rfl))
    go_wp2_with fail
    refine (E3.out).mono ?_
    rintro r w9 ⟨rfl, hb9⟩
    have b9 := below_two b5 hb9
    clear hb9 E3
    go_wp2
    go_ret
    exact ⟨rfl, b9⟩
end Go.Proofs.YtkbnoebhckngaaaDoor
