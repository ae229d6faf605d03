/-
  Our own contracts of wheel.At over this seat's translation, its ways out. Lemmas for the laws above; no statement is proved here.
-/
import Derived.Test.YtkbnoebhckngaaaDoorWhN
import Derived.Deep.QuietTactic
import Derived.BigQuiet
namespace Go.Proofs.YtkbnoebhckngaaaDoor
open Go.RowKit
set_option linter.unusedVariables false
set_option maxRecDepth 100000

theorem turns_ok (k e : Int) (w : World) (h : WhOk k e) : Calls Tryd.prog 13 #[.int .i64 k, .int .i64 e] w fun r w' => r = .returned (.bool true) ∧ w = w' := by
  obtain ⟨h1, h2, h3, h4⟩ := h
  go_enter Tryd.func13, Tryd.ntmps13
  go_wp2
  go_ret
  exact ⟨ret_bool (by simp <;> omega), rfl⟩
theorem turns_not (k e : Int) (w : World) (h : ¬ WhOk k e) : Calls Tryd.prog 13 #[.int .i64 k, .int .i64 e] w fun r w' => r = .returned (.bool false) ∧ w = w' := by
  have h' : k < 1 ∨ (1 ≤ k ∧ 16 < k) ∨ (1 ≤ k ∧ k ≤ 16 ∧ e < 0) ∨ (1 ≤ k ∧ k ≤ 16 ∧ 0 ≤ e ∧ 16 < e) := by
    unfold WhOk at h
    omega
  clear h
  rcases h' with h | ⟨h1, h⟩ | ⟨h1, h2, h⟩ | ⟨h1, h2, h3, h⟩ <;>
  · go_enter Tryd.func13, Tryd.ntmps13
    go_wp2
    go_ret
    exact ⟨ret_bool (by first | rfl | simp <;> omega), rfl⟩
theorem whmul {q e : Nat} : ((q * e : Nat) : Int) = (q : Int) * (e : Int) := Int.natCast_mul q e
theorem comes_ok (k e t : Nat) (w : World) (hk : 1 ≤ k) (hk2 : k ≤ 16) (he : e ≤ 16) (ht : t ≤ 1000) :
    Calls Tryd.prog 14 #[.int .i64 k, .int .i64 e, .int .i64 t] w fun r w' => r = .returned (.tuple #[.int .i64 (whAt k e t), .nilIface]) ∧ ∃ n, w' = w.drewN n := by
  have hle := whAt_le (k := k) (e := e) (t := t)
  obtain ⟨q, p, hp, hqp⟩ := wh_parts (e := e) t hk
  have hW := whAt_of (q := q) hp
  rw [← hqp] at hW
  have hd : (t : Int) / ((k : Int) + (e : Int)) = (q : Int) := by
    rw [hqp, ← Int.natCast_add, ← Int.natCast_ediv, Nat.mul_comm, Nat.mul_add_div (by omega), Nat.div_eq_of_lt hp]; simp
  have hm : (t : Int) % ((k : Int) + (e : Int)) = (p : Int) := by
    rw [hqp, ← Int.natCast_add, ← Int.natCast_emod, Nat.mul_comm, Nat.mul_add_mod, Nat.mod_eq_of_lt hp]
  have hd2 : (t : Int).tdiv ((k : Int) + (e : Int)) = (q : Int) := by rw [Int.tdiv_eq_ediv_of_nonneg (by omega)]; exact hd
  have hm2 : (t : Int).tmod ((k : Int) + (e : Int)) = (p : Int) := by rw [Int.tmod_eq_emod_of_nonneg (by omega)]; exact hm
  have hqe : (0 : Int) ≤ (q : Int) * (e : Int) ∧ (q : Int) * (e : Int) ≤ 1000 := by
    have h1 : q * (k + e) = q * k + q * e := Nat.mul_add _ _ _
    have h2 : q * e ≤ 1000 := by omega
    rw [← whmul]
    omega
  obtain ⟨hqe1, hqe2⟩ := hqe
  have hq1 : q ≤ 1000 := by
    have h1 : q * 1 ≤ q * (k + e) := Nat.mul_le_mul_left q (by omega)
    omega
  have hqe3 : ((q * e : Nat) : Int) = (q : Int) * (e : Int) := whmul
  have HW := hide hW
  generalize hx : whAt k e t = x at *
  clear hx hqp hW
  by_cases hpk : k ≤ p
  · have hpk2 : (k : Int) ≤ (p : Int) := by omega
    have hx2 : (p : Int) + 1 + (q : Int) * (e : Int) = (x : Int) := by
      have := HW.out
      rw [if_pos hpk] at this
      rw [this]; omega
    go_enter Tryd.func14, Tryd.ntmps14
    go_wp2_with fail
    go_quiet (fail)
    go_wp2
    go_ret2
    exact ⟨rfl, _, rfl⟩
  · have hpk2 : ¬ (k : Int) ≤ (p : Int) := by omega
    have hx2 : (p : Int) + 1 = (x : Int) := by
      have := HW.out
      rw [if_neg hpk] at this
      omega
    go_enter Tryd.func14, Tryd.ntmps14
    go_wp2_with fail
    go_quiet (fail)
    go_wp2
    go_ret2
    exact ⟨rfl, _, rfl⟩
theorem at_ok (k e t : Nat) (w : World) (hk : 1 ≤ k) (hk2 : k ≤ 16) (he : e ≤ 16) (ht : t ≤ 1000) :
    Calls Tryd.prog 6 #[.int .i64 k, .int .i64 e, .int .i64 t] w fun r w' => r = .returned (.tuple #[.int .i64 (whAt k e t), .nilIface]) ∧ ∃ n, w' = w.drewN n := by
  have T := hide (turns_ok k e w ⟨by omega, by omega, by omega, by omega⟩)
  have C := hide (comes_ok k e t w hk hk2 he ht)
  have h0 : ¬ (t : Int) < 0 := by omega
  have h1 : ¬ 1000 < (t : Int) := by omega
  generalize whAt k e t = x at *
  go_enter Tryd.func6, Tryd.ntmps6
  go_wp2_with fail
  refine (T.out).mono ?_
  rintro r w1 ⟨rfl, rfl⟩
  go_wp2_with fail
  refine (C.out).mono ?_
  rintro r w1 ⟨rfl, n, rfl⟩
  go_wp2
  go_ret2
  exact ⟨rfl, _, rfl⟩
theorem at_range (k e t : Int) (w : World) (h : ¬ WhOk k e ∨ t < 0 ∨ 1000 < t) :
    Calls Tryd.prog 6 #[.int .i64 k, .int .i64 e, .int .i64 t] w fun r w' => r = .returned (.tuple #[.int .i64 0, .iface 38 (.int .i64 1)]) ∧ w = w' := by
  by_cases hk : WhOk k e
  · have T := hide (turns_ok k e w hk)
    by_cases ht : t < 0
    · clear h hk
      go_enter Tryd.func6, Tryd.ntmps6
      go_wp2_with fail
      refine (T.out).mono ?_
      rintro r w1 ⟨rfl, rfl⟩
      go_wp2
      go_ret2
      exact ⟨rfl, rfl⟩
    · have ht2 : 1000 < t := by
        rcases h with h | h | h
        · exact absurd hk h
        · omega
        · exact h
      clear h hk
      go_enter Tryd.func6, Tryd.ntmps6
      go_wp2_with fail
      refine (T.out).mono ?_
      rintro r w1 ⟨rfl, rfl⟩
      go_wp2
      go_ret2
      exact ⟨rfl, rfl⟩
  · have T := hide (turns_not k e w hk)
    clear h hk
    go_enter Tryd.func6, Tryd.ntmps6
    go_wp2_with fail
    refine (T.out).mono ?_
    rintro r w1 ⟨rfl, rfl⟩
    go_wp2
    go_ret2
    exact ⟨rfl, rfl⟩
end Go.Proofs.YtkbnoebhckngaaaDoor
