/-
  Our own contracts of wheel.When over this seat's translation, its ways out. Lemmas for the laws above; no statement is proved here.
-/
import Derived.Test.YtkbnoebhckngaaaDoorWhK
import Derived.Test.YtkbnoebhckngaaaDoorWhWhN
namespace Go.Proofs.YtkbnoebhckngaaaDoor
open Go.RowKit
set_option linter.unusedVariables false
set_option maxRecDepth 100000

/-- The error that a fault stands for. -/
def errV (f : Nat) : Value := if f = 0 then .nilIface else .iface 38 (.int .i64 f)
theorem when_range (k e s : Int) (w : World) (h : ¬ WhOk k e ∨ s < 1 ∨ 10000 < s) :
    Calls Tryd.prog 10 #[.int .i64 k, .int .i64 e, .int .i64 s] w fun r w' => r = .returned (.tuple #[.int .i64 0, .iface 38 (.int .i64 1)]) ∧ w = w' := by
  by_cases hk : WhOk k e
  · have T := hide (turns_ok k e w hk)
    by_cases ht : s < 1
    · clear h hk
      go_enter Tryd.func10, Tryd.ntmps10
      go_wp2_with fail
      refine (T.out).mono ?_
      rintro r w1 ⟨rfl, rfl⟩
      go_wp2
      go_ret2
      exact ⟨rfl, rfl⟩
    · have ht2 : 10000 < s := by
        rcases h with h | h | h
        · exact absurd hk h
        · omega
        · exact h
      clear h hk
      go_enter Tryd.func10, Tryd.ntmps10
      go_wp2_with fail
      refine (T.out).mono ?_
      rintro r w1 ⟨rfl, rfl⟩
      go_wp2
      go_ret2
      exact ⟨rfl, rfl⟩
  · have T := hide (turns_not k e w hk)
    clear h hk
    go_enter Tryd.func10, Tryd.ntmps10
    go_wp2_with fail
    refine (T.out).mono ?_
    rintro r w1 ⟨rfl, rfl⟩
    go_wp2
    go_ret2
    exact ⟨rfl, rfl⟩
set_option maxHeartbeats 1000000 in
theorem when_ok (k e s : Nat) (w : World) (hk : 1 ≤ k) (hk2 : k ≤ 16) (he : e ≤ 16) (hs : 1 ≤ s) (hs2 : s ≤ 10000) :
    Calls Tryd.prog 10 #[.int .i64 k, .int .i64 e, .int .i64 s] w fun r w' => ∃ f t : Nat, IsWhen k e s f t ∧ r = .returned (.tuple #[.int .i64 t, errV f]) ∧ ∃ n, w' = w.drewN n := by
  have T := hide (turns_ok k e w ⟨by omega, by omega, by omega, by omega⟩)
  have h0 : ¬ (s : Int) < 1 := by omega
  have h1 : ¬ 10000 < (s : Int) := by omega
  by_cases hsk : s ≤ k
  · have I := hide (isWhen_low (e := e) hs hsk hk2)
    have hsk' : (s : Int) ≤ (k : Int) := by omega
    have ht : (s : Int) - 1 = ((s - 1 : Nat) : Int) := by omega
    have hB : ((s - 1 : Nat) : Int) ≤ 10000 := by omega
    generalize s - 1 = t at *
    go_enter Tryd.func10, Tryd.ntmps10
    go_wp2_with fail
    refine (T.out).mono ?_
    rintro r w1 ⟨rfl, rfl⟩
    go_wp2
    go_ret2
    exact ⟨0, t, I.out, rfl, 0, rfl⟩
  · have hsk' : ¬ (s : Int) ≤ (k : Int) := by omega
    by_cases he0 : e = 0
    · subst he0
      have I := hide (isWhen_none (s := s) hk (by omega))
      go_enter Tryd.func10, Tryd.ntmps10
      go_wp2_with fail
      refine (T.out).mono ?_
      rintro r w1 ⟨rfl, rfl⟩
      go_wp2
      go_ret2
      exact ⟨5, 0, I.out, rfl, 0, rfl⟩
    · have ha : (s : Int) - (k : Int) - 1 = ((s - k - 1 : Nat) : Int) := by omega
      have hM := fun (ht : (s - k - 1) / e * (k + e) + k + (s - k - 1) % e ≤ 1000) => isWhen_more (e := e) hk (by omega : k < s) (by omega) rfl rfl ht
      have hL := fun (ht : 1000 < (s - k - 1) / e * (k + e) + k + (s - k - 1) % e) => isWhen_late (e := e) hk (by omega : k < s) rfl rfl ht
      have hab : s - k - 1 ≤ 10000 := by omega
      generalize s - k - 1 = a at *
      have hd : (a : Int) / (e : Int) = ((a / e : Nat) : Int) := (Int.natCast_ediv a e).symm
      have hm : (a : Int) % (e : Int) = ((a % e : Nat) : Int) := (Int.natCast_emod a e).symm
      have hd2 : (a : Int).tdiv (e : Int) = ((a / e : Nat) : Int) := by rw [Int.tdiv_eq_ediv_of_nonneg (by omega)]; exact hd
      have hm2 : (a : Int).tmod (e : Int) = ((a % e : Nat) : Int) := by rw [Int.tmod_eq_emod_of_nonneg (by omega)]; exact hm
      have hq : a / e ≤ 10000 := Nat.le_trans (Nat.div_le_self a e) hab
      have hr : a % e < e := Nat.mod_lt _ (by omega)
      generalize a / e = q at *
      generalize a % e = d at *
      have hp1 : ((q * (k + e) : Nat) : Int) = (q : Int) * ((k : Int) + (e : Int)) := by rw [whmul, Int.natCast_add]
      have hp2 : q * (k + e) ≤ 10000 * 32 := Nat.mul_le_mul hq (by omega)
      have HM := hide hM
      have HL := hide hL
      have hpp : (q : Int) * ((k : Int) + (e : Int)) = ((q * (k + e) : Nat) : Int) := hp1.symm
      clear hM hL hp1
      generalize q * (k + e) = P at *
      have hsum : (P : Int) + (k : Int) + (d : Int) = ((P + k + d : Nat) : Int) := by omega
      have he' : ((e : Int) == 0) = false := by rw [beq_eq_false_iff_ne]; omega
      have he1 : (e : Int) ≠ 0 := by omega
      by_cases hlate : 1000 < P + k + d
      · have I := hide (HL.out hlate)
        have hl2 : 1000 < ((P + k + d : Nat) : Int) := by omega
        generalize hX : P + k + d = X at *
        have hXb : X ≤ 400000 := by omega
        clear HM HL hlate hX
        go_enter Tryd.func10, Tryd.ntmps10
        go_wp2_with fail
        refine (T.out).mono ?_
        rintro r w1 ⟨rfl, rfl⟩
        go_wp2_with fail
        go_quiet (fail)
        go_wp2
        go_ret2
        exact ⟨5, 0, I.out, rfl, _, rfl⟩
      · have I := hide (HM.out (by omega))
        have hl2 : ¬ 1000 < ((P + k + d : Nat) : Int) := by omega
        generalize hX : P + k + d = X at *
        have hXb : X ≤ 1000 := by omega
        clear HM HL hlate hX
        go_enter Tryd.func10, Tryd.ntmps10
        go_wp2_with fail
        refine (T.out).mono ?_
        rintro r w1 ⟨rfl, rfl⟩
        go_wp2_with fail
        go_quiet (fail)
        go_wp2
        go_ret2
        exact ⟨0, X, I.out, rfl, _, rfl⟩
end Go.Proofs.YtkbnoebhckngaaaDoor
