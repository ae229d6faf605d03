/-
  Our own contracts of chance.Below over this seat's translation, its ways out. Lemmas for the laws above; no statement is proved here.
-/
import Derived.Test.YtkbnoebhckngaaaDoorChN
namespace Go.Proofs.YtkbnoebhckngaaaDoor
open Go.RowKit
set_option linter.unusedVariables false
set_option maxRecDepth 100000

theorem may_ok (n : Int) (w : World) (h : Num n) : Calls Tryd.prog 41 #[.int .i64 n] w fun e w' => e = .returned (.bool true) ∧ w = w' := by
  obtain ⟨h1, h2⟩ := h
  go_enter Tryd.func41, Tryd.ntmps41
  go_wp2
  go_ret
  exact ⟨ret_bool (by simp <;> omega), rfl⟩
theorem may_not (n : Int) (w : World) (h : n < 1 ∨ 2147483646 < n) : Calls Tryd.prog 41 #[.int .i64 n] w fun e w' => e = .returned (.bool false) ∧ w = w' := by
  rcases h with h | h
  · go_enter Tryd.func41, Tryd.ntmps41
    go_wp2
    go_ret
    exact ⟨ret_bool (by first | rfl | simp <;> omega), rfl⟩
  · go_enter Tryd.func41, Tryd.ntmps41
    go_wp2
    go_ret
    exact ⟨ret_bool (by first | rfl | simp <;> omega), rfl⟩
theorem step_ok (n : Int) (w : World) (h : Num n) : Calls Tryd.prog 42 #[.int .i64 n] w fun e w' => e = .returned (.int .i64 (nxt n)) ∧ w = w' := by
  obtain ⟨h1, h2⟩ := h
  go_enter Tryd.func42, Tryd.ntmps42
  go_wp2
  go_ret
  exact ⟨ret_int (by unfold nxt; first | rfl | omega), rfl⟩

theorem below_ok (n b : Int) (w : World) (h : Num n) (h1 : 1 ≤ b) (h2 : b ≤ 1000) : Calls Tryd.prog 32 #[.int .i64 n, .int .i64 b] w fun e w' => e = .returned (.tuple #[.int .i64 (nxt n % b), .int .i64 (nxt n), .nilIface]) ∧ w = w' := by
  have M := hide (may_ok n w h)
  have S := hide (step_ok n w h)
  obtain ⟨h3, h4⟩ := h.nxt
  generalize nxt n = x at *
  go_enter Tryd.func32, Tryd.ntmps32
  go_wp2_with fail
  refine (M.out).mono ?_
  rintro e w1 ⟨rfl, rfl⟩
  go_wp2_with fail
  refine (S.out).mono ?_
  rintro e w1 ⟨rfl, rfl⟩
  go_wp2
  go_ret3
  exact ⟨rfl, rfl⟩
theorem below_range (n b : Int) (w : World) (h : ¬ Num n ∨ b < 1 ∨ 1000 < b) : Calls Tryd.prog 32 #[.int .i64 n, .int .i64 b] w fun e w' => e = .returned (.tuple #[.int .i64 0, .int .i64 0, .iface 38 (.int .i64 1)]) ∧ w = w' := by
  by_cases hn : Num n
  · have M := hide (may_ok n w hn)
    by_cases hb : b < 1
    · go_enter Tryd.func32, Tryd.ntmps32
      go_wp2_with fail
      refine (M.out).mono ?_
      rintro e w1 ⟨rfl, rfl⟩
      go_wp2
      go_ret3
      exact ⟨rfl, rfl⟩
    · have hb2 : 1000 < b := by
        rcases h with h | h | h
        · exact absurd hn h
        · omega
        · exact h
      clear h hn
      go_enter Tryd.func32, Tryd.ntmps32
      go_wp2_with fail
      refine (M.out).mono ?_
      rintro e w1 ⟨rfl, rfl⟩
      go_wp2
      go_ret3
      exact ⟨rfl, rfl⟩
  · have M := hide (may_not n w (by unfold Num at hn; omega))
    clear h hn
    go_enter Tryd.func32, Tryd.ntmps32
    go_wp2_with fail
    refine (M.out).mono ?_
    rintro e w1 ⟨rfl, rfl⟩
    go_wp2
    go_ret3
    exact ⟨rfl, rfl⟩
end Go.Proofs.YtkbnoebhckngaaaDoor
