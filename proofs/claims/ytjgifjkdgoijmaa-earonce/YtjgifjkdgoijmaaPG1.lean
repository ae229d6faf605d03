/-
  Lemmas for the law above, joined into one text (ChN, ChB). No statement is proved here.
-/
import Derived.Test.YtjgifjkdgoijmaaPG0
namespace Go.Proofs.Ytjgifjkdgoijmaa
set_option linter.unusedVariables false
set_option maxRecDepth 100000

/-- The number behind n. -/
def nxt (n : Int) : Int := 16807 * n % 2147483647
/-- A number that has one behind it. -/
def Num (n : Int) : Prop := 1 ≤ n ∧ n ≤ 2147483646
theorem Num.nxt {n : Int} (h : Num n) : Num (nxt n) := by
  obtain ⟨h1, h2⟩ := h
  unfold Num Proofs.Ytjgifjkdgoijmaa.nxt
  omega
theorem nxt_back {n : Int} (h : Num n) : nxt n * 1407677000 % 2147483647 = n := by
  obtain ⟨h1, h2⟩ := h
  unfold nxt
  omega
/-- The k-th number behind n. -/
def rowV (n : Int) : Nat → Int
  | 0 => n
  | k + 1 => nxt (rowV n k)
theorem Num.rowV {n : Int} (h : Num n) : ∀ k, Num (rowV n k)
  | 0 => h
  | k + 1 => (Num.rowV h k).nxt
end Go.Proofs.Ytjgifjkdgoijmaa

namespace Go.Proofs.Ytjgifjkdgoijmaa
open Go.RowKit
set_option linter.unusedVariables false
set_option maxRecDepth 100000

theorem may_ok (n : Int) (w : World) (h : Num n) : Calls Try.prog 44 #[.int .i64 n] w fun e w' => e = .returned (.bool true) ∧ w = w' := by
  obtain ⟨h1, h2⟩ := h
  go_enter Try.func44, Try.ntmps44
  go_wp2
  go_ret
  exact ⟨ret_bool (by simp <;> omega), rfl⟩
theorem may_not (n : Int) (w : World) (h : n < 1 ∨ 2147483646 < n) : Calls Try.prog 44 #[.int .i64 n] w fun e w' => e = .returned (.bool false) ∧ w = w' := by
  rcases h with h | h
  · go_enter Try.func44, Try.ntmps44
    go_wp2
    go_ret
    exact ⟨ret_bool (by first | rfl | simp <;> omega), rfl⟩
  · go_enter Try.func44, Try.ntmps44
    go_wp2
    go_ret
    exact ⟨ret_bool (by first | rfl | simp <;> omega), rfl⟩
theorem step_ok (n : Int) (w : World) (h : Num n) : Calls Try.prog 45 #[.int .i64 n] w fun e w' => e = .returned (.int .i64 (nxt n)) ∧ w = w' := by
  obtain ⟨h1, h2⟩ := h
  go_enter Try.func45, Try.ntmps45
  go_wp2
  go_ret
  exact ⟨ret_int (by unfold nxt; first | rfl | omega), rfl⟩

theorem below_ok (n b : Int) (w : World) (h : Num n) (h1 : 1 ≤ b) (h2 : b ≤ 1000) : Calls Try.prog 27 #[.int .i64 n, .int .i64 b] w fun e w' => e = .returned (.tuple #[.int .i64 (nxt n % b), .int .i64 (nxt n), .nilIface]) ∧ w = w' := by
  have M := hide (may_ok n w h)
  have S := hide (step_ok n w h)
  obtain ⟨h3, h4⟩ := h.nxt
  generalize nxt n = x at *
  go_enter Try.func27, Try.ntmps27
  go_wp2_with fail
  refine (M.out).mono ?_
  rintro e w1 ⟨rfl, rfl⟩
  go_wp2_with fail
  refine (S.out).mono ?_
  rintro e w1 ⟨rfl, rfl⟩
  go_wp2
  go_ret3
  exact ⟨rfl, rfl⟩
theorem below_range (n b : Int) (w : World) (h : ¬ Num n ∨ b < 1 ∨ 1000 < b) : Calls Try.prog 27 #[.int .i64 n, .int .i64 b] w fun e w' => e = .returned (.tuple #[.int .i64 0, .int .i64 0, .iface 40 (.int .i64 1)]) ∧ w = w' := by
  by_cases hn : Num n
  · have M := hide (may_ok n w hn)
    by_cases hb : b < 1
    · go_enter Try.func27, Try.ntmps27
      go_wp2_with fail
      refine (M.out).mono ?_
      rintro e w1 ⟨rfl, rfl⟩
      go_wp2
      go_ret3
      exact ⟨rfl, rfl⟩
    · have hb2 : 1000 < b := by
        rcases h with h | h | h
        · exact absurd hn h
        · omega
        · exact h
      clear h hn
      go_enter Try.func27, Try.ntmps27
      go_wp2_with fail
      refine (M.out).mono ?_
      rintro e w1 ⟨rfl, rfl⟩
      go_wp2
      go_ret3
      exact ⟨rfl, rfl⟩
  · have M := hide (may_not n w (by unfold Num at hn; omega))
    clear h hn
    go_enter Try.func27, Try.ntmps27
    go_wp2_with fail
    refine (M.out).mono ?_
    rintro e w1 ⟨rfl, rfl⟩
    go_wp2
    go_ret3
    exact ⟨rfl, rfl⟩
end Go.Proofs.Ytjgifjkdgoijmaa
