/-
  Our own contracts of rice's small functions: told, isLow, the test of a number. Lemmas for the laws above; no statement is proved here.
-/
import Derived.Test.YtjklpcabnppnaaaDoorRcN
namespace Go.Proofs.YtjklpcabnppnaaaDoor
open Go.RowKit
set_option linter.unusedVariables false
set_option maxRecDepth 100000

def lowOk (n : Int) : Bool := decide (0 ≤ n) && decide (n ≤ 7)
def numOk (n : Int) : Bool := decide (-255 ≤ n) && decide (n ≤ 255)
theorem lowOk_iff {n : Int} : lowOk n = true ↔ 0 ≤ n ∧ n ≤ 7 := by simp [lowOk]
theorem lowOk_not {n : Int} : lowOk n = false ↔ n < 0 ∨ 7 < n := by rw [← Bool.not_eq_true, lowOk_iff]; omega
theorem numOk_iff {n : Int} : numOk n = true ↔ -255 ≤ n ∧ n ≤ 255 := by simp [numOk]
theorem numOk_not {n : Int} : numOk n = false ↔ n < -255 ∨ 255 < n := by rw [← Bool.not_eq_true, numOk_iff]; omega
/-- Whether each of the first is a number that may be. -/
def numsOk (f : Nat → Int) : Nat → Bool
  | 0 => true
  | n + 1 => numsOk f n && numOk (f n)
theorem numsOk_iff {f : Nat → Int} : ∀ {n}, numsOk f n = true ↔ ∀ i, i < n → -255 ≤ f i ∧ f i ≤ 255
  | 0 => ⟨fun _ i hi => absurd hi (Nat.not_lt_zero _), fun _ => rfl⟩
  | n + 1 => by
    show (numsOk f n && numOk (f n)) = true ↔ _
    rw [Bool.and_eq_true, numsOk_iff, numOk_iff]
    constructor
    · intro h i hi
      by_cases c : i = n
      · subst c; exact h.2
      · exact h.1 i (by omega)
    · intro h
      exact ⟨fun i hi => h i (by omega), h n (by omega)⟩
theorem numsOk_not {f : Nat → Int} {n i : Nat} (hi : i < n) (h : numOk (f i) = false) : numsOk f n = false := by
  rw [← Bool.not_eq_true, numsOk_iff]
  intro hall
  have := numOk_not.1 h
  have := hall i hi
  omega

theorem told_ok (n : Int) (w : World) (h : -255 ≤ n ∧ n ≤ 255) : Calls Tryd.prog 16 #[.int .i64 n] w fun e w' => e = .returned (.int .i64 (zz n : Nat)) ∧ w = w' := by
  obtain ⟨h1, h2⟩ := h
  by_cases c : n < 0
  · have HZ : Hid (((zz n : Nat) : Int) = -2 * n - 1) := by unfold Hid zz; rw [if_pos c]; omega
    go_enter Tryd.func16, Tryd.ntmps16
    go_wp2
    go_ret
    exact ⟨ret_int (by rw [HZ.out]), rfl⟩
  · have HZ : Hid (((zz n : Nat) : Int) = 2 * n) := by unfold Hid zz; rw [if_neg c]; omega
    go_enter Tryd.func16, Tryd.ntmps16
    go_wp2
    go_ret
    exact ⟨ret_int (by rw [HZ.out]), rfl⟩

theorem islow_ok (n : Int) (w : World) : Calls Tryd.prog 12 #[.int .i64 n] w fun e w' => e = .returned (.bool (lowOk n)) ∧ w = w' := by
  by_cases c : n < 0
  · have HZ : Hid (lowOk n = false) := lowOk_not.2 (Or.inl c)
    go_enter Tryd.func12, Tryd.ntmps12
    go_wp2
    go_ret
    exact ⟨ret_bool (by rw [HZ.out]), rfl⟩
  · by_cases c2 : 7 < n
    · have HZ : Hid (lowOk n = false) := lowOk_not.2 (Or.inr c2)
      go_enter Tryd.func12, Tryd.ntmps12
      go_wp2
      go_ret
      exact ⟨ret_bool (by first | (rw [HZ.out]; done) | (rw [HZ.out]; simp; done) | (rw [HZ.out]; simp; omega)), rfl⟩
    · have HZ : Hid (lowOk n = true) := lowOk_iff.2 (by omega)
      go_enter Tryd.func12, Tryd.ntmps12
      go_wp2
      go_ret
      exact ⟨ret_bool (by first | (rw [HZ.out]; done) | (rw [HZ.out]; simp; done) | (rw [HZ.out]; simp; omega)), rfl⟩

theorem nnum_ok (n : Int) (w : World) : Calls Tryd.prog 22 #[.int .i64 n] w fun e w' => e = .returned (.bool (!numOk n)) ∧ w = w' := by
  by_cases c : n < -255
  · have HZ : Hid (numOk n = false) := numOk_not.2 (Or.inl c)
    go_enter Tryd.func22, Tryd.ntmps22
    go_wp2
    go_ret
    exact ⟨ret_bool (by rw [HZ.out]; rfl), rfl⟩
  · by_cases c2 : 255 < n
    · have HZ : Hid (numOk n = false) := numOk_not.2 (Or.inr c2)
      go_enter Tryd.func22, Tryd.ntmps22
      go_wp2
      go_ret
      exact ⟨ret_bool (by first | (rw [HZ.out]; done) | (rw [HZ.out]; simp; done) | (rw [HZ.out]; simp; omega)), rfl⟩
    · have HZ : Hid (numOk n = true) := numOk_iff.2 (by omega)
      go_enter Tryd.func22, Tryd.ntmps22
      go_wp2
      go_ret
      exact ⟨ret_bool (by first | (rw [HZ.out]; done) | (rw [HZ.out]; simp; done) | (rw [HZ.out]; simp; omega)), rfl⟩
end Go.Proofs.YtjklpcabnppnaaaDoor
