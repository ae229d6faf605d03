/-
  Of some the first that is least. No function is walked, and no statement is proved here.
-/
import Derived.Test.YtjklpcabnppnaaaDoorBase
namespace Go.Proofs.YtjklpcabnppnaaaDoor
set_option linter.unusedVariables false
set_option maxRecDepth 100000

/-- Of the first some the first that is least. -/
def bestI (D : Nat → Nat) : Nat → Nat
  | 0 => 0
  | i + 1 => if D i < D (bestI D i) then i else bestI D i
theorem bestI_lt {D : Nat → Nat} : ∀ {n}, bestI D n < n + 1
  | 0 => Nat.zero_lt_one
  | n + 1 => by
    have := bestI_lt (D := D) (n := n)
    show (if D n < D (bestI D n) then n else bestI D n) < n + 1 + 1
    split <;> omega
theorem bestI_lt' {D : Nat → Nat} : ∀ {n}, 0 < n → bestI D n < n
  | 1, _ => by
    show (if D 0 < D 0 then 0 else 0) < 1
    split <;> omega
  | n + 2, _ => by
    have := bestI_lt' (D := D) (n := n + 1) (by omega)
    show (if D (n + 1) < D (bestI D (n + 1)) then n + 1 else bestI D (n + 1)) < n + 2
    split <;> omega
theorem bestI_le {D : Nat → Nat} : ∀ {n k}, k < n → D (bestI D n) ≤ D k
  | n + 1, k, h => by
    show D (if D n < D (bestI D n) then n else bestI D n) ≤ D k
    by_cases c : k = n
    · subst c
      split <;> omega
    · have := bestI_le (D := D) (n := n) (k := k) (by omega)
      split <;> omega
theorem bestI_none {D : Nat → Nat} (h : ∀ i, D 0 ≤ D i) : ∀ n, bestI D n = 0
  | 0 => rfl
  | n + 1 => by
    have := h n
    show (if D n < D (bestI D n) then n else bestI D n) = 0
    rw [bestI_none h n, if_neg (by omega)]
theorem bestI_step {D : Nat → Nat} {i : Nat} : bestI D (i + 1) = if D i < D (bestI D i) then i else bestI D i := rfl
theorem bestI_first {D : Nat → Nat} (h : D 0 = 0) : ∀ n, bestI D n = 0
  | 0 => rfl
  | n + 1 => by
    show (if D n < D (bestI D n) then n else bestI D n) = 0
    rw [bestI_first h n, if_neg (by omega)]
end Go.Proofs.YtjklpcabnppnaaaDoor
