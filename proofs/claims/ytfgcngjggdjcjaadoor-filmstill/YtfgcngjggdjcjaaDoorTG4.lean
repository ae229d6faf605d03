/-
  Lemmas for the law above, joined into one text (AlDe, BestN). No statement is proved here.
-/
import Derived.Test.YtfgcngjggdjcjaaDoorTG3
import Derived.Test.YtfgcngjggdjcjaaDoorTG0
namespace Go.Proofs.YtfgcngjggdjcjaaDoor
set_option linter.unusedVariables false
set_option maxRecDepth 100000

/-- What a picture is coded as, where it may be and where not. -/
def enM (a b : Int) (n : Nat) (f : Nat → Int) (s : Int) : Nat := if encF a b n f s = 0 then n else 0
def enG (a s : Int) (f : Nat → Int) : Nat → Int := restF a.toNat s (byPix s f)
theorem enM_le (a b : Int) (n : Nat) (f : Nat → Int) (s : Int) : enM a b n f s ≤ 36 := by
  unfold enM
  split
  · rename_i h
    obtain ⟨⟨A, B, o⟩, _⟩ := encF_zero.1 h
    exact o.le
  · omega
/-- What rests tell, where they may and where not. -/
def deX (a b s : Int) (n : Nat) (f : Nat → Int) : Int := if decF a b s n f = 0 then a else 0
def deY (a b s : Int) (n : Nat) (f : Nat → Int) : Int := if decF a b s n f = 0 then b else 0
def deM (a b s : Int) (n : Nat) (f : Nat → Int) : Nat := if decF a b s n f = 0 then n else 0
def deG (a s : Int) (f : Nat → Int) : Nat → Int := tellF a.toNat s fun i _ => f i
theorem deM_le (a b s : Int) (n : Nat) (f : Nat → Int) : deM a b s n f ≤ 36 := by
  unfold deM
  split
  · rename_i h
    obtain ⟨A, B, o⟩ := decF_zero.1 h
    exact o.le
  · omega
end Go.Proofs.YtfgcngjggdjcjaaDoor

namespace Go.Proofs.YtfgcngjggdjcjaaDoor
set_option linter.unusedVariables false
set_option maxRecDepth 100000

/-- Of the first some the first that is least. -/
def bestI (D : Nat → Nat) : Nat → Nat
  | 0 => 0
  | i + 1 => if D i < D (bestI D i) then i else bestI D i
theorem bestI_lt {D : Nat → Nat} : ∀ {n}, bestI D n < n + 1
  | 0 => Nat.zero_lt_one
  | n + 1 => by
    have := bestI_lt (D := D) (n := n)
    show (if D n < D (bestI D n) then n else bestI D n) < n + 1 + 1
    split <;> omega
theorem bestI_lt' {D : Nat → Nat} : ∀ {n}, 0 < n → bestI D n < n
  | 1, _ => by
    show (if D 0 < D 0 then 0 else 0) < 1
    split <;> omega
  | n + 2, _ => by
    have := bestI_lt' (D := D) (n := n + 1) (by omega)
    show (if D (n + 1) < D (bestI D (n + 1)) then n + 1 else bestI D (n + 1)) < n + 2
    split <;> omega
theorem bestI_le {D : Nat → Nat} : ∀ {n k}, k < n → D (bestI D n) ≤ D k
  | n + 1, k, h => by
    show D (if D n < D (bestI D n) then n else bestI D n) ≤ D k
    by_cases c : k = n
    · subst c
      split <;> omega
    · have := bestI_le (D := D) (n := n) (k := k) (by omega)
      split <;> omega
theorem bestI_none {D : Nat → Nat} (h : ∀ i, D 0 ≤ D i) : ∀ n, bestI D n = 0
  | 0 => rfl
  | n + 1 => by
    have := h n
    show (if D n < D (bestI D n) then n else bestI D n) = 0
    rw [bestI_none h n, if_neg (by omega)]
theorem bestI_step {D : Nat → Nat} {i : Nat} : bestI D (i + 1) = if D i < D (bestI D i) then i else bestI D i := rfl
theorem bestI_first {D : Nat → Nat} (h : D 0 = 0) : ∀ n, bestI D n = 0
  | 0 => rfl
  | n + 1 => by
    show (if D n < D (bestI D n) then n else bestI D n) = 0
    rw [bestI_first h n, if_neg (by omega)]
end Go.Proofs.YtfgcngjggdjcjaaDoor
