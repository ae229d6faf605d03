/-
  The numbers behind a number, as the document's chance tells them. Lemmas for the laws above; no statement is proved here.
-/
import Derived.Test.YtkbnoebhckngaaaDoorBase
namespace Go.Proofs.YtkbnoebhckngaaaDoor
set_option linter.unusedVariables false
set_option maxRecDepth 100000

/-- The number behind n. -/
def nxt (n : Int) : Int := 16807 * n % 2147483647
/-- A number that has one behind it. -/
def Num (n : Int) : Prop := 1 ≤ n ∧ n ≤ 2147483646
theorem Num.nxt {n : Int} (h : Num n) : Num (nxt n) := by
  obtain ⟨h1, h2⟩ := h
  unfold Num Proofs.YtkbnoebhckngaaaDoor.nxt
  omega
theorem nxt_back {n : Int} (h : Num n) : nxt n * 1407677000 % 2147483647 = n := by
  obtain ⟨h1, h2⟩ := h
  unfold nxt
  omega
/-- The k-th number behind n. -/
def rowV (n : Int) : Nat → Int
  | 0 => n
  | k + 1 => nxt (rowV n k)
theorem Num.rowV {n : Int} (h : Num n) : ∀ k, Num (rowV n k)
  | 0 => h
  | k + 1 => (Num.rowV h k).nxt
end Go.Proofs.YtkbnoebhckngaaaDoor
