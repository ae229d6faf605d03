/-
  A row of numbers that a call builds by append, as a list. Lemmas for the laws above; no function is walked, and no statement is proved here.
-/
import Derived.Test.YtjklpcabnppnaaaDoorRcN
import Derived.Test.YtjklpcabnppnaaaDoorInOwn0
namespace Go.Proofs.YtjklpcabnppnaaaDoor
open Go.RowKit
set_option linter.unusedVariables false
set_option maxRecDepth 100000

/-- Numbers as a row holds them. -/
def encI (l : List Int) : List Value := l.map fun b => .int .i64 b
theorem encI_nil : encI [] = [] := rfl
theorem encI_snoc (l : List Int) (b : Int) : encI (l ++ [b]) = encI l ++ [.int .i64 b] := by simp [encI]
theorem encI_len (l : List Int) : (encI l).length = l.length := by simp [encI]
theorem encI_range (l : List Int) : encI l = (List.range l.length).map fun k : Nat => .int .i64 (l.getD k 0) := by
  apply List.ext_getElem
  · simp [encI]
  · intro i h1 h2
    simp [encI] at h1 ⊢
    simp [h1]
theorem rowV_in {w : World} {B n : Nat} {v : Value} {l : List Int} (h : w.ownsRow B 3 1 v n (encI l)) (hn : n = l.length) : IntsIn w v n (fun k => l.getD k 0) := by
  rw [encI_range] at h
  subst hn
  exact own_in h
theorem rowV_slice {w : World} {B n : Nat} {v : Value} {xs : List Value} (h : w.ownsRow B 3 1 v n xs) : ∃ a cap, v = .slice a n cap := by
  rcases h.2 with ⟨hv, h0⟩ | ⟨g, cap, cur, hv, _⟩
  · exact ⟨none, 0, by rw [h0]; exact hv⟩
  · exact ⟨_, cap, hv⟩
end Go.Proofs.YtjklpcabnppnaaaDoor
