/-
  What is wrong with what moved is handed, as numbers. No function is walked, and no statement is proved here.
-/
import Derived.Test.YtcicoblejaippaaDoorMvN
import Derived.Test.YtcicoblejaippaaDoorAlF
namespace Go.Proofs.YtcicoblejaippaaDoor
set_option linter.unusedVariables false
set_option maxRecDepth 100000

def mvOk (x y : Int) : Bool := (decide (-1 ≤ x) && decide (x ≤ 1)) && (decide (-1 ≤ y) && decide (y ≤ 1))
theorem mvOk_iff {x y : Int} : mvOk x y = true ↔ -1 ≤ x ∧ x ≤ 1 ∧ -1 ≤ y ∧ y ≤ 1 := by
  simp [mvOk, and_assoc]
/-- What is wrong with what was coded, of a picture of so many pixels. -/
def chkF (al : Bool) (x y : Int) (n : Nat) (f : Nat → Int) (m : Int) : Nat := if al = true then 3 else if mvOk x y = false then 1 else restsF n f m
/-- What is wrong with two pictures, and a step. -/
def menF (a b : Int) (n : Nat) (f : Nat → Int) (a' b' : Int) (n' : Nat) (f' : Nat → Int) (s : Int) : Nat :=
  if twoF a b n f a' b' n' f' ≠ 0 then twoF a b n f a' b' n' f' else if stepOk s = true then 0 else 1
/-- What is wrong with a picture, what was coded, and a step. -/
def mdeF (a b : Int) (n : Nat) (f : Nat → Int) (al : Bool) (x y : Int) (n' : Nat) (f' : Nat → Int) (s : Int) : Nat :=
  if picF a b n f ≠ 0 then picF a b n f else if stepOk s = false then 1 else chkF al x y n' f' n
theorem restsF_zero {n : Nat} {f : Nat → Int} {m : Int} : restsF n f m = 0 ↔ (n : Int) = m ∧ ∀ i, i < n → -255 ≤ f i ∧ f i ≤ 255 := by
  unfold restsF
  constructor
  · intro h
    split at h
    · cases h
    · rename_i h1
      split at h
      · cases h
      · rename_i h2
        rw [Bool.not_eq_false, restsOk_iff] at h2
        exact ⟨by omega, h2⟩
  · rintro ⟨h1, h2⟩
    rw [if_neg (by omega), restsOk_iff.2 h2, if_neg (by simp)]
theorem chkF_zero {al : Bool} {x y : Int} {n : Nat} {f : Nat → Int} {m : Int} : chkF al x y n f m = 0 ↔ al = false ∧ (-1 ≤ x ∧ x ≤ 1 ∧ -1 ≤ y ∧ y ≤ 1) ∧ (n : Int) = m ∧ ∀ i, i < n → -255 ≤ f i ∧ f i ≤ 255 := by
  unfold chkF
  constructor
  · intro h
    split at h
    · cases h
    · rename_i h1
      split at h
      · cases h
      · rename_i h2
        rw [Bool.not_eq_false, mvOk_iff] at h2
        exact ⟨by simpa using h1, h2, restsF_zero.1 h⟩
  · rintro ⟨rfl, h2, h3⟩
    rw [if_neg (by simp), mvOk_iff.2 h2, if_neg (by simp)]
    exact restsF_zero.2 h3
theorem menF_zero {a b : Int} {n : Nat} {f : Nat → Int} {a' b' : Int} {n' : Nat} {f' : Nat → Int} {s : Int} : menF a b n f a' b' n' f' s = 0 ↔ twoF a b n f a' b' n' f' = 0 ∧ 1 ≤ s ∧ s ≤ 64 := by
  unfold menF
  constructor
  · intro h
    split at h
    · rename_i c; exact absurd h c
    · rename_i c
      split at h
      · rename_i c2; exact ⟨by omega, stepOk_iff.1 c2⟩
      · cases h
  · rintro ⟨h1, h2⟩
    rw [if_neg (by omega), if_pos (stepOk_iff.2 h2)]
theorem mdeF_zero {a b : Int} {n : Nat} {f : Nat → Int} {al : Bool} {x y : Int} {n' : Nat} {f' : Nat → Int} {s : Int} : mdeF a b n f al x y n' f' s = 0 ↔ picF a b n f = 0 ∧ (1 ≤ s ∧ s ≤ 64) ∧ chkF al x y n' f' n = 0 := by
  unfold mdeF
  constructor
  · intro h
    split at h
    · rename_i c; exact absurd h c
    · rename_i c
      split at h
      · cases h
      · rename_i c2
        rw [Bool.not_eq_false, stepOk_iff] at c2
        exact ⟨by omega, c2, h⟩
  · rintro ⟨h1, h2, h3⟩
    rw [if_neg (by omega), stepOk_iff.2 h2, if_neg (by simp)]
    exact h3
/-- Two pictures that are right and alike. -/
theorem two_ok {a b : Int} {n : Nat} {f : Nat → Int} {a' b' : Int} {n' : Nat} {f' : Nat → Int} (h : twoF a b n f a' b' n' f' = 0) : n = n' ∧ ∃ A B, PicOk a b n f A B ∧ PicOk a' b' n f' A B := by
  obtain ⟨hp, hq, ea, eb⟩ := twoF_zero.1 h
  obtain ⟨A, B, o⟩ := picF_zero.1 hp
  obtain ⟨A', B', o'⟩ := picF_zero.1 hq
  have e1 : A = A' := by have := o.wide; have := o'.wide; omega
  have e2 : B = B' := by have := o.high; have := o'.high; omega
  subst e1
  subst e2
  have en : n = n' := by rw [o'.many, o.many]
  subst en
  exact ⟨rfl, A, B, o, o'⟩
theorem ok_two {a b : Int} {n : Nat} {f : Nat → Int} {a' b' : Int} {f' : Nat → Int} {A B : Nat} (o : PicOk a b n f A B) (o' : PicOk a' b' n f' A B) : twoF a b n f a' b' n f' = 0 :=
  twoF_zero.2 ⟨picF_zero.2 ⟨A, B, o⟩, picF_zero.2 ⟨A, B, o'⟩, by rw [o.wide, o'.wide], by rw [o.high, o'.high]⟩
end Go.Proofs.YtcicoblejaippaaDoor
