/-
  Lemmas for the law above, joined into one text (AlDe, BestN, MvN, MvF, MvDe, FlN, FlA). No statement is proved here.
-/
import Derived.Test.YtjhflcgphejddaaGreatDoorZG0
import Derived.Deep.Slices
import Derived.Deep.Strs
import Derived.ChangeSame
import Derived.ProofKit
import Derived.OpenShut
import Derived.ChangeSlices
import Derived.Lib.SmallJoins
namespace Go.Proofs.YtjhflcgphejddaaGreatDoor
set_option linter.unusedVariables false
set_option maxRecDepth 100000

/-- What a picture is coded as, where it may be and where not. -/
def enM (a b : Int) (n : Nat) (f : Nat → Int) (s : Int) : Nat := if encF a b n f s = 0 then n else 0
def enG (a s : Int) (f : Nat → Int) : Nat → Int := restF a.toNat s (byPix s f)
theorem enM_le (a b : Int) (n : Nat) (f : Nat → Int) (s : Int) : enM a b n f s ≤ 36 := by
  unfold enM
  split
  · rename_i h
    obtain ⟨⟨A, B, o⟩, _⟩ := encF_zero.1 h
    exact o.le
  · omega
/-- What rests tell, where they may and where not. -/
def deX (a b s : Int) (n : Nat) (f : Nat → Int) : Int := if decF a b s n f = 0 then a else 0
def deY (a b s : Int) (n : Nat) (f : Nat → Int) : Int := if decF a b s n f = 0 then b else 0
def deM (a b s : Int) (n : Nat) (f : Nat → Int) : Nat := if decF a b s n f = 0 then n else 0
def deG (a s : Int) (f : Nat → Int) : Nat → Int := tellF a.toNat s fun i _ => f i
theorem deM_le (a b s : Int) (n : Nat) (f : Nat → Int) : deM a b s n f ≤ 36 := by
  unfold deM
  split
  · rename_i h
    obtain ⟨A, B, o⟩ := decF_zero.1 h
    exact o.le
  · omega
end Go.Proofs.YtjhflcgphejddaaGreatDoor

namespace Go.Proofs.YtjhflcgphejddaaGreatDoor
set_option linter.unusedVariables false
set_option maxRecDepth 100000

/-- Of the first some the first that is least. -/
def bestI (D : Nat → Nat) : Nat → Nat
  | 0 => 0
  | i + 1 => if D i < D (bestI D i) then i else bestI D i
theorem bestI_lt {D : Nat → Nat} : ∀ {n}, bestI D n < n + 1
  | 0 => Nat.zero_lt_one
  | n + 1 => by
    have := bestI_lt (D := D) (n := n)
    show (if D n < D (bestI D n) then n else bestI D n) < n + 1 + 1
    split <;> omega
theorem bestI_lt' {D : Nat → Nat} : ∀ {n}, 0 < n → bestI D n < n
  | 1, _ => by
    show (if D 0 < D 0 then 0 else 0) < 1
    split <;> omega
  | n + 2, _ => by
    have := bestI_lt' (D := D) (n := n + 1) (by omega)
    show (if D (n + 1) < D (bestI D (n + 1)) then n + 1 else bestI D (n + 1)) < n + 2
    split <;> omega
theorem bestI_le {D : Nat → Nat} : ∀ {n k}, k < n → D (bestI D n) ≤ D k
  | n + 1, k, h => by
    show D (if D n < D (bestI D n) then n else bestI D n) ≤ D k
    by_cases c : k = n
    · subst c
      split <;> omega
    · have := bestI_le (D := D) (n := n) (k := k) (by omega)
      split <;> omega
theorem bestI_none {D : Nat → Nat} (h : ∀ i, D 0 ≤ D i) : ∀ n, bestI D n = 0
  | 0 => rfl
  | n + 1 => by
    have := h n
    show (if D n < D (bestI D n) then n else bestI D n) = 0
    rw [bestI_none h n, if_neg (by omega)]
theorem bestI_step {D : Nat → Nat} {i : Nat} : bestI D (i + 1) = if D i < D (bestI D i) then i else bestI D i := rfl
theorem bestI_first {D : Nat → Nat} (h : D 0 = 0) : ∀ n, bestI D n = 0
  | 0 => rfl
  | n + 1 => by
    show (if D n < D (bestI D n) then n else bestI D n) = 0
    rw [bestI_first h n, if_neg (by omega)]
end Go.Proofs.YtjhflcgphejddaaGreatDoor

namespace Go.Proofs.YtjhflcgphejddaaGreatDoor
set_option linter.unusedVariables false
set_option maxRecDepth 100000

/-- How far two rows of numbers are apart, all added up. -/
def sumN (f g : Nat → Int) : Nat → Nat
  | 0 => 0
  | i + 1 => sumN f g i + (f i - g i).natAbs
theorem sumN_le {f g : Nat → Int} : ∀ {n}, (∀ i, i < n → 0 ≤ f i ∧ f i ≤ 255) → (∀ i, i < n → 0 ≤ g i ∧ g i ≤ 255) → sumN f g n ≤ n * 255
  | 0, _, _ => Nat.zero_le _
  | n + 1, hf, hg => by
    have h := sumN_le (n := n) (fun i hi => hf i (by omega)) (fun i hi => hg i (by omega))
    have h1 := hf n (by omega)
    have h2 := hg n (by omega)
    show sumN f g n + (f n - g n).natAbs ≤ (n + 1) * 255
    omega
theorem sumN_zero {f g : Nat → Int} : ∀ {n}, sumN f g n = 0 ↔ ∀ i, i < n → f i = g i
  | 0 => ⟨fun _ i hi => absurd hi (Nat.not_lt_zero _), fun _ => rfl⟩
  | n + 1 => by
    have h := sumN_zero (f := f) (g := g) (n := n)
    constructor
    · intro e i hi
      have e' : sumN f g n + (f n - g n).natAbs = 0 := e
      by_cases c : i = n
      · subst c; omega
      · exact h.1 (by omega) i (by omega)
    · intro e
      have h1 := h.2 (fun i hi => e i (by omega))
      have h2 := e n (by omega)
      show sumN f g n + (f n - g n).natAbs = 0
      omega

/-- The moves, one by one. -/
def mvX (i : Nat) : Int := ((i % 3 : Nat) : Int) - 1
def mvY (i : Nat) : Int := ((i / 3 : Nat) : Int) - 1
theorem mv_in {i : Nat} (h : i < 9) : -1 ≤ mvX i ∧ mvX i ≤ 1 ∧ -1 ≤ mvY i ∧ mvY i ≤ 1 := by
  unfold mvX mvY; omega
theorem mv_far {i : Nat} (h : i < 9) : farF (mvX i) (mvY i) = 0 := by
  have := mv_in h
  exact farF_zero.2 (by omega)
theorem mv_of {x y : Int} (h : -1 ≤ x ∧ x ≤ 1 ∧ -1 ≤ y ∧ y ≤ 1) : ∃ i, i < 9 ∧ mvX i = x ∧ mvY i = y :=
  ⟨((y + 1) * 3 + (x + 1)).toNat, by omega, by unfold mvX; omega, by unfold mvY; omega⟩
/-- How far a moved picture is from another. -/
def apN (A B : Nat) (f g : Nat → Int) (n : Nat) (i : Nat) : Nat := sumN (shiftN A B (mvX i) (mvY i) f) g n
/-- The best of the moves. -/
def bsN (A B : Nat) (f g : Nat → Int) (n : Nat) : Nat := bestI (apN A B f g n) 9
theorem bsN_lt (A B : Nat) (f g : Nat → Int) (n : Nat) : bsN A B f g n < 9 := bestI_lt' (by omega)
def bsX (A B : Nat) (f g : Nat → Int) (n : Nat) : Int := mvX (bsN A B f g n)
def bsY (A B : Nat) (f g : Nat → Int) (n : Nat) : Int := mvY (bsN A B f g n)
theorem bs_in (A B : Nat) (f g : Nat → Int) (n : Nat) : -1 ≤ bsX A B f g n ∧ bsX A B f g n ≤ 1 ∧ -1 ≤ bsY A B f g n ∧ bsY A B f g n ≤ 1 := mv_in (bsN_lt A B f g n)
/-- The best guess. -/
def bgN (A B : Nat) (f g : Nat → Int) (n : Nat) : Nat → Int := shiftN A B (bsX A B f g n) (bsY A B f g n) f
/-- Where a move makes it the same, so does the best. -/
theorem bg_same {A B : Nat} {f g : Nat → Int} {n : Nat} {x y : Int} (h : -1 ≤ x ∧ x ≤ 1 ∧ -1 ≤ y ∧ y ≤ 1) (hg : ∀ i, i < n → shiftN A B x y f i = g i) : ∀ i, i < n → bgN A B f g n i = g i := by
  obtain ⟨k, hk, ex, ey⟩ := mv_of h
  have h1 : apN A B f g n k = 0 := by
    unfold apN
    rw [ex, ey]
    exact sumN_zero.2 hg
  have h2 : apN A B f g n (bsN A B f g n) ≤ apN A B f g n k := bestI_le hk
  exact sumN_zero.1 (show apN A B f g n (bsN A B f g n) = 0 by omega)
/-- What is left. -/
def mrF (A B : Nat) (f g : Nat → Int) (n : Nat) (s : Int) (i : Nat) : Int := rnd (g i - bgN A B f g n i) s
/-- What is told. -/
def toldF (h r : Nat → Int) (s : Int) (i : Nat) : Int := clamp (h i + r i * s)
theorem toldF_in (h r : Nat → Int) (s : Int) (i : Nat) : 0 ≤ toldF h r s i ∧ toldF h r s i ≤ 255 := clamp_in _
theorem mrF_in {A B : Nat} {f g : Nat → Int} {n : Nat} {s : Int} (s1 : 1 ≤ s) {i : Nat} (hb : 0 ≤ bgN A B f g n i ∧ bgN A B f g n i ≤ 255) (hg : 0 ≤ g i ∧ g i ≤ 255) : -255 ≤ mrF A B f g n s i ∧ mrF A B f g n s i ≤ 255 :=
  rnd_range s1 (by omega) (by omega)
theorem toldF_near {A B : Nat} {f g : Nat → Int} {n : Nat} {s : Int} (s1 : 1 ≤ s) {i : Nat} (hg : 0 ≤ g i ∧ g i ≤ 255) : ((g i - toldF (bgN A B f g n) (mrF A B f g n s) s i).natAbs : Int) ≤ s / 2 := by
  have h := rnd_near (n := g i - bgN A B f g n i) s1
  show ((g i - clamp (bgN A B f g n i + rnd (g i - bgN A B f g n i) s * s)).natAbs : Int) ≤ s / 2
  generalize bgN A B f g n i = b at *
  generalize rnd (g i - b) s * s = p at *
  unfold clamp
  omega
/-- Where the best is the same there is no rest, and what is told is it. -/
theorem mrF_same {A B : Nat} {f g : Nat → Int} {n : Nat} {s : Int} (s1 : 1 ≤ s) {i : Nat} (h : bgN A B f g n i = g i) : mrF A B f g n s i = 0 := by
  unfold mrF
  rw [h, Int.sub_self, rnd_zero s1]
theorem toldF_same {h r : Nat → Int} {s : Int} {i : Nat} (h0 : r i = 0) (hh : 0 ≤ h i ∧ h i ≤ 255) : toldF h r s i = h i := by
  unfold toldF
  rw [h0, Int.zero_mul, Int.add_zero, clamp_self hh]
theorem bgN_in {a b : Int} {n : Nat} {f : Nat → Int} {A B : Nat} (o : PicOk a b n f A B) (g : Nat → Int) : ∀ i, i < n → 0 ≤ bgN A B f g n i ∧ bgN A B f g n i ≤ 255 := (o.shift _ _).pix
theorem apN_le {a b : Int} {n : Nat} {f g : Nat → Int} {A B : Nat} (o : PicOk a b n f A B) (hg : ∀ i, i < n → 0 ≤ g i ∧ g i ≤ 255) (i : Nat) : apN A B f g n i ≤ 9180 := by
  have h := sumN_le (n := n) (o.shift (mvX i) (mvY i)).pix hg
  have := o.le
  unfold apN
  omega
end Go.Proofs.YtjhflcgphejddaaGreatDoor

namespace Go.Proofs.YtjhflcgphejddaaGreatDoor
set_option linter.unusedVariables false
set_option maxRecDepth 100000

def mvOk (x y : Int) : Bool := (decide (-1 ≤ x) && decide (x ≤ 1)) && (decide (-1 ≤ y) && decide (y ≤ 1))
theorem mvOk_iff {x y : Int} : mvOk x y = true ↔ -1 ≤ x ∧ x ≤ 1 ∧ -1 ≤ y ∧ y ≤ 1 := by
  simp [mvOk, and_assoc]
/-- What is wrong with what was coded, of a picture of so many pixels. -/
def chkF (al : Bool) (x y : Int) (n : Nat) (f : Nat → Int) (m : Int) : Nat := if al = true then 3 else if mvOk x y = false then 1 else restsF n f m
/-- What is wrong with two pictures, and a step. -/
def menF (a b : Int) (n : Nat) (f : Nat → Int) (a' b' : Int) (n' : Nat) (f' : Nat → Int) (s : Int) : Nat :=
  if twoF a b n f a' b' n' f' ≠ 0 then twoF a b n f a' b' n' f' else if stepOk s = true then 0 else 1
/-- What is wrong with a picture, what was coded, and a step. -/
def mdeF (a b : Int) (n : Nat) (f : Nat → Int) (al : Bool) (x y : Int) (n' : Nat) (f' : Nat → Int) (s : Int) : Nat :=
  if picF a b n f ≠ 0 then picF a b n f else if stepOk s = false then 1 else chkF al x y n' f' n
theorem restsF_zero {n : Nat} {f : Nat → Int} {m : Int} : restsF n f m = 0 ↔ (n : Int) = m ∧ ∀ i, i < n → -255 ≤ f i ∧ f i ≤ 255 := by
  unfold restsF
  constructor
  · intro h
    split at h
    · cases h
    · rename_i h1
      split at h
      · cases h
      · rename_i h2
        rw [Bool.not_eq_false, restsOk_iff] at h2
        exact ⟨by omega, h2⟩
  · rintro ⟨h1, h2⟩
    rw [if_neg (by omega), restsOk_iff.2 h2, if_neg (by simp)]
theorem chkF_zero {al : Bool} {x y : Int} {n : Nat} {f : Nat → Int} {m : Int} : chkF al x y n f m = 0 ↔ al = false ∧ (-1 ≤ x ∧ x ≤ 1 ∧ -1 ≤ y ∧ y ≤ 1) ∧ (n : Int) = m ∧ ∀ i, i < n → -255 ≤ f i ∧ f i ≤ 255 := by
  unfold chkF
  constructor
  · intro h
    split at h
    · cases h
    · rename_i h1
      split at h
      · cases h
      · rename_i h2
        rw [Bool.not_eq_false, mvOk_iff] at h2
        exact ⟨by simpa using h1, h2, restsF_zero.1 h⟩
  · rintro ⟨rfl, h2, h3⟩
    rw [if_neg (by simp), mvOk_iff.2 h2, if_neg (by simp)]
    exact restsF_zero.2 h3
theorem menF_zero {a b : Int} {n : Nat} {f : Nat → Int} {a' b' : Int} {n' : Nat} {f' : Nat → Int} {s : Int} : menF a b n f a' b' n' f' s = 0 ↔ twoF a b n f a' b' n' f' = 0 ∧ 1 ≤ s ∧ s ≤ 64 := by
  unfold menF
  constructor
  · intro h
    split at h
    · rename_i c; exact absurd h c
    · rename_i c
      split at h
      · rename_i c2; exact ⟨by omega, stepOk_iff.1 c2⟩
      · cases h
  · rintro ⟨h1, h2⟩
    rw [if_neg (by omega), if_pos (stepOk_iff.2 h2)]
theorem mdeF_zero {a b : Int} {n : Nat} {f : Nat → Int} {al : Bool} {x y : Int} {n' : Nat} {f' : Nat → Int} {s : Int} : mdeF a b n f al x y n' f' s = 0 ↔ picF a b n f = 0 ∧ (1 ≤ s ∧ s ≤ 64) ∧ chkF al x y n' f' n = 0 := by
  unfold mdeF
  constructor
  · intro h
    split at h
    · rename_i c; exact absurd h c
    · rename_i c
      split at h
      · cases h
      · rename_i c2
        rw [Bool.not_eq_false, stepOk_iff] at c2
        exact ⟨by omega, c2, h⟩
  · rintro ⟨h1, h2, h3⟩
    rw [if_neg (by omega), stepOk_iff.2 h2, if_neg (by simp)]
    exact h3
/-- Two pictures that are right and alike. -/
theorem two_ok {a b : Int} {n : Nat} {f : Nat → Int} {a' b' : Int} {n' : Nat} {f' : Nat → Int} (h : twoF a b n f a' b' n' f' = 0) : n = n' ∧ ∃ A B, PicOk a b n f A B ∧ PicOk a' b' n f' A B := by
  obtain ⟨hp, hq, ea, eb⟩ := twoF_zero.1 h
  obtain ⟨A, B, o⟩ := picF_zero.1 hp
  obtain ⟨A', B', o'⟩ := picF_zero.1 hq
  have e1 : A = A' := by have := o.wide; have := o'.wide; omega
  have e2 : B = B' := by have := o.high; have := o'.high; omega
  subst e1
  subst e2
  have en : n = n' := by rw [o'.many, o.many]
  subst en
  exact ⟨rfl, A, B, o, o'⟩
theorem ok_two {a b : Int} {n : Nat} {f : Nat → Int} {a' b' : Int} {f' : Nat → Int} {A B : Nat} (o : PicOk a b n f A B) (o' : PicOk a' b' n f' A B) : twoF a b n f a' b' n f' = 0 :=
  twoF_zero.2 ⟨picF_zero.2 ⟨A, B, o⟩, picF_zero.2 ⟨A, B, o'⟩, by rw [o.wide, o'.wide], by rw [o.high, o'.high]⟩
end Go.Proofs.YtjhflcgphejddaaGreatDoor

namespace Go.Proofs.YtjhflcgphejddaaGreatDoor
set_option linter.unusedVariables false
set_option maxRecDepth 100000

/-- What is told, where it may be and where not. -/
def mdX (a b : Int) (n : Nat) (f : Nat → Int) (al : Bool) (x y : Int) (n' : Nat) (f' : Nat → Int) (s : Int) : Int := if mdeF a b n f al x y n' f' s = 0 then a else 0
def mdY (a b : Int) (n : Nat) (f : Nat → Int) (al : Bool) (x y : Int) (n' : Nat) (f' : Nat → Int) (s : Int) : Int := if mdeF a b n f al x y n' f' s = 0 then b else 0
def mdM (a b : Int) (n : Nat) (f : Nat → Int) (al : Bool) (x y : Int) (n' : Nat) (f' : Nat → Int) (s : Int) : Nat := if mdeF a b n f al x y n' f' s = 0 then n else 0
def mdG (a b : Int) (f : Nat → Int) (x y : Int) (f' : Nat → Int) (s : Int) : Nat → Int := toldF (shiftN a.toNat b.toNat x y f) f' s
theorem mdM_le (a b : Int) (n : Nat) (f : Nat → Int) (al : Bool) (x y : Int) (n' : Nat) (f' : Nat → Int) (s : Int) : mdM a b n f al x y n' f' s ≤ 36 := by
  unfold mdM
  split
  · rename_i h
    obtain ⟨A, B, o⟩ := picF_zero.1 (mdeF_zero.1 h).1
    exact o.le
  · omega
end Go.Proofs.YtjhflcgphejddaaGreatDoor

namespace Go.Proofs.YtjhflcgphejddaaGreatDoor
set_option linter.unusedVariables false
set_option maxRecDepth 100000

/-- A picture, and a coded one, as numbers. -/
structure Pc where
  a : Int
  b : Int
  n : Nat
  f : Nat → Int
structure Cd where
  al : Bool
  x : Int
  y : Int
  n : Nat
  f : Nat → Int
def Pc.none : Pc := ⟨0, 0, 0, fun _ => 0⟩
/-- What is wrong with one of a film whose first is q. -/
def oneF (p q : Pc) : Nat := if picF p.a p.b p.n p.f ≠ 0 then picF p.a p.b p.n p.f else if p.a = q.a ∧ p.b = q.b then 0 else 3
/-- The first fault of the first so many. -/
def firF (P : Nat → Pc) : Nat → Nat
  | 0 => 0
  | i + 1 => if firF P i ≠ 0 then firF P i else oneF (P i) (P 0)
theorem firF_step (P : Nat → Pc) (i : Nat) : firF P (i + 1) = if firF P i ≠ 0 then firF P i else oneF (P i) (P 0) := rfl
theorem firF_keep {P : Nat → Pc} {i : Nat} (h : firF P i ≠ 0) : ∀ {j}, i ≤ j → firF P j = firF P i := fun {j} hj => by
  induction j with
  | zero => have : i = 0 := by omega
            subst this; rfl
  | succ j ih =>
    by_cases c : i = j + 1
    · subst c; rfl
    · have e := ih (by omega)
      rw [firF_step, e, if_pos h]
theorem firF_zero {P : Nat → Pc} : ∀ {N}, firF P N = 0 ↔ ∀ i, i < N → oneF (P i) (P 0) = 0
  | 0 => ⟨fun _ i hi => absurd hi (Nat.not_lt_zero _), fun _ => rfl⟩
  | N + 1 => by
    rw [firF_step]
    constructor
    · intro h
      split at h
      · rename_i c; exact absurd h c
      · rename_i c
        have h0 := firF_zero.1 (show firF P N = 0 by omega)
        intro i hi
        by_cases e : i = N
        · subst e; exact h
        · exact h0 i (by omega)
    · intro h
      rw [if_neg (by rw [firF_zero.2 (fun i hi => h i (by omega))]; simp)]
      exact h N (by omega)
def rngF (ev st : Int) : Nat := if 1 ≤ ev ∧ ev ≤ 6 ∧ 1 ≤ st ∧ st ≤ 64 then 0 else 1
/-- What is wrong with a film. -/
def filF (N : Nat) (P : Nat → Pc) (ev st : Int) : Nat := if N = 0 then 5 else if 6 < N then 4 else if firF P N ≠ 0 then firF P N else rngF ev st
/-- A film that is right. -/
structure FilOk (N : Nat) (P : Nat → Pc) (ev st : Int) (A B : Nat) : Prop where
  one : 1 ≤ N
  six : N ≤ 6
  pic : ∀ i, i < N → PicOk (P i).a (P i).b (P i).n (P i).f A B
  e1 : 1 ≤ ev
  e6 : ev ≤ 6
  s1 : 1 ≤ st
  s2 : st ≤ 64
theorem PicOk.same {a b : Int} {n : Nat} {f : Nat → Int} {A B : Nat} {a' b' : Int} {n' : Nat} {f' : Nat → Int} {A' B' : Nat} (o : PicOk a b n f A B) (o' : PicOk a' b' n' f' A' B') (h : a = a' ∧ b = b') : A = A' ∧ B = B' := by
  have := o.wide; have := o.high; have := o'.wide; have := o'.high
  omega
theorem filF_zero {N : Nat} {P : Nat → Pc} {ev st : Int} : filF N P ev st = 0 ↔ ∃ A B, FilOk N P ev st A B := by
  unfold filF
  constructor
  · intro h
    split at h
    · cases h
    · rename_i h1
      split at h
      · cases h
      · rename_i h2
        split at h
        · rename_i h3; exact absurd h h3
        · rename_i h3
          have hf := firF_zero.1 (show firF P N = 0 by omega)
          unfold rngF at h
          split at h
          · rename_i h4
            have hp : ∀ i, i < N → picF (P i).a (P i).b (P i).n (P i).f = 0 ∧ (P i).a = (P 0).a ∧ (P i).b = (P 0).b := by
              intro i hi
              have h9 := hf i hi
              unfold oneF at h9
              split at h9
              · rename_i c; exact absurd h9 c
              · rename_i c
                split at h9
                · rename_i c2; exact ⟨by omega, c2⟩
                · cases h9
            obtain ⟨A, B, o0⟩ := picF_zero.1 (hp 0 (by omega)).1
            refine ⟨A, B, by omega, by omega, fun i hi => ?_, h4.1, h4.2.1, h4.2.2.1, h4.2.2.2⟩
            obtain ⟨A', B', o⟩ := picF_zero.1 (hp i hi).1
            obtain ⟨rfl, rfl⟩ := o.same o0 (hp i hi).2
            exact o
          · cases h
  · rintro ⟨A, B, o⟩
    have h1 := o.one
    have h2 := o.six
    rw [if_neg (by omega), if_neg (by omega)]
    have hf : firF P N = 0 := firF_zero.2 fun i hi => by
      have oi := o.pic i hi
      have o0 := o.pic 0 (by omega)
      unfold oneF
      rw [picF_zero.2 ⟨A, B, oi⟩, if_neg (by simp), if_pos ⟨oi.wide.trans o0.wide.symm, oi.high.trans o0.high.symm⟩]
    rw [hf, if_neg (by simp)]
    unfold rngF
    rw [if_pos ⟨o.e1, o.e6, o.s1, o.s2⟩]

/-- What is told for each picture of a film that is right. -/
def filT (A B n ev : Nat) (s : Int) (g : Nat → Nat → Int) : Nat → Nat → Int
  | 0 => tellF A s (byPix s (g 0))
  | i + 1 => if (i + 1) % ev = 0 then tellF A s (byPix s (g (i + 1))) else toldF (bgN A B (filT A B n ev s g i) (g (i + 1)) n) (mrF A B (filT A B n ev s g i) (g (i + 1)) n s) s
/-- What each is coded as. -/
def filC (A B n ev : Nat) (s : Int) (g : Nat → Nat → Int) : Nat → Cd
  | 0 => ⟨true, 0, 0, n, restF A s (byPix s (g 0))⟩
  | i + 1 => if (i + 1) % ev = 0 then ⟨true, 0, 0, n, restF A s (byPix s (g (i + 1)))⟩ else ⟨false, bsX A B (filT A B n ev s g i) (g (i + 1)) n, bsY A B (filT A B n ev s g i) (g (i + 1)) n, n, mrF A B (filT A B n ev s g i) (g (i + 1)) n s⟩
theorem filT_al {A B n ev : Nat} {s : Int} {g : Nat → Nat → Int} {i : Nat} (h : i % ev = 0) : filT A B n ev s g i = tellF A s (byPix s (g i)) := by
  cases i with
  | zero => rfl
  | succ i => show (if (i + 1) % ev = 0 then _ else _) = _; rw [if_pos h]
theorem filT_mv {A B n ev : Nat} {s : Int} {g : Nat → Nat → Int} {i : Nat} (h : ¬ (i + 1) % ev = 0) : filT A B n ev s g (i + 1) = toldF (bgN A B (filT A B n ev s g i) (g (i + 1)) n) (mrF A B (filT A B n ev s g i) (g (i + 1)) n s) s := by
  show (if (i + 1) % ev = 0 then _ else _) = _; rw [if_neg h]
theorem filC_al {A B n ev : Nat} {s : Int} {g : Nat → Nat → Int} {i : Nat} (h : i % ev = 0) : filC A B n ev s g i = ⟨true, 0, 0, n, restF A s (byPix s (g i))⟩ := by
  cases i with
  | zero => rfl
  | succ i => show (if (i + 1) % ev = 0 then _ else _) = _; rw [if_pos h]
theorem filC_mv {A B n ev : Nat} {s : Int} {g : Nat → Nat → Int} {i : Nat} (h : ¬ (i + 1) % ev = 0) : filC A B n ev s g (i + 1) = ⟨false, bsX A B (filT A B n ev s g i) (g (i + 1)) n, bsY A B (filT A B n ev s g i) (g (i + 1)) n, n, mrF A B (filT A B n ev s g i) (g (i + 1)) n s⟩ := by
  show (if (i + 1) % ev = 0 then _ else _) = _; rw [if_neg h]
theorem filC_alone {A B n ev : Nat} {s : Int} {g : Nat → Nat → Int} {i : Nat} : (filC A B n ev s g i).al = true ↔ i % ev = 0 := by
  cases i with
  | zero => exact ⟨fun _ => Nat.zero_mod _, fun _ => rfl⟩
  | succ i =>
    by_cases c : (i + 1) % ev = 0
    · rw [filC_al c]; exact ⟨fun _ => c, fun _ => rfl⟩
    · rw [filC_mv c]; exact ⟨(fun h => by cases h), fun h => absurd h c⟩
theorem filC_n {A B n ev : Nat} {s : Int} {g : Nat → Nat → Int} {i : Nat} : (filC A B n ev s g i).n = n := by
  cases i with
  | zero => rfl
  | succ i =>
    by_cases c : (i + 1) % ev = 0
    · rw [filC_al c]
    · rw [filC_mv c]
/-- What is told is a picture. -/
theorem filT_in {A B n ev : Nat} {s : Int} {g : Nat → Nat → Int} (hA : 1 ≤ A) (i k : Nat) : 0 ≤ filT A B n ev s g i k ∧ filT A B n ev s g i k ≤ 255 := by
  cases i with
  | zero => exact tellF_in hA _ _ _
  | succ i =>
    by_cases c : (i + 1) % ev = 0
    · rw [filT_al c]; exact tellF_in hA _ _ _
    · rw [filT_mv c]; exact toldF_in _ _ _ _
theorem filT_ok {a b : Int} {n : Nat} {f : Nat → Int} {A B : Nat} (o : PicOk a b n f A B) (ev : Nat) (s : Int) (g : Nat → Nat → Int) (i : Nat) : PicOk a b n (filT A B n ev s g i) A B :=
  ⟨o.wide, o.high, o.w1, o.w6, o.h1, o.h6, o.many, fun k _ => filT_in o.w1 i k⟩
theorem filT_near {A B n ev : Nat} {s : Int} {g : Nat → Nat → Int} (hA : 1 ≤ A) (s1 : 1 ≤ s) (i : Nat) {k : Nat} (hg : 0 ≤ g i k ∧ g i k ≤ 255) : ((g i k - filT A B n ev s g i k).natAbs : Int) ≤ s / 2 := by
  cases i with
  | zero => exact tellF_near hA s1 hg
  | succ i =>
    by_cases c : (i + 1) % ev = 0
    · rw [filT_al c]; exact tellF_near hA s1 hg
    · rw [filT_mv c]; exact toldF_near s1 hg

/-- One coded picture told, behind the one that was told ahead. -/
def stpC (a b s : Int) (c : Cd) (p : Pc) : Nat × Pc :=
  if c.al = true then (if c.x ≠ 0 ∨ c.y ≠ 0 then (3, Pc.none) else (decF a b s c.n c.f, ⟨deX a b s c.n c.f, deY a b s c.n c.f, deM a b s c.n c.f, deG a s c.f⟩))
  else (mdeF p.a p.b p.n p.f c.al c.x c.y c.n c.f s, ⟨mdX p.a p.b p.n p.f c.al c.x c.y c.n c.f s, mdY p.a p.b p.n p.f c.al c.x c.y c.n c.f s, mdM p.a p.b p.n p.f c.al c.x c.y c.n c.f s, mdG p.a p.b p.f c.x c.y c.f s⟩)
/-- The first fault of so many, and what is told last. -/
def seeS (a b s : Int) (C : Nat → Cd) : Nat → Nat × Pc
  | 0 => (0, Pc.none)
  | i + 1 => if (seeS a b s C i).1 ≠ 0 then seeS a b s C i else stpC a b s (C i) (seeS a b s C i).2
theorem seeS_step {a b s : Int} {C : Nat → Cd} {i : Nat} (h : (seeS a b s C i).1 = 0) : seeS a b s C (i + 1) = stpC a b s (C i) (seeS a b s C i).2 := by
  show (if (seeS a b s C i).1 ≠ 0 then seeS a b s C i else stpC a b s (C i) (seeS a b s C i).2) = _
  rw [if_neg (by omega)]
theorem seeS_stop {a b s : Int} {C : Nat → Cd} {i : Nat} (h : (seeS a b s C i).1 ≠ 0) : ∀ {j}, i ≤ j → seeS a b s C j = seeS a b s C i := fun {j} hj => by
  induction j with
  | zero => have : i = 0 := by omega
            subst this; rfl
  | succ j ih =>
    by_cases c : i = j + 1
    · subst c; rfl
    · have e := ih (by omega)
      show (if (seeS a b s C j).1 ≠ 0 then seeS a b s C j else _) = _
      rw [e, if_pos h]
theorem seeS_back {a b s : Int} {C : Nat → Cd} {i j : Nat} (h : (seeS a b s C j).1 = 0) (hi : i ≤ j) : (seeS a b s C i).1 = 0 := by
  by_cases c : (seeS a b s C i).1 = 0
  · exact c
  · rw [seeS_stop c hi] at h; exact absurd h c
def sidF (a b s : Int) : Nat := if 1 ≤ a ∧ a ≤ 6 ∧ 1 ≤ b ∧ b ≤ 6 ∧ 1 ≤ s ∧ s ≤ 64 then 0 else 1
/-- What is wrong with a coded film. -/
def seeF (a b s : Int) (N : Nat) (C : Nat → Cd) : Nat := if N = 0 then 5 else if 6 < N then 4 else if sidF a b s ≠ 0 then 1 else if (C 0).al = false then 3 else (seeS a b s C N).1
/-- The picture told at a place. -/
def seeP (a b s : Int) (C : Nat → Cd) (i : Nat) : Pc := (seeS a b s C (i + 1)).2

theorem stpC_al {a b s : Int} {n : Nat} {f g : Nat → Int} {A B : Nat} {p : Pc} (o : PicOk a b n f A B) (s1 : 1 ≤ s) (s2 : s ≤ 64) : stpC a b s ⟨true, 0, 0, n, restF A s (byPix s f)⟩ p = (0, ⟨a, b, n, tellF A s (byPix s f)⟩) := by
  have hd : decF a b s n (restF A s (byPix s f)) = 0 := decF_zero.2 ⟨A, B, enc_dec o s1 s2⟩
  have hg : deG a s (restF A s (byPix s f)) = tellF A s (byPix s f) := by
    funext i
    unfold deG
    rw [o.wide, Int.toNat_natCast]
    exact tellF_rest o.w1 s (byPix s f) i
  unfold stpC
  rw [if_pos rfl, if_neg (by simp)]
  unfold deX deY deM
  simp only [hd, hg, if_true]
theorem stpC_mv {a b s : Int} {n : Nat} {f g : Nat → Int} {A B : Nat} (o : PicOk a b n f A B) (o' : PicOk a b n g A B) (s1 : 1 ≤ s) (s2 : s ≤ 64) : stpC a b s ⟨false, bsX A B f g n, bsY A B f g n, n, mrF A B f g n s⟩ ⟨a, b, n, f⟩ = (0, ⟨a, b, n, toldF (bgN A B f g n) (mrF A B f g n s) s⟩) := by
  have hm : mdeF a b n f false (bsX A B f g n) (bsY A B f g n) n (mrF A B f g n s) s = 0 := mdeF_zero.2 ⟨picF_zero.2 ⟨A, B, o⟩, ⟨s1, s2⟩, chkF_zero.2 ⟨rfl, bs_in A B f g n, rfl, fun i hi => mrF_in s1 (bgN_in o g i hi) (o'.pix i hi)⟩⟩
  have hg : mdG a b f (bsX A B f g n) (bsY A B f g n) (mrF A B f g n s) s = toldF (bgN A B f g n) (mrF A B f g n s) s := by
    unfold mdG
    rw [o.wide, o.high, Int.toNat_natCast, Int.toNat_natCast]
    rfl
  unfold stpC
  rw [if_neg (by simp)]
  unfold mdX mdY mdM
  simp only [hm, hg, if_true]
/-- A film that was coded is told. -/
theorem see_fil {N : Nat} {P : Nat → Pc} {ev st : Int} {A B : Nat} (o : FilOk N P ev st A B) : ∀ i, i < N → seeS (P 0).a (P 0).b st (filC A B (P 0).n ev.toNat st fun i => (P i).f) (i + 1) = (0, ⟨(P 0).a, (P 0).b, (P 0).n, filT A B (P 0).n ev.toNat st (fun i => (P i).f) i⟩)
  | 0, hi => by
    have o0 := o.pic 0 hi
    rw [seeS_step rfl]
    exact stpC_al o0 o.s1 o.s2 (g := fun _ => 0)
  | i + 1, hi => by
    have ih := see_fil o i (by omega)
    have o0 := o.pic 0 (by have := o.one; omega)
    have oi := o.pic (i + 1) hi
    have ea : (P (i + 1)).a = (P 0).a := oi.wide.trans o0.wide.symm
    have eb : (P (i + 1)).b = (P 0).b := oi.high.trans o0.high.symm
    have en : (P (i + 1)).n = (P 0).n := oi.many.trans o0.many.symm
    rw [ea, eb, en] at oi
    rw [seeS_step (by rw [ih]), ih]
    by_cases c : (i + 1) % ev.toNat = 0
    · rw [filC_al c, filT_al c]
      exact stpC_al oi o.s1 o.s2 (g := fun _ => 0)
    · rw [filC_mv c, filT_mv c]
      exact stpC_mv (filT_ok o0 _ _ _ i) oi o.s1 o.s2
/-- Where nothing changes, by steps of one, nothing is left. -/
theorem fil_still {A B n ev : Nat} {g : Nat → Nat → Int} {a b : Int} (o : PicOk a b n (g 0) A B) (hg : ∀ i k, g i k = g 0 k) : ∀ i k, k < n → filT A B n ev 1 g i k = g 0 k := fun i k hk => by
  have hp := o.pix k hk
  have h := filT_near (A := A) (B := B) (n := n) (ev := ev) (s := 1) (g := g) o.w1 (by omega) i (k := k) (by rw [hg]; exact hp)
  rw [hg i k] at h
  omega
theorem fil_none {A B n ev : Nat} {g : Nat → Nat → Int} {a b : Int} (o : PicOk a b n (g 0) A B) (hg : ∀ i k, g i k = g 0 k) {i : Nat} (h : (filC A B n ev 1 g i).al = false) : ∀ k, k < n → (filC A B n ev 1 g i).f k = 0 := by
  cases i with
  | zero => cases h
  | succ i =>
    have c : ¬ (i + 1) % ev = 0 := fun c => by rw [filC_alone.2 c] at h; cases h
    intro k hk
    rw [filC_mv c]
    show mrF A B (filT A B n ev 1 g i) (g (i + 1)) n 1 k = 0
    refine mrF_same (by omega) ?_
    refine bg_same (x := 0) (y := 0) (by omega) (fun j hj => ?_) k hk
    rw [hg (i + 1) j, ← fil_still o hg i j hj]
    unfold shiftN
    rw [fromAt_zero o.w1 (by rw [← o.many]; exact hj)]
end Go.Proofs.YtjhflcgphejddaaGreatDoor

namespace Go.Proofs.YtjhflcgphejddaaGreatDoor
open Go.ChangeShapes Go.WideShapes Go.ChangeAt Go.RowKit Go.Joins
set_option linter.unusedVariables false
set_option maxRecDepth 100000

/-- A picture in three cells from o on. -/
def PicC (w : World) (b o : Nat) (p : Pc) (s : Value) : Prop :=
  w.cell? ⟨b, o, none⟩ = some (.int .i64 p.a) ∧ w.cell? ⟨b, o + 1, none⟩ = some (.int .i64 p.b) ∧ w.cell? ⟨b, o + 2, none⟩ = some s ∧ IntsIn w s p.n p.f
/-- A coded picture in four cells from o on. -/
def CodC (w : World) (b o : Nat) (c : Cd) (s : Value) : Prop :=
  w.cell? ⟨b, o, none⟩ = some (.bool c.al) ∧ w.cell? ⟨b, o + 1, none⟩ = some (.int .i64 c.x) ∧ w.cell? ⟨b, o + 2, none⟩ = some (.int .i64 c.y) ∧ w.cell? ⟨b, o + 3, none⟩ = some s ∧ IntsIn w s c.n c.f
theorem PicC.below {w w' : World} {b o : Nat} {p : Pc} {s : Value} (h : PicC w b o p s) (hb : Below w.heap.size w w') : PicC w' b o p s :=
  ⟨cell_below hb h.1, cell_below hb h.2.1, cell_below hb h.2.2.1, h.2.2.2.below hb⟩
theorem CodC.below {w w' : World} {b o : Nat} {c : Cd} {s : Value} (h : CodC w b o c s) (hb : Below w.heap.size w w') : CodC w' b o c s :=
  ⟨cell_below hb h.1, cell_below hb h.2.1, cell_below hb h.2.2.1, cell_below hb h.2.2.2.1, h.2.2.2.2.below hb⟩
/-- A slice of pictures. -/
def PicsIn (w : World) (v : Value) (N : Nat) (P : Nat → Pc) : Prop :=
  ∃ ad cap, v = .slice ad N cap ∧ N ≤ cap ∧ cap ≤ maxLen ∧ (0 < N → ∃ b o, ad = some ⟨b, o, none⟩ ∧ ∀ i, i < N → ∃ s, PicC w b (o + i * 3) (P i) s)
/-- A slice of coded pictures. -/
def CodsIn (w : World) (v : Value) (N : Nat) (C : Nat → Cd) : Prop :=
  ∃ ad cap, v = .slice ad N cap ∧ N ≤ cap ∧ cap ≤ maxLen ∧ (0 < N → ∃ b o, ad = some ⟨b, o, none⟩ ∧ ∀ i, i < N → ∃ s, CodC w b (o + i * 4) (C i) s)
theorem PicsIn.below {w w' : World} {v : Value} {N : Nat} {P : Nat → Pc} (h : PicsIn w v N P) (hb : Below w.heap.size w w') : PicsIn w' v N P := by
  obtain ⟨ad, cap, rfl, h1, h2, h3⟩ := h
  refine ⟨ad, cap, rfl, h1, h2, fun h0 => ?_⟩
  obtain ⟨b, o, e, hc⟩ := h3 h0
  exact ⟨b, o, e, fun i hi => by obtain ⟨s, hs⟩ := hc i hi; exact ⟨s, hs.below hb⟩⟩
theorem CodsIn.below {w w' : World} {v : Value} {N : Nat} {C : Nat → Cd} (h : CodsIn w v N C) (hb : Below w.heap.size w w') : CodsIn w' v N C := by
  obtain ⟨ad, cap, rfl, h1, h2, h3⟩ := h
  refine ⟨ad, cap, rfl, h1, h2, fun h0 => ?_⟩
  obtain ⟨b, o, e, hc⟩ := h3 h0
  exact ⟨b, o, e, fun i hi => by obtain ⟨s, hs⟩ := hc i hi; exact ⟨s, hs.below hb⟩⟩
theorem PicsIn.congr {w : World} {v : Value} {N : Nat} {P Q : Nat → Pc} (h : PicsIn w v N P) (e : ∀ i, i < N → P i = Q i) : PicsIn w v N Q := by
  obtain ⟨ad, cap, rfl, h1, h2, h3⟩ := h
  refine ⟨ad, cap, rfl, h1, h2, fun h0 => ?_⟩
  obtain ⟨b, o, e', hc⟩ := h3 h0
  exact ⟨b, o, e', fun i hi => by rw [← e i hi]; exact hc i hi⟩
theorem CodsIn.congr {w : World} {v : Value} {N : Nat} {C D : Nat → Cd} (h : CodsIn w v N C) (e : ∀ i, i < N → C i = D i) : CodsIn w v N D := by
  obtain ⟨ad, cap, rfl, h1, h2, h3⟩ := h
  refine ⟨ad, cap, rfl, h1, h2, fun h0 => ?_⟩
  obtain ⟨b, o, e', hc⟩ := h3 h0
  exact ⟨b, o, e', fun i hi => by rw [← e i hi]; exact hc i hi⟩
/-- The first some. -/
theorem PicsIn.head {w : World} {ad : Option Addr} {N c : Nat} {P : Nat → Pc} (h : PicsIn w (.slice ad N c) N P) {k : Nat} (hk : k ≤ N) : PicsIn w (.slice ad k c) k P := by
  obtain ⟨ad', cap', e, h1, h2, h3⟩ := h
  cases e
  refine ⟨_, _, rfl, by omega, h2, fun h0 => ?_⟩
  obtain ⟨b, o, e, hc⟩ := h3 (by omega)
  exact ⟨b, o, e, fun i hi => hc i (by omega)⟩
theorem CodsIn.head {w : World} {ad : Option Addr} {N c : Nat} {C : Nat → Cd} (h : CodsIn w (.slice ad N c) N C) {k : Nat} (hk : k ≤ N) : CodsIn w (.slice ad k c) k C := by
  obtain ⟨ad', cap', e, h1, h2, h3⟩ := h
  cases e
  refine ⟨_, _, rfl, by omega, h2, fun h0 => ?_⟩
  obtain ⟨b, o, e, hc⟩ := h3 (by omega)
  exact ⟨b, o, e, fun i hi => hc i (by omega)⟩
theorem pics_nil (w : World) (P : Nat → Pc) : PicsIn w (.slice none 0 0) 0 P := ⟨none, 0, rfl, Nat.le_refl _, by unfold maxLen; omega, fun h => by omega⟩
theorem cods_nil (w : World) (C : Nat → Cd) : CodsIn w (.slice none 0 0) 0 C := ⟨none, 0, rfl, Nat.le_refl _, by unfold maxLen; omega, fun h => by omega⟩

theorem open_picsAt {H : Type} {enc : TypeId × Value → H} {W : World} {base : Nat} {v : Value} {d : DataW H} {p : List MemPlace}
    (hv : Value.okWide Tryz.prog W .any base 22 v) (h : DataW.Trod enc Tryz.prog W 0 (fun _ => true) true 22 v d p) : ∃ N P, PicsIn W v N P := by
  obtain ⟨a0, len, cap, rfl⟩ := okWide_slice Tryz.underlying22 hv
  obtain ⟨fuel, hf⟩ := h
  rcases Deep.open_slice Tryz.underlying22 hf with ⟨hcs, hx⟩ | ⟨a, len', cap', m, n, D, Pl, hcs, _, hl, hm, hmm, hx, hcell⟩
  · simp [Value.cells] at hcs
    obtain ⟨rfl, rfl, rfl⟩ := hcs
    exact ⟨0, fun _ => Pc.none, pics_nil _ _⟩
  · simp [Value.cells] at hcs
    obtain ⟨rfl, rfl, rfl⟩ := hcs
    simp only [if_true] at hmm
    have k0 : Tryz.prog.cellsOf 3 = 1 := by kernel_rfl
    have k1 : Tryz.prog.cellsOf 23 = 1 := by kernel_rfl
    have k3 : Tryz.prog.cellsOf 33 = 3 := by kernel_rfl
    have each : ∀ i, i < len → ∃ x : Pc × Value, W.cell? ((a.add (i * 3)).add 0) = some (.int .i64 x.1.a) ∧ W.cell? ((a.add (i * 3)).add 1) = some (.int .i64 x.1.b) ∧ W.cell? ((a.add (i * 3)).add 2) = some x.2 ∧ IntsIn W x.2 x.1.n x.1.f := fun i hi => by
      obtain ⟨cs, h1, h2⟩ := hcell i (by omega)
      rw [k3] at h1
      obtain ⟨_, hlen, hc⟩ := World.cells?_some h1
      obtain ⟨y0, y1, y2, n1, hx1, _, g0, g1, g2⟩ := Deep.trod_struct3 Tryz.underlying33 h2
      match cs, hlen with
      | [v0, v1, v2], _ =>
        simp [k0, k1] at g0 g1 g2
        obtain ⟨q0, e0, _, _⟩ := DataW.trod_int Tryz.underlying3 g0
        obtain ⟨q1, e1, _, _⟩ := DataW.trod_int Tryz.underlying3 g1
        obtain ⟨q2, f, hi2⟩ := open_intsIn g2
        simp at e0 e1
        subst e0 e1
        have c0 := hc 0 (by omega)
        have c1 := hc 1 (by omega)
        have c2 := hc 2 (by omega)
        exact ⟨(⟨q0, q1, q2, f⟩, v2), c0, c1, c2, hi2⟩
    haveI : Inhabited (Pc × Value) := ⟨(Pc.none, .nilIface)⟩
    obtain ⟨g, hg⟩ := Deep.choose_lt (α := Pc × Value) each
    refine ⟨len, fun i => (g i).1, some a, cap, rfl, hl, hm, fun h0 => ?_⟩
    obtain ⟨b, off, spot⟩ := a
    have hspot : spot = none := by
      have h9 := World.cell?_spot (hg 0 h0).1
      simpa [Addr.add] using h9
    subst hspot
    refine ⟨b, off, rfl, fun i hi => ⟨(g i).2, ?_⟩⟩
    obtain ⟨h1, h2, h3, h4⟩ := hg i hi
    rw [Addr.add_lit] at h1 h2 h3
    rw [Addr.add_lit] at h1 h2 h3
    exact ⟨h1, h2, h3, h4⟩
theorem open_codsAt {H : Type} {enc : TypeId × Value → H} {W : World} {base : Nat} {v : Value} {d : DataW H} {p : List MemPlace}
    (hv : Value.okWide Tryz.prog W .any base 25 v) (h : DataW.Trod enc Tryz.prog W 0 (fun _ => true) true 25 v d p) : ∃ N C, CodsIn W v N C := by
  obtain ⟨a0, len, cap, rfl⟩ := okWide_slice Tryz.underlying25 hv
  obtain ⟨fuel, hf⟩ := h
  rcases Deep.open_slice Tryz.underlying25 hf with ⟨hcs, hx⟩ | ⟨a, len', cap', m, n, D, Pl, hcs, _, hl, hm, hmm, hx, hcell⟩
  · simp [Value.cells] at hcs
    obtain ⟨rfl, rfl, rfl⟩ := hcs
    exact ⟨0, fun _ => ⟨false, 0, 0, 0, fun _ => 0⟩, cods_nil _ _⟩
  · simp [Value.cells] at hcs
    obtain ⟨rfl, rfl, rfl⟩ := hcs
    simp only [if_true] at hmm
    have k0 : Tryz.prog.cellsOf 4 = 1 := by kernel_rfl
    have k1 : Tryz.prog.cellsOf 64 = 2 := by kernel_rfl
    have k2 : Tryz.prog.cellsOf 23 = 1 := by kernel_rfl
    have k3 : Tryz.prog.cellsOf 3 = 1 := by kernel_rfl
    have k4 : Tryz.prog.cellsOf 66 = 4 := by kernel_rfl
    have each : ∀ i, i < len → ∃ x : Cd × Value, W.cell? ((a.add (i * 4)).add 0) = some (.bool x.1.al) ∧ W.cell? ((a.add (i * 4)).add 1) = some (.int .i64 x.1.x) ∧ W.cell? ((a.add (i * 4)).add 2) = some (.int .i64 x.1.y) ∧ W.cell? ((a.add (i * 4)).add 3) = some x.2 ∧ IntsIn W x.2 x.1.n x.1.f := fun i hi => by
      obtain ⟨cs, h1, h2⟩ := hcell i (by omega)
      rw [k4] at h1
      obtain ⟨_, hlen, hc⟩ := World.cells?_some h1
      obtain ⟨y0, y1, y2, n1, hx1, _, g0, g1, g2⟩ := Deep.trod_struct3 Tryz.underlying66 h2
      match cs, hlen with
      | [v0, v1, v2, v3], _ =>
        simp [k0, k1, k2] at g0 g1 g2
        obtain ⟨z0, z1, n2, hx2, _, g3, g4⟩ := trod_struct2 Tryz.underlying64 g1
        simp [k3] at g3 g4
        obtain ⟨al, e0, _⟩ := DataW.trod_bool Tryz.underlying4 g0
        obtain ⟨q0, e1, _, _⟩ := DataW.trod_int Tryz.underlying3 g3
        obtain ⟨q1, e2, _, _⟩ := DataW.trod_int Tryz.underlying3 g4
        obtain ⟨q2, f, hi2⟩ := open_intsIn g2
        simp at e0 e1 e2
        subst e0 e1 e2
        have c0 := hc 0 (by omega)
        have c1 := hc 1 (by omega)
        have c2 := hc 2 (by omega)
        have c3 := hc 3 (by omega)
        exact ⟨(⟨al, q0, q1, q2, f⟩, v3), c0, c1, c2, c3, hi2⟩
    haveI : Inhabited (Cd × Value) := ⟨(⟨false, 0, 0, 0, fun _ => 0⟩, .nilIface)⟩
    obtain ⟨g, hg⟩ := Deep.choose_lt (α := Cd × Value) each
    refine ⟨len, fun i => (g i).1, some a, cap, rfl, hl, hm, fun h0 => ?_⟩
    obtain ⟨b, off, spot⟩ := a
    have hspot : spot = none := by
      have h9 := World.cell?_spot (hg 0 h0).1
      simpa [Addr.add] using h9
    subst hspot
    refine ⟨b, off, rfl, fun i hi => ⟨(g i).2, ?_⟩⟩
    obtain ⟨h1, h2, h3, h4, h5⟩ := hg i hi
    rw [Addr.add_lit] at h1 h2 h3 h4
    rw [Addr.add_lit] at h1 h2 h3 h4
    exact ⟨h1, h2, h3, h4, h5⟩
end Go.Proofs.YtjhflcgphejddaaGreatDoor
