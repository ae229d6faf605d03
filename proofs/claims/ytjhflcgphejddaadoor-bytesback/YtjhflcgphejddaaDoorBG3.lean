/-
  Lemmas for the law above, joined into one text (MvN, MvF, MvDe). No statement is proved here.
-/
import Derived.Test.YtjhflcgphejddaaDoorBG1
import Derived.Test.YtjhflcgphejddaaDoorBG2
namespace Go.Proofs.YtjhflcgphejddaaDoor
set_option linter.unusedVariables false
set_option maxRecDepth 100000

/-- How far two rows of numbers are apart, all added up. -/
def sumN (f g : Nat → Int) : Nat → Nat
  | 0 => 0
  | i + 1 => sumN f g i + (f i - g i).natAbs
theorem sumN_le {f g : Nat → Int} : ∀ {n}, (∀ i, i < n → 0 ≤ f i ∧ f i ≤ 255) → (∀ i, i < n → 0 ≤ g i ∧ g i ≤ 255) → sumN f g n ≤ n * 255
  | 0, _, _ => Nat.zero_le _
  | n + 1, hf, hg => by
    have h := sumN_le (n := n) (fun i hi => hf i (by omega)) (fun i hi => hg i (by omega))
    have h1 := hf n (by omega)
    have h2 := hg n (by omega)
    show sumN f g n + (f n - g n).natAbs ≤ (n + 1) * 255
    omega
theorem sumN_zero {f g : Nat → Int} : ∀ {n}, sumN f g n = 0 ↔ ∀ i, i < n → f i = g i
  | 0 => ⟨fun _ i hi => absurd hi (Nat.not_lt_zero _), fun _ => rfl⟩
  | n + 1 => by
    have h := sumN_zero (f := f) (g := g) (n := n)
    constructor
    · intro e i hi
      have e' : sumN f g n + (f n - g n).natAbs = 0 := e
      by_cases c : i = n
      · subst c; omega
      · exact h.1 (by omega) i (by omega)
    · intro e
      have h1 := h.2 (fun i hi => e i (by omega))
      have h2 := e n (by omega)
      show sumN f g n + (f n - g n).natAbs = 0
      omega

/-- The moves, one by one. -/
def mvX (i : Nat) : Int := ((i % 3 : Nat) : Int) - 1
def mvY (i : Nat) : Int := ((i / 3 : Nat) : Int) - 1
theorem mv_in {i : Nat} (h : i < 9) : -1 ≤ mvX i ∧ mvX i ≤ 1 ∧ -1 ≤ mvY i ∧ mvY i ≤ 1 := by
  unfold mvX mvY; omega
theorem mv_far {i : Nat} (h : i < 9) : farF (mvX i) (mvY i) = 0 := by
  have := mv_in h
  exact farF_zero.2 (by omega)
theorem mv_of {x y : Int} (h : -1 ≤ x ∧ x ≤ 1 ∧ -1 ≤ y ∧ y ≤ 1) : ∃ i, i < 9 ∧ mvX i = x ∧ mvY i = y :=
  ⟨((y + 1) * 3 + (x + 1)).toNat, by omega, by unfold mvX; omega, by unfold mvY; omega⟩
/-- How far a moved picture is from another. -/
def apN (A B : Nat) (f g : Nat → Int) (n : Nat) (i : Nat) : Nat := sumN (shiftN A B (mvX i) (mvY i) f) g n
/-- The best of the moves. -/
def bsN (A B : Nat) (f g : Nat → Int) (n : Nat) : Nat := bestI (apN A B f g n) 9
theorem bsN_lt (A B : Nat) (f g : Nat → Int) (n : Nat) : bsN A B f g n < 9 := bestI_lt' (by omega)
def bsX (A B : Nat) (f g : Nat → Int) (n : Nat) : Int := mvX (bsN A B f g n)
def bsY (A B : Nat) (f g : Nat → Int) (n : Nat) : Int := mvY (bsN A B f g n)
theorem bs_in (A B : Nat) (f g : Nat → Int) (n : Nat) : -1 ≤ bsX A B f g n ∧ bsX A B f g n ≤ 1 ∧ -1 ≤ bsY A B f g n ∧ bsY A B f g n ≤ 1 := mv_in (bsN_lt A B f g n)
/-- The best guess. -/
def bgN (A B : Nat) (f g : Nat → Int) (n : Nat) : Nat → Int := shiftN A B (bsX A B f g n) (bsY A B f g n) f
/-- Where a move makes it the same, so does the best. -/
theorem bg_same {A B : Nat} {f g : Nat → Int} {n : Nat} {x y : Int} (h : -1 ≤ x ∧ x ≤ 1 ∧ -1 ≤ y ∧ y ≤ 1) (hg : ∀ i, i < n → shiftN A B x y f i = g i) : ∀ i, i < n → bgN A B f g n i = g i := by
  obtain ⟨k, hk, ex, ey⟩ := mv_of h
  have h1 : apN A B f g n k = 0 := by
    unfold apN
    rw [ex, ey]
    exact sumN_zero.2 hg
  have h2 : apN A B f g n (bsN A B f g n) ≤ apN A B f g n k := bestI_le hk
  exact sumN_zero.1 (show apN A B f g n (bsN A B f g n) = 0 by omega)
/-- What is left. -/
def mrF (A B : Nat) (f g : Nat → Int) (n : Nat) (s : Int) (i : Nat) : Int := rnd (g i - bgN A B f g n i) s
/-- What is told. -/
def toldF (h r : Nat → Int) (s : Int) (i : Nat) : Int := clamp (h i + r i * s)
theorem toldF_in (h r : Nat → Int) (s : Int) (i : Nat) : 0 ≤ toldF h r s i ∧ toldF h r s i ≤ 255 := clamp_in _
theorem mrF_in {A B : Nat} {f g : Nat → Int} {n : Nat} {s : Int} (s1 : 1 ≤ s) {i : Nat} (hb : 0 ≤ bgN A B f g n i ∧ bgN A B f g n i ≤ 255) (hg : 0 ≤ g i ∧ g i ≤ 255) : -255 ≤ mrF A B f g n s i ∧ mrF A B f g n s i ≤ 255 :=
  rnd_range s1 (by omega) (by omega)
theorem toldF_near {A B : Nat} {f g : Nat → Int} {n : Nat} {s : Int} (s1 : 1 ≤ s) {i : Nat} (hg : 0 ≤ g i ∧ g i ≤ 255) : ((g i - toldF (bgN A B f g n) (mrF A B f g n s) s i).natAbs : Int) ≤ s / 2 := by
  have h := rnd_near (n := g i - bgN A B f g n i) s1
  show ((g i - clamp (bgN A B f g n i + rnd (g i - bgN A B f g n i) s * s)).natAbs : Int) ≤ s / 2
  generalize bgN A B f g n i = b at *
  generalize rnd (g i - b) s * s = p at *
  unfold clamp
  omega
/-- Where the best is the same there is no rest, and what is told is it. -/
theorem mrF_same {A B : Nat} {f g : Nat → Int} {n : Nat} {s : Int} (s1 : 1 ≤ s) {i : Nat} (h : bgN A B f g n i = g i) : mrF A B f g n s i = 0 := by
  unfold mrF
  rw [h, Int.sub_self, rnd_zero s1]
theorem toldF_same {h r : Nat → Int} {s : Int} {i : Nat} (h0 : r i = 0) (hh : 0 ≤ h i ∧ h i ≤ 255) : toldF h r s i = h i := by
  unfold toldF
  rw [h0, Int.zero_mul, Int.add_zero, clamp_self hh]
theorem bgN_in {a b : Int} {n : Nat} {f : Nat → Int} {A B : Nat} (o : PicOk a b n f A B) (g : Nat → Int) : ∀ i, i < n → 0 ≤ bgN A B f g n i ∧ bgN A B f g n i ≤ 255 := (o.shift _ _).pix
theorem apN_le {a b : Int} {n : Nat} {f g : Nat → Int} {A B : Nat} (o : PicOk a b n f A B) (hg : ∀ i, i < n → 0 ≤ g i ∧ g i ≤ 255) (i : Nat) : apN A B f g n i ≤ 9180 := by
  have h := sumN_le (n := n) (o.shift (mvX i) (mvY i)).pix hg
  have := o.le
  unfold apN
  omega
end Go.Proofs.YtjhflcgphejddaaDoor

namespace Go.Proofs.YtjhflcgphejddaaDoor
set_option linter.unusedVariables false
set_option maxRecDepth 100000

def mvOk (x y : Int) : Bool := (decide (-1 ≤ x) && decide (x ≤ 1)) && (decide (-1 ≤ y) && decide (y ≤ 1))
theorem mvOk_iff {x y : Int} : mvOk x y = true ↔ -1 ≤ x ∧ x ≤ 1 ∧ -1 ≤ y ∧ y ≤ 1 := by
  simp [mvOk, and_assoc]
/-- What is wrong with what was coded, of a picture of so many pixels. -/
def chkF (al : Bool) (x y : Int) (n : Nat) (f : Nat → Int) (m : Int) : Nat := if al = true then 3 else if mvOk x y = false then 1 else restsF n f m
/-- What is wrong with two pictures, and a step. -/
def menF (a b : Int) (n : Nat) (f : Nat → Int) (a' b' : Int) (n' : Nat) (f' : Nat → Int) (s : Int) : Nat :=
  if twoF a b n f a' b' n' f' ≠ 0 then twoF a b n f a' b' n' f' else if stepOk s = true then 0 else 1
/-- What is wrong with a picture, what was coded, and a step. -/
def mdeF (a b : Int) (n : Nat) (f : Nat → Int) (al : Bool) (x y : Int) (n' : Nat) (f' : Nat → Int) (s : Int) : Nat :=
  if picF a b n f ≠ 0 then picF a b n f else if stepOk s = false then 1 else chkF al x y n' f' n
theorem restsF_zero {n : Nat} {f : Nat → Int} {m : Int} : restsF n f m = 0 ↔ (n : Int) = m ∧ ∀ i, i < n → -255 ≤ f i ∧ f i ≤ 255 := by
  unfold restsF
  constructor
  · intro h
    split at h
    · cases h
    · rename_i h1
      split at h
      · cases h
      · rename_i h2
        rw [Bool.not_eq_false, restsOk_iff] at h2
        exact ⟨by omega, h2⟩
  · rintro ⟨h1, h2⟩
    rw [if_neg (by omega), restsOk_iff.2 h2, if_neg (by simp)]
theorem chkF_zero {al : Bool} {x y : Int} {n : Nat} {f : Nat → Int} {m : Int} : chkF al x y n f m = 0 ↔ al = false ∧ (-1 ≤ x ∧ x ≤ 1 ∧ -1 ≤ y ∧ y ≤ 1) ∧ (n : Int) = m ∧ ∀ i, i < n → -255 ≤ f i ∧ f i ≤ 255 := by
  unfold chkF
  constructor
  · intro h
    split at h
    · cases h
    · rename_i h1
      split at h
      · cases h
      · rename_i h2
        rw [Bool.not_eq_false, mvOk_iff] at h2
        exact ⟨by simpa using h1, h2, restsF_zero.1 h⟩
  · rintro ⟨rfl, h2, h3⟩
    rw [if_neg (by simp), mvOk_iff.2 h2, if_neg (by simp)]
    exact restsF_zero.2 h3
theorem menF_zero {a b : Int} {n : Nat} {f : Nat → Int} {a' b' : Int} {n' : Nat} {f' : Nat → Int} {s : Int} : menF a b n f a' b' n' f' s = 0 ↔ twoF a b n f a' b' n' f' = 0 ∧ 1 ≤ s ∧ s ≤ 64 := by
  unfold menF
  constructor
  · intro h
    split at h
    · rename_i c; exact absurd h c
    · rename_i c
      split at h
      · rename_i c2; exact ⟨by omega, stepOk_iff.1 c2⟩
      · cases h
  · rintro ⟨h1, h2⟩
    rw [if_neg (by omega), if_pos (stepOk_iff.2 h2)]
theorem mdeF_zero {a b : Int} {n : Nat} {f : Nat → Int} {al : Bool} {x y : Int} {n' : Nat} {f' : Nat → Int} {s : Int} : mdeF a b n f al x y n' f' s = 0 ↔ picF a b n f = 0 ∧ (1 ≤ s ∧ s ≤ 64) ∧ chkF al x y n' f' n = 0 := by
  unfold mdeF
  constructor
  · intro h
    split at h
    · rename_i c; exact absurd h c
    · rename_i c
      split at h
      · cases h
      · rename_i c2
        rw [Bool.not_eq_false, stepOk_iff] at c2
        exact ⟨by omega, c2, h⟩
  · rintro ⟨h1, h2, h3⟩
    rw [if_neg (by omega), stepOk_iff.2 h2, if_neg (by simp)]
    exact h3
/-- Two pictures that are right and alike. -/
theorem two_ok {a b : Int} {n : Nat} {f : Nat → Int} {a' b' : Int} {n' : Nat} {f' : Nat → Int} (h : twoF a b n f a' b' n' f' = 0) : n = n' ∧ ∃ A B, PicOk a b n f A B ∧ PicOk a' b' n f' A B := by
  obtain ⟨hp, hq, ea, eb⟩ := twoF_zero.1 h
  obtain ⟨A, B, o⟩ := picF_zero.1 hp
  obtain ⟨A', B', o'⟩ := picF_zero.1 hq
  have e1 : A = A' := by have := o.wide; have := o'.wide; omega
  have e2 : B = B' := by have := o.high; have := o'.high; omega
  subst e1
  subst e2
  have en : n = n' := by rw [o'.many, o.many]
  subst en
  exact ⟨rfl, A, B, o, o'⟩
theorem ok_two {a b : Int} {n : Nat} {f : Nat → Int} {a' b' : Int} {f' : Nat → Int} {A B : Nat} (o : PicOk a b n f A B) (o' : PicOk a' b' n f' A B) : twoF a b n f a' b' n f' = 0 :=
  twoF_zero.2 ⟨picF_zero.2 ⟨A, B, o⟩, picF_zero.2 ⟨A, B, o'⟩, by rw [o.wide, o'.wide], by rw [o.high, o'.high]⟩
end Go.Proofs.YtjhflcgphejddaaDoor

namespace Go.Proofs.YtjhflcgphejddaaDoor
set_option linter.unusedVariables false
set_option maxRecDepth 100000

/-- What is told, where it may be and where not. -/
def mdX (a b : Int) (n : Nat) (f : Nat → Int) (al : Bool) (x y : Int) (n' : Nat) (f' : Nat → Int) (s : Int) : Int := if mdeF a b n f al x y n' f' s = 0 then a else 0
def mdY (a b : Int) (n : Nat) (f : Nat → Int) (al : Bool) (x y : Int) (n' : Nat) (f' : Nat → Int) (s : Int) : Int := if mdeF a b n f al x y n' f' s = 0 then b else 0
def mdM (a b : Int) (n : Nat) (f : Nat → Int) (al : Bool) (x y : Int) (n' : Nat) (f' : Nat → Int) (s : Int) : Nat := if mdeF a b n f al x y n' f' s = 0 then n else 0
def mdG (a b : Int) (f : Nat → Int) (x y : Int) (f' : Nat → Int) (s : Int) : Nat → Int := toldF (shiftN a.toNat b.toNat x y f) f' s
theorem mdM_le (a b : Int) (n : Nat) (f : Nat → Int) (al : Bool) (x y : Int) (n' : Nat) (f' : Nat → Int) (s : Int) : mdM a b n f al x y n' f' s ≤ 36 := by
  unfold mdM
  split
  · rename_i h
    obtain ⟨A, B, o⟩ := picF_zero.1 (mdeF_zero.1 h).1
    exact o.le
  · omega
end Go.Proofs.YtjhflcgphejddaaDoor
