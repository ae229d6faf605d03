/-
  Lemmas for the law above, joined into one text (AlF, AlDe, BestN, MvN). No statement is proved here.
-/
import Derived.Test.YtjhflcgphejddaaDoorHG0
namespace Go.Proofs.YtjhflcgphejddaaDoor
set_option linter.unusedVariables false
set_option maxRecDepth 100000

/-- What is wrong with a number, and a step. -/
def rndF (n s : Int) : Nat := if stepOk s = true ∧ restOk n = true then 0 else 1
theorem rndF_zero {n s : Int} : rndF n s = 0 ↔ (1 ≤ s ∧ s ≤ 64) ∧ -255 ≤ n ∧ n ≤ 255 := by
  unfold rndF
  split
  · rename_i h; exact ⟨fun _ => ⟨stepOk_iff.1 h.1, restOk_iff.1 h.2⟩, fun _ => rfl⟩
  · rename_i h; exact ⟨fun e => absurd e (by decide), fun e => absurd ⟨stepOk_iff.2 e.1, restOk_iff.2 e.2⟩ h⟩
/-- What is wrong with a picture, and a step. -/
def encF (a b : Int) (n : Nat) (f : Nat → Int) (s : Int) : Nat := if picF a b n f ≠ 0 then picF a b n f else if stepOk s = true then 0 else 1
theorem encF_zero {a b : Int} {n : Nat} {f : Nat → Int} {s : Int} : encF a b n f s = 0 ↔ (∃ A B, PicOk a b n f A B) ∧ 1 ≤ s ∧ s ≤ 64 := by
  unfold encF
  constructor
  · intro h
    split at h
    · rename_i c; exact absurd h c
    · rename_i c
      split at h
      · rename_i c2; exact ⟨picF_zero.1 (by omega), stepOk_iff.1 c2⟩
      · cases h
  · rintro ⟨h1, h2⟩
    rw [if_neg (by rw [picF_zero.2 h1]; decide), if_pos (stepOk_iff.2 h2)]
/-- What is wrong with rests. -/
def restsF (n : Nat) (f : Nat → Int) (m : Int) : Nat := if (n : Int) ≠ m then 3 else if restsOk n f = false then 1 else 0
/-- What is wrong with sides, a step, and rests. -/
def decF (a b s : Int) (n : Nat) (f : Nat → Int) : Nat := if (sidesOk a b && stepOk s) = false then 1 else restsF n f (a * b)
/-- Rests that tell a picture. -/
structure DecOk (a b s : Int) (n : Nat) (f : Nat → Int) (A B : Nat) : Prop where
  wide : a = A
  high : b = B
  w1 : 1 ≤ A
  w6 : A ≤ 6
  h1 : 1 ≤ B
  h6 : B ≤ 6
  s1 : 1 ≤ s
  s2 : s ≤ 64
  many : n = A * B
  rest : ∀ i, i < n → -255 ≤ f i ∧ f i ≤ 255
theorem DecOk.le {a b s : Int} {n : Nat} {f : Nat → Int} {A B : Nat} (h : DecOk a b s n f A B) : n ≤ 36 := by
  have := Nat.mul_le_mul h.w6 h.h6
  rw [h.many]; omega
theorem DecOk.pos {a b s : Int} {n : Nat} {f : Nat → Int} {A B : Nat} (h : DecOk a b s n f A B) : 0 < n := by
  have := Nat.mul_le_mul h.w1 h.h1
  rw [h.many]; omega
theorem decF_zero {a b s : Int} {n : Nat} {f : Nat → Int} : decF a b s n f = 0 ↔ ∃ A B, DecOk a b s n f A B := by
  unfold decF restsF
  constructor
  · intro h
    split at h
    · cases h
    · rename_i h1
      rw [Bool.not_eq_false, Bool.and_eq_true, sidesOk_iff, stepOk_iff] at h1
      split at h
      · cases h
      · rename_i h2
        split at h
        · cases h
        · rename_i h3
          rw [Bool.not_eq_false, restsOk_iff] at h3
          obtain ⟨A, rfl⟩ := Int.eq_ofNat_of_zero_le (show 0 ≤ a by omega)
          obtain ⟨B, rfl⟩ := Int.eq_ofNat_of_zero_le (show 0 ≤ b by omega)
          refine ⟨A, B, rfl, rfl, by omega, by omega, by omega, by omega, by omega, by omega, ?_, h3⟩
          have : (n : Int) = (A : Int) * B := by omega
          rw [← Int.natCast_mul] at this
          exact Int.ofNat.inj this
  · rintro ⟨A, B, h⟩
    have h1 : sidesOk a b = true := sidesOk_iff.2 (by have := h.wide; have := h.high; have := h.w1; have := h.w6; have := h.h1; have := h.h6; omega)
    have h0 : stepOk s = true := stepOk_iff.2 ⟨h.s1, h.s2⟩
    have h2 : (n : Int) = a * b := by rw [h.wide, h.high, h.many, Int.natCast_mul]
    have h3 : restsOk n f = true := restsOk_iff.2 h.rest
    rw [h1, h0, h3, if_neg (by simp), if_neg (by simp [h2]), if_neg (by simp)]
/-- What Encode makes of a picture that is right, Decode may be handed. -/
theorem enc_dec {a b s : Int} {n : Nat} {f : Nat → Int} {A B : Nat} (h : PicOk a b n f A B) (s1 : 1 ≤ s) (s2 : s ≤ 64) : DecOk a b s n (restF A s (byPix s f)) A B :=
  ⟨h.wide, h.high, h.w1, h.w6, h.h1, h.h6, s1, s2, h.many, fun i hi => restF_in h.w1 s1 (h.pix i hi)⟩
/-- What is told is a picture that is right. -/
theorem DecOk.told {a b s : Int} {n : Nat} {f : Nat → Int} {A B : Nat} (h : DecOk a b s n f A B) (r : Nat → Int → Int) : PicOk a b n (tellF A s r) A B :=
  ⟨h.wide, h.high, h.w1, h.w6, h.h1, h.h6, h.many, fun i _ => tellF_in h.w1 s r i⟩
end Go.Proofs.YtjhflcgphejddaaDoor

namespace Go.Proofs.YtjhflcgphejddaaDoor
set_option linter.unusedVariables false
set_option maxRecDepth 100000

/-- What a picture is coded as, where it may be and where not. -/
def enM (a b : Int) (n : Nat) (f : Nat → Int) (s : Int) : Nat := if encF a b n f s = 0 then n else 0
def enG (a s : Int) (f : Nat → Int) : Nat → Int := restF a.toNat s (byPix s f)
theorem enM_le (a b : Int) (n : Nat) (f : Nat → Int) (s : Int) : enM a b n f s ≤ 36 := by
  unfold enM
  split
  · rename_i h
    obtain ⟨⟨A, B, o⟩, _⟩ := encF_zero.1 h
    exact o.le
  · omega
/-- What rests tell, where they may and where not. -/
def deX (a b s : Int) (n : Nat) (f : Nat → Int) : Int := if decF a b s n f = 0 then a else 0
def deY (a b s : Int) (n : Nat) (f : Nat → Int) : Int := if decF a b s n f = 0 then b else 0
def deM (a b s : Int) (n : Nat) (f : Nat → Int) : Nat := if decF a b s n f = 0 then n else 0
def deG (a s : Int) (f : Nat → Int) : Nat → Int := tellF a.toNat s fun i _ => f i
theorem deM_le (a b s : Int) (n : Nat) (f : Nat → Int) : deM a b s n f ≤ 36 := by
  unfold deM
  split
  · rename_i h
    obtain ⟨A, B, o⟩ := decF_zero.1 h
    exact o.le
  · omega
end Go.Proofs.YtjhflcgphejddaaDoor

namespace Go.Proofs.YtjhflcgphejddaaDoor
set_option linter.unusedVariables false
set_option maxRecDepth 100000

/-- Of the first some the first that is least. -/
def bestI (D : Nat → Nat) : Nat → Nat
  | 0 => 0
  | i + 1 => if D i < D (bestI D i) then i else bestI D i
theorem bestI_lt {D : Nat → Nat} : ∀ {n}, bestI D n < n + 1
  | 0 => Nat.zero_lt_one
  | n + 1 => by
    have := bestI_lt (D := D) (n := n)
    show (if D n < D (bestI D n) then n else bestI D n) < n + 1 + 1
    split <;> omega
theorem bestI_lt' {D : Nat → Nat} : ∀ {n}, 0 < n → bestI D n < n
  | 1, _ => by
    show (if D 0 < D 0 then 0 else 0) < 1
    split <;> omega
  | n + 2, _ => by
    have := bestI_lt' (D := D) (n := n + 1) (by omega)
    show (if D (n + 1) < D (bestI D (n + 1)) then n + 1 else bestI D (n + 1)) < n + 2
    split <;> omega
theorem bestI_le {D : Nat → Nat} : ∀ {n k}, k < n → D (bestI D n) ≤ D k
  | n + 1, k, h => by
    show D (if D n < D (bestI D n) then n else bestI D n) ≤ D k
    by_cases c : k = n
    · subst c
      split <;> omega
    · have := bestI_le (D := D) (n := n) (k := k) (by omega)
      split <;> omega
theorem bestI_none {D : Nat → Nat} (h : ∀ i, D 0 ≤ D i) : ∀ n, bestI D n = 0
  | 0 => rfl
  | n + 1 => by
    have := h n
    show (if D n < D (bestI D n) then n else bestI D n) = 0
    rw [bestI_none h n, if_neg (by omega)]
theorem bestI_step {D : Nat → Nat} {i : Nat} : bestI D (i + 1) = if D i < D (bestI D i) then i else bestI D i := rfl
theorem bestI_first {D : Nat → Nat} (h : D 0 = 0) : ∀ n, bestI D n = 0
  | 0 => rfl
  | n + 1 => by
    show (if D n < D (bestI D n) then n else bestI D n) = 0
    rw [bestI_first h n, if_neg (by omega)]
end Go.Proofs.YtjhflcgphejddaaDoor

namespace Go.Proofs.YtjhflcgphejddaaDoor
set_option linter.unusedVariables false
set_option maxRecDepth 100000

/-- How far two rows of numbers are apart, all added up. -/
def sumN (f g : Nat → Int) : Nat → Nat
  | 0 => 0
  | i + 1 => sumN f g i + (f i - g i).natAbs
theorem sumN_le {f g : Nat → Int} : ∀ {n}, (∀ i, i < n → 0 ≤ f i ∧ f i ≤ 255) → (∀ i, i < n → 0 ≤ g i ∧ g i ≤ 255) → sumN f g n ≤ n * 255
  | 0, _, _ => Nat.zero_le _
  | n + 1, hf, hg => by
    have h := sumN_le (n := n) (fun i hi => hf i (by omega)) (fun i hi => hg i (by omega))
    have h1 := hf n (by omega)
    have h2 := hg n (by omega)
    show sumN f g n + (f n - g n).natAbs ≤ (n + 1) * 255
    omega
theorem sumN_zero {f g : Nat → Int} : ∀ {n}, sumN f g n = 0 ↔ ∀ i, i < n → f i = g i
  | 0 => ⟨fun _ i hi => absurd hi (Nat.not_lt_zero _), fun _ => rfl⟩
  | n + 1 => by
    have h := sumN_zero (f := f) (g := g) (n := n)
    constructor
    · intro e i hi
      have e' : sumN f g n + (f n - g n).natAbs = 0 := e
      by_cases c : i = n
      · subst c; omega
      · exact h.1 (by omega) i (by omega)
    · intro e
      have h1 := h.2 (fun i hi => e i (by omega))
      have h2 := e n (by omega)
      show sumN f g n + (f n - g n).natAbs = 0
      omega

/-- The moves, one by one. -/
def mvX (i : Nat) : Int := ((i % 3 : Nat) : Int) - 1
def mvY (i : Nat) : Int := ((i / 3 : Nat) : Int) - 1
theorem mv_in {i : Nat} (h : i < 9) : -1 ≤ mvX i ∧ mvX i ≤ 1 ∧ -1 ≤ mvY i ∧ mvY i ≤ 1 := by
  unfold mvX mvY; omega
theorem mv_far {i : Nat} (h : i < 9) : farF (mvX i) (mvY i) = 0 := by
  have := mv_in h
  exact farF_zero.2 (by omega)
theorem mv_of {x y : Int} (h : -1 ≤ x ∧ x ≤ 1 ∧ -1 ≤ y ∧ y ≤ 1) : ∃ i, i < 9 ∧ mvX i = x ∧ mvY i = y :=
  ⟨((y + 1) * 3 + (x + 1)).toNat, by omega, by unfold mvX; omega, by unfold mvY; omega⟩
/-- How far a moved picture is from another. -/
def apN (A B : Nat) (f g : Nat → Int) (n : Nat) (i : Nat) : Nat := sumN (shiftN A B (mvX i) (mvY i) f) g n
/-- The best of the moves. -/
def bsN (A B : Nat) (f g : Nat → Int) (n : Nat) : Nat := bestI (apN A B f g n) 9
theorem bsN_lt (A B : Nat) (f g : Nat → Int) (n : Nat) : bsN A B f g n < 9 := bestI_lt' (by omega)
def bsX (A B : Nat) (f g : Nat → Int) (n : Nat) : Int := mvX (bsN A B f g n)
def bsY (A B : Nat) (f g : Nat → Int) (n : Nat) : Int := mvY (bsN A B f g n)
theorem bs_in (A B : Nat) (f g : Nat → Int) (n : Nat) : -1 ≤ bsX A B f g n ∧ bsX A B f g n ≤ 1 ∧ -1 ≤ bsY A B f g n ∧ bsY A B f g n ≤ 1 := mv_in (bsN_lt A B f g n)
/-- The best guess. -/
def bgN (A B : Nat) (f g : Nat → Int) (n : Nat) : Nat → Int := shiftN A B (bsX A B f g n) (bsY A B f g n) f
/-- Where a move makes it the same, so does the best. -/
theorem bg_same {A B : Nat} {f g : Nat → Int} {n : Nat} {x y : Int} (h : -1 ≤ x ∧ x ≤ 1 ∧ -1 ≤ y ∧ y ≤ 1) (hg : ∀ i, i < n → shiftN A B x y f i = g i) : ∀ i, i < n → bgN A B f g n i = g i := by
  obtain ⟨k, hk, ex, ey⟩ := mv_of h
  have h1 : apN A B f g n k = 0 := by
    unfold apN
    rw [ex, ey]
    exact sumN_zero.2 hg
  have h2 : apN A B f g n (bsN A B f g n) ≤ apN A B f g n k := bestI_le hk
  exact sumN_zero.1 (show apN A B f g n (bsN A B f g n) = 0 by omega)
/-- What is left. -/
def mrF (A B : Nat) (f g : Nat → Int) (n : Nat) (s : Int) (i : Nat) : Int := rnd (g i - bgN A B f g n i) s
/-- What is told. -/
def toldF (h r : Nat → Int) (s : Int) (i : Nat) : Int := clamp (h i + r i * s)
theorem toldF_in (h r : Nat → Int) (s : Int) (i : Nat) : 0 ≤ toldF h r s i ∧ toldF h r s i ≤ 255 := clamp_in _
theorem mrF_in {A B : Nat} {f g : Nat → Int} {n : Nat} {s : Int} (s1 : 1 ≤ s) {i : Nat} (hb : 0 ≤ bgN A B f g n i ∧ bgN A B f g n i ≤ 255) (hg : 0 ≤ g i ∧ g i ≤ 255) : -255 ≤ mrF A B f g n s i ∧ mrF A B f g n s i ≤ 255 :=
  rnd_range s1 (by omega) (by omega)
theorem toldF_near {A B : Nat} {f g : Nat → Int} {n : Nat} {s : Int} (s1 : 1 ≤ s) {i : Nat} (hg : 0 ≤ g i ∧ g i ≤ 255) : ((g i - toldF (bgN A B f g n) (mrF A B f g n s) s i).natAbs : Int) ≤ s / 2 := by
  have h := rnd_near (n := g i - bgN A B f g n i) s1
  show ((g i - clamp (bgN A B f g n i + rnd (g i - bgN A B f g n i) s * s)).natAbs : Int) ≤ s / 2
  generalize bgN A B f g n i = b at *
  generalize rnd (g i - b) s * s = p at *
  unfold clamp
  omega
/-- Where the best is the same there is no rest, and what is told is it. -/
theorem mrF_same {A B : Nat} {f g : Nat → Int} {n : Nat} {s : Int} (s1 : 1 ≤ s) {i : Nat} (h : bgN A B f g n i = g i) : mrF A B f g n s i = 0 := by
  unfold mrF
  rw [h, Int.sub_self, rnd_zero s1]
theorem toldF_same {h r : Nat → Int} {s : Int} {i : Nat} (h0 : r i = 0) (hh : 0 ≤ h i ∧ h i ≤ 255) : toldF h r s i = h i := by
  unfold toldF
  rw [h0, Int.zero_mul, Int.add_zero, clamp_self hh]
theorem bgN_in {a b : Int} {n : Nat} {f : Nat → Int} {A B : Nat} (o : PicOk a b n f A B) (g : Nat → Int) : ∀ i, i < n → 0 ≤ bgN A B f g n i ∧ bgN A B f g n i ≤ 255 := (o.shift _ _).pix
theorem apN_le {a b : Int} {n : Nat} {f g : Nat → Int} {A B : Nat} (o : PicOk a b n f A B) (hg : ∀ i, i < n → 0 ≤ g i ∧ g i ≤ 255) (i : Nat) : apN A B f g n i ≤ 9180 := by
  have h := sumN_le (n := n) (o.shift (mvX i) (mvY i)).pix hg
  have := o.le
  unfold apN
  omega
end Go.Proofs.YtjhflcgphejddaaDoor
