/-
  Lemmas for the law above, joined into one text (AlF, AlDe, BestN). No statement is proved here.
-/
import Derived.Test.YtjhflcgphejddaaDoorBG1
import Derived.Test.YtjhflcgphejddaaDoorBG0
namespace Go.Proofs.YtjhflcgphejddaaDoor
set_option linter.unusedVariables false
set_option maxRecDepth 100000

/-- What is wrong with a number, and a step. -/
def rndF (n s : Int) : Nat := if stepOk s = true ∧ restOk n = true then 0 else 1
theorem rndF_zero {n s : Int} : rndF n s = 0 ↔ (1 ≤ s ∧ s ≤ 64) ∧ -255 ≤ n ∧ n ≤ 255 := by
  unfold rndF
  split
  · rename_i h; exact ⟨fun _ => ⟨stepOk_iff.1 h.1, restOk_iff.1 h.2⟩, fun _ => rfl⟩
  · rename_i h; exact ⟨fun e => absurd e (by decide), fun e => absurd ⟨stepOk_iff.2 e.1, restOk_iff.2 e.2⟩ h⟩
/-- What is wrong with a picture, and a step. -/
def encF (a b : Int) (n : Nat) (f : Nat → Int) (s : Int) : Nat := if picF a b n f ≠ 0 then picF a b n f else if stepOk s = true then 0 else 1
theorem encF_zero {a b : Int} {n : Nat} {f : Nat → Int} {s : Int} : encF a b n f s = 0 ↔ (∃ A B, PicOk a b n f A B) ∧ 1 ≤ s ∧ s ≤ 64 := by
  unfold encF
  constructor
  · intro h
    split at h
    · rename_i c; exact absurd h c
    · rename_i c
      split at h
      · rename_i c2; exact ⟨picF_zero.1 (by omega), stepOk_iff.1 c2⟩
      · cases h
  · rintro ⟨h1, h2⟩
    rw [if_neg (by rw [picF_zero.2 h1]; decide), if_pos (stepOk_iff.2 h2)]
/-- What is wrong with rests. -/
def restsF (n : Nat) (f : Nat → Int) (m : Int) : Nat := if (n : Int) ≠ m then 3 else if restsOk n f = false then 1 else 0
/-- What is wrong with sides, a step, and rests. -/
def decF (a b s : Int) (n : Nat) (f : Nat → Int) : Nat := if (sidesOk a b && stepOk s) = false then 1 else restsF n f (a * b)
/-- Rests that tell a picture. -/
structure DecOk (a b s : Int) (n : Nat) (f : Nat → Int) (A B : Nat) : Prop where
  wide : a = A
  high : b = B
  w1 : 1 ≤ A
  w6 : A ≤ 6
  h1 : 1 ≤ B
  h6 : B ≤ 6
  s1 : 1 ≤ s
  s2 : s ≤ 64
  many : n = A * B
  rest : ∀ i, i < n → -255 ≤ f i ∧ f i ≤ 255
theorem DecOk.le {a b s : Int} {n : Nat} {f : Nat → Int} {A B : Nat} (h : DecOk a b s n f A B) : n ≤ 36 := by
  have := Nat.mul_le_mul h.w6 h.h6
  rw [h.many]; omega
theorem DecOk.pos {a b s : Int} {n : Nat} {f : Nat → Int} {A B : Nat} (h : DecOk a b s n f A B) : 0 < n := by
  have := Nat.mul_le_mul h.w1 h.h1
  rw [h.many]; omega
theorem decF_zero {a b s : Int} {n : Nat} {f : Nat → Int} : decF a b s n f = 0 ↔ ∃ A B, DecOk a b s n f A B := by
  unfold decF restsF
  constructor
  · intro h
    split at h
    · cases h
    · rename_i h1
      rw [Bool.not_eq_false, Bool.and_eq_true, sidesOk_iff, stepOk_iff] at h1
      split at h
      · cases h
      · rename_i h2
        split at h
        · cases h
        · rename_i h3
          rw [Bool.not_eq_false, restsOk_iff] at h3
          obtain ⟨A, rfl⟩ := Int.eq_ofNat_of_zero_le (show 0 ≤ a by omega)
          obtain ⟨B, rfl⟩ := Int.eq_ofNat_of_zero_le (show 0 ≤ b by omega)
          refine ⟨A, B, rfl, rfl, by omega, by omega, by omega, by omega, by omega, by omega, ?_, h3⟩
          have : (n : Int) = (A : Int) * B := by omega
          rw [← Int.natCast_mul] at this
          exact Int.ofNat.inj this
  · rintro ⟨A, B, h⟩
    have h1 : sidesOk a b = true := sidesOk_iff.2 (by have := h.wide; have := h.high; have := h.w1; have := h.w6; have := h.h1; have := h.h6; omega)
    have h0 : stepOk s = true := stepOk_iff.2 ⟨h.s1, h.s2⟩
    have h2 : (n : Int) = a * b := by rw [h.wide, h.high, h.many, Int.natCast_mul]
    have h3 : restsOk n f = true := restsOk_iff.2 h.rest
    rw [h1, h0, h3, if_neg (by simp), if_neg (by simp [h2]), if_neg (by simp)]
/-- What Encode makes of a picture that is right, Decode may be handed. -/
theorem enc_dec {a b s : Int} {n : Nat} {f : Nat → Int} {A B : Nat} (h : PicOk a b n f A B) (s1 : 1 ≤ s) (s2 : s ≤ 64) : DecOk a b s n (restF A s (byPix s f)) A B :=
  ⟨h.wide, h.high, h.w1, h.w6, h.h1, h.h6, s1, s2, h.many, fun i hi => restF_in h.w1 s1 (h.pix i hi)⟩
/-- What is told is a picture that is right. -/
theorem DecOk.told {a b s : Int} {n : Nat} {f : Nat → Int} {A B : Nat} (h : DecOk a b s n f A B) (r : Nat → Int → Int) : PicOk a b n (tellF A s r) A B :=
  ⟨h.wide, h.high, h.w1, h.w6, h.h1, h.h6, h.many, fun i _ => tellF_in h.w1 s r i⟩
end Go.Proofs.YtjhflcgphejddaaDoor

namespace Go.Proofs.YtjhflcgphejddaaDoor
set_option linter.unusedVariables false
set_option maxRecDepth 100000

/-- What a picture is coded as, where it may be and where not. -/
def enM (a b : Int) (n : Nat) (f : Nat → Int) (s : Int) : Nat := if encF a b n f s = 0 then n else 0
def enG (a s : Int) (f : Nat → Int) : Nat → Int := restF a.toNat s (byPix s f)
theorem enM_le (a b : Int) (n : Nat) (f : Nat → Int) (s : Int) : enM a b n f s ≤ 36 := by
  unfold enM
  split
  · rename_i h
    obtain ⟨⟨A, B, o⟩, _⟩ := encF_zero.1 h
    exact o.le
  · omega
/-- What rests tell, where they may and where not. -/
def deX (a b s : Int) (n : Nat) (f : Nat → Int) : Int := if decF a b s n f = 0 then a else 0
def deY (a b s : Int) (n : Nat) (f : Nat → Int) : Int := if decF a b s n f = 0 then b else 0
def deM (a b s : Int) (n : Nat) (f : Nat → Int) : Nat := if decF a b s n f = 0 then n else 0
def deG (a s : Int) (f : Nat → Int) : Nat → Int := tellF a.toNat s fun i _ => f i
theorem deM_le (a b s : Int) (n : Nat) (f : Nat → Int) : deM a b s n f ≤ 36 := by
  unfold deM
  split
  · rename_i h
    obtain ⟨A, B, o⟩ := decF_zero.1 h
    exact o.le
  · omega
end Go.Proofs.YtjhflcgphejddaaDoor

namespace Go.Proofs.YtjhflcgphejddaaDoor
set_option linter.unusedVariables false
set_option maxRecDepth 100000

/-- Of the first some the first that is least. -/
def bestI (D : Nat → Nat) : Nat → Nat
  | 0 => 0
  | i + 1 => if D i < D (bestI D i) then i else bestI D i
theorem bestI_lt {D : Nat → Nat} : ∀ {n}, bestI D n < n + 1
  | 0 => Nat.zero_lt_one
  | n + 1 => by
    have := bestI_lt (D := D) (n := n)
    show (if D n < D (bestI D n) then n else bestI D n) < n + 1 + 1
    split <;> omega
theorem bestI_lt' {D : Nat → Nat} : ∀ {n}, 0 < n → bestI D n < n
  | 1, _ => by
    show (if D 0 < D 0 then 0 else 0) < 1
    split <;> omega
  | n + 2, _ => by
    have := bestI_lt' (D := D) (n := n + 1) (by omega)
    show (if D (n + 1) < D (bestI D (n + 1)) then n + 1 else bestI D (n + 1)) < n + 2
    split <;> omega
theorem bestI_le {D : Nat → Nat} : ∀ {n k}, k < n → D (bestI D n) ≤ D k
  | n + 1, k, h => by
    show D (if D n < D (bestI D n) then n else bestI D n) ≤ D k
    by_cases c : k = n
    · subst c
      split <;> omega
    · have := bestI_le (D := D) (n := n) (k := k) (by omega)
      split <;> omega
theorem bestI_none {D : Nat → Nat} (h : ∀ i, D 0 ≤ D i) : ∀ n, bestI D n = 0
  | 0 => rfl
  | n + 1 => by
    have := h n
    show (if D n < D (bestI D n) then n else bestI D n) = 0
    rw [bestI_none h n, if_neg (by omega)]
theorem bestI_step {D : Nat → Nat} {i : Nat} : bestI D (i + 1) = if D i < D (bestI D i) then i else bestI D i := rfl
theorem bestI_first {D : Nat → Nat} (h : D 0 = 0) : ∀ n, bestI D n = 0
  | 0 => rfl
  | n + 1 => by
    show (if D n < D (bestI D n) then n else bestI D n) = 0
    rw [bestI_first h n, if_neg (by omega)]
end Go.Proofs.YtjhflcgphejddaaDoor
