/-
  Lemmas for the law above, joined into one text (AlN, AlO). No statement is proved here.
-/
import Derived.Test.YtcicoblejaippaaDoorTG3
namespace Go.Proofs.YtcicoblejaippaaDoor
set_option linter.unusedVariables false
set_option maxRecDepth 100000

/-- Which number of steps is nearest. -/
def rnd (n s : Int) : Int := if n < 0 then -((-n + s / 2) / s) else (n + s / 2) / s
theorem div_parts (m s : Int) (hs : 1 ≤ s) : ∃ r, 0 ≤ r ∧ r < s ∧ m = m / s * s + r :=
  ⟨m % s, Int.emod_nonneg _ (by omega), Int.emod_lt_of_pos _ (by omega), by
    have := Int.mul_ediv_add_emod m s
    rw [Int.mul_comm] at this
    omega⟩
theorem rnd_neg {n s : Int} (h : n < 0) : rnd n s = -rnd (-n) s := by
  unfold rnd
  rw [if_pos h, if_neg (by omega)]
theorem rnd_pos {n s : Int} (h : 0 ≤ n) : rnd n s = (n + s / 2) / s := by
  unfold rnd
  rw [if_neg (by omega)]
theorem rnd_zero {s : Int} (hs : 1 ≤ s) : rnd 0 s = 0 := by
  rw [rnd_pos (by omega)]
  exact Int.ediv_eq_zero_of_lt (by omega) (by omega)
theorem rnd_near {n s : Int} (hs : 1 ≤ s) : -(s / 2) ≤ n - rnd n s * s ∧ n - rnd n s * s ≤ s / 2 := by
  by_cases h : n < 0
  · rw [rnd_neg h, rnd_pos (by omega), Int.neg_mul]
    obtain ⟨r, r0, r1, e⟩ := div_parts (-n + s / 2) s hs
    generalize (-n + s / 2) / s * s = p at *
    omega
  · rw [rnd_pos (by omega)]
    obtain ⟨r, r0, r1, e⟩ := div_parts (n + s / 2) s hs
    generalize (n + s / 2) / s * s = p at *
    omega
theorem rnd_up {n s : Int} (hs : 1 ≤ s) (h0 : 0 ≤ n) : 0 ≤ rnd n s ∧ rnd n s ≤ n := by
  rw [rnd_pos h0]
  constructor
  · exact Int.ediv_nonneg (by omega) (by omega)
  · by_cases h : n = 0
    · subst h
      rw [Int.ediv_eq_zero_of_lt (by omega) (by omega)]
      omega
    · have h1 : n + s / 2 < (n + 1) * s := by
        have e1 : (n + 1) * s = n * s + s := by rw [Int.add_mul, Int.one_mul]
        have e2 : n * 1 ≤ n * s := Int.mul_le_mul_of_nonneg_left hs h0
        omega
      have := Int.ediv_lt_of_lt_mul (by omega) h1
      omega
theorem rnd_range {n s : Int} (hs : 1 ≤ s) (h0 : -255 ≤ n) (h1 : n ≤ 255) : -255 ≤ rnd n s ∧ rnd n s ≤ 255 := by
  by_cases h : n < 0
  · rw [rnd_neg h]
    have := rnd_up hs (show 0 ≤ -n by omega)
    omega
  · have := rnd_up hs (show 0 ≤ n by omega)
    omega

/-- A number as far as a pixel may be. -/
def clamp (x : Int) : Int := min (max x 0) 255
theorem clamp_in (x : Int) : 0 ≤ clamp x ∧ clamp x ≤ 255 := by unfold clamp; omega
theorem clamp_self {x : Int} (h : 0 ≤ x ∧ x ≤ 255) : clamp x = x := by unfold clamp; omega

/-- What the pixel at a place is guessed to be, by those told. -/
def gsN (A : Nat) (T : Nat → Int) (i : Nat) : Int := if i = 0 then 128 else if i % A = 0 then T (i - A) else T (i - 1)
theorem gsN_in {A : Nat} {T : Nat → Int} (h : ∀ i, 0 ≤ T i ∧ T i ≤ 255) (i : Nat) : 0 ≤ gsN A T i ∧ gsN A T i ≤ 255 := by
  unfold gsN
  split
  · omega
  · split
    · exact h _
    · exact h _
theorem gsN_congr {A : Nat} (hA : 1 ≤ A) {T T' : Nat → Int} {i : Nat} (h : ∀ j, j < i → T j = T' j) : gsN A T i = gsN A T' i := by
  unfold gsN
  split
  · rfl
  · split
    · exact h _ (by omega)
    · exact h _ (by omega)
/-- What is told, pixel by pixel, where r says what is left of each, by its place and what was guessed. -/
def tellF (A : Nat) (s : Int) (r : Nat → Int → Int) (i : Nat) : Int :=
  let g : Int := if h : i = 0 then 128 else if h2 : i % A = 0 ∧ 1 ≤ A then tellF A s r (i - A) else tellF A s r (i - 1)
  clamp (g + r i g * s)
  termination_by i
  decreasing_by
    · omega
    · omega
theorem tellF_eq {A : Nat} (hA : 1 ≤ A) (s : Int) (r : Nat → Int → Int) (i : Nat) : tellF A s r i = clamp (gsN A (tellF A s r) i + r i (gsN A (tellF A s r) i) * s) := by
  have e : (if h : i = 0 then (128 : Int) else if h2 : i % A = 0 ∧ 1 ≤ A then tellF A s r (i - A) else tellF A s r (i - 1)) = gsN A (tellF A s r) i := by
    unfold gsN
    by_cases h : i = 0
    · rw [dif_pos h, if_pos h]
    · rw [dif_neg h, if_neg h]
      by_cases h2 : i % A = 0
      · rw [dif_pos ⟨h2, hA⟩, if_pos h2]
      · rw [dif_neg (fun h => h2 h.1), if_neg h2]
  rw [tellF, e]
theorem tellF_in {A : Nat} (hA : 1 ≤ A) (s : Int) (r : Nat → Int → Int) (i : Nat) : 0 ≤ tellF A s r i ∧ tellF A s r i ≤ 255 := by
  rw [tellF_eq hA]; exact clamp_in _
/-- What is left of the pixel at a place. -/
def restF (A : Nat) (s : Int) (r : Nat → Int → Int) (i : Nat) : Int := r i (gsN A (tellF A s r) i)
/-- Told by what was left it is the same. -/
theorem tellF_rest {A : Nat} (hA : 1 ≤ A) (s : Int) (r : Nat → Int → Int) (i : Nat) : tellF A s (fun j _ => restF A s r j) i = tellF A s r i := by
  induction i using Nat.strongRecOn with
  | ind i ih =>
    rw [tellF_eq hA, tellF_eq hA, gsN_congr hA ih]
    rfl
/-- What is left where a picture is coded. -/
def byPix (s : Int) (f : Nat → Int) : Nat → Int → Int := fun i g => rnd (f i - g) s
theorem restF_in {A : Nat} (hA : 1 ≤ A) {s : Int} (hs : 1 ≤ s) {f : Nat → Int} {i : Nat} (hf : 0 ≤ f i ∧ f i ≤ 255) : -255 ≤ restF A s (byPix s f) i ∧ restF A s (byPix s f) i ≤ 255 := by
  have := gsN_in (A := A) (tellF_in hA s (byPix s f)) i
  exact rnd_range hs (by omega) (by omega)
theorem tellF_near {A : Nat} (hA : 1 ≤ A) {s : Int} (hs : 1 ≤ s) {f : Nat → Int} {i : Nat} (hf : 0 ≤ f i ∧ f i ≤ 255) : ((f i - tellF A s (byPix s f) i).natAbs : Int) ≤ s / 2 := by
  rw [tellF_eq hA]
  have h := rnd_near (n := f i - gsN A (tellF A s (byPix s f)) i) hs
  show ((f i - clamp (gsN A (tellF A s (byPix s f)) i + rnd (f i - gsN A (tellF A s (byPix s f)) i) s * s)).natAbs : Int) ≤ s / 2
  generalize gsN A (tellF A s (byPix s f)) i = g at *
  generalize rnd (f i - g) s * s = p at *
  unfold clamp
  omega
/-- What is flat and of the first guess has no rest. -/
theorem flat_tell {A : Nat} (hA : 1 ≤ A) {s : Int} (hs : 1 ≤ s) (i : Nat) : tellF A s (byPix s fun _ => 128) i = 128 ∧ gsN A (tellF A s (byPix s fun _ => 128)) i = 128 := by
  induction i using Nat.strongRecOn with
  | ind i ih =>
    have hg : gsN A (tellF A s (byPix s fun _ => 128)) i = 128 := by
      unfold gsN
      split
      · rfl
      · split
        · exact (ih _ (by omega)).1
        · exact (ih _ (by omega)).1
    refine ⟨?_, hg⟩
    rw [tellF_eq hA, hg]
    show clamp (128 + rnd (128 - 128) s * s) = 128
    rw [show (128 : Int) - 128 = 0 by omega, rnd_zero hs, Int.zero_mul]
    rfl
theorem flat_rest {A : Nat} (hA : 1 ≤ A) {s : Int} (hs : 1 ≤ s) (i : Nat) : restF A s (byPix s fun _ => 128) i = 0 := by
  show rnd (128 - gsN A (tellF A s (byPix s fun _ => 128)) i) s = 0
  rw [(flat_tell hA hs i).2, show (128 : Int) - 128 = 0 by omega, rnd_zero hs]
end Go.Proofs.YtcicoblejaippaaDoor

namespace Go.Proofs.YtcicoblejaippaaDoor
set_option linter.unusedVariables false
set_option maxRecDepth 100000

def stepOk (n : Int) : Bool := decide (1 ≤ n) && decide (n ≤ 64)
def restOk (n : Int) : Bool := decide (-255 ≤ n) && decide (n ≤ 255)
theorem stepOk_iff {n : Int} : stepOk n = true ↔ 1 ≤ n ∧ n ≤ 64 := by simp [stepOk]
theorem stepOk_not {n : Int} : stepOk n = false ↔ n < 1 ∨ 64 < n := by rw [← Bool.not_eq_true, stepOk_iff]; omega
theorem restOk_iff {n : Int} : restOk n = true ↔ -255 ≤ n ∧ n ≤ 255 := by simp [restOk]
theorem restOk_not {n : Int} : restOk n = false ↔ n < -255 ∨ 255 < n := by rw [← Bool.not_eq_true, restOk_iff]; omega

def restsOk (n : Nat) (f : Nat → Int) : Bool := (List.range n).all fun i => decide (-255 ≤ f i) && decide (f i ≤ 255)
theorem restsOk_iff {n : Nat} {f : Nat → Int} : restsOk n f = true ↔ ∀ i, i < n → -255 ≤ f i ∧ f i ≤ 255 := by
  simp [restsOk]
end Go.Proofs.YtcicoblejaippaaDoor
