/-
  Lemmas for the law above, joined into one text (Base, IntsD, PicA, PicN, AlN, AlO, AlF). No statement is proved here.
-/
import Derived.Test.YtjhflcgphejddaaGreatDoorRows
import Derived.WalkKit
import Derived.WalkSpells
import Derived.WalkLawsBesides
import Derived.ProofKit
import Derived.OpenShut
import Derived.ChangeSlices
import Derived.Lib.SmallJoins
namespace Go.Proofs.YtjhflcgphejddaaGreatDoor
open Go.RowKit
set_option linter.unusedVariables false
set_option maxRecDepth 100000

theorem hide {p : Prop} (h : p) : Hid p := h
theorem ret_int {k : IntKind} {a b : Int} (h : a = b) : Ending.returned (.int k a) = .returned (.int k b) := by rw [h]
theorem ret_bool {a b : Bool} (h : a = b) : Ending.returned (.bool a) = .returned (.bool b) := by rw [h]
theorem ret_two {a a' b b' : Value} (h : a = a') (h' : b = b') : Ending.returned (.tuple #[a, b]) = .returned (.tuple #[a', b']) := by rw [h, h']
theorem cell_lt {w : World} {a : Addr} {v : Value} (h : w.cell? a = some v) : a.block < w.heap.size := by
  rcases Nat.lt_or_ge a.block w.heap.size with h' | h'
  · exact h'
  · simp [World.cell?, Array.getElem?_eq_none h'] at h
theorem cell_below {w w1 : World} {a : Addr} {v : Value} (hb : Below w.heap.size w w1) (h : w.cell? a = some v) : w1.cell? a = some v :=
  (hb.cell (p := a) (cell_lt h)).trans h
/-- Two calls, one behind the other. -/
theorem below_two {w w1 w2 : World} (h : Below w.heap.size w w1) (k : Below w1.heap.size w1 w2) : Below w.heap.size w w2 := h.trans (k.mono h.size)
theorem below_drewN {B : Nat} {a w : World} (h : Below B a w) (n : Nat) : Below B a (w.drewN n) := h.trans ⟨rfl, rfl, rfl, Nat.le_refl _, fun _ _ => rfl⟩
theorem Tryz.infoStr : (Tryz.prog.info? 9).map (fun i => (i.zero, i.size, i.bytes)) = some (some (.string ⟨#[]⟩), 1, 16) := by kernel_rfl
end Go.Proofs.YtjhflcgphejddaaGreatDoor

namespace Go.Proofs.YtjhflcgphejddaaGreatDoor
open Go.RowKit
set_option linter.unusedVariables false
set_option maxRecDepth 100000

/-- A slice that holds the numbers f 0, .., f (n-1). -/
def IntsIn (w : World) (v : Value) (n : Nat) (f : Nat → Int) : Prop :=
  (n = 0 ∧ ∃ a cap, v = .slice a 0 cap) ∨ (0 < n ∧ ∃ b o cap, v = .slice (some ⟨b, o, none⟩) n cap ∧ ∀ i, i < n → w.cell? ⟨b, o + i, none⟩ = some (.int .i64 (f i)))
theorem IntsIn.below {w w' : World} {v : Value} {n : Nat} {f : Nat → Int} (h : IntsIn w v n f) (hb : Below w.heap.size w w') : IntsIn w' v n f := by
  rcases h with h | ⟨h0, b, o, cap, rfl, hc⟩
  · exact Or.inl h
  · exact Or.inr ⟨h0, b, o, cap, rfl, fun i hi => cell_below hb (hc i hi)⟩
theorem IntsIn.congr {w : World} {v : Value} {n : Nat} {f g : Nat → Int} (h : IntsIn w v n f) (e : ∀ i, i < n → f i = g i) : IntsIn w v n g := by
  rcases h with h | ⟨h0, b, o, cap, rfl, hc⟩
  · exact Or.inl h
  · exact Or.inr ⟨h0, b, o, cap, rfl, fun i hi => by rw [← e i hi]; exact hc i hi⟩
end Go.Proofs.YtjhflcgphejddaaGreatDoor

namespace Go.Proofs.YtjhflcgphejddaaGreatDoor
open Go.ChangeShapes Go.WideShapes Go.ChangeAt Go.RowKit Go.Joins
set_option linter.unusedVariables false
set_option maxRecDepth 100000

theorem cellsInt' : Tryz.prog.cellsOf 3 = 1 := by kernel_rfl

/-- A slice of ints by its own cells. -/
theorem open_intsIn {H : Type} {enc : TypeId × Value → H} {W : World} {v : Value} {fuel : Nat} {x : DataW H × List MemPlace}
    (hf : DataW.trod enc Tryz.prog W 0 (fun _ => true) true fuel 23 [v] = some x) : ∃ n f, IntsIn W v n f := by
  rcases open_ints Tryz.underlying23 Tryz.underlying3 cellsInt' hf with ⟨hcs, hx⟩ | ⟨a, len', cap', ss, hcs, _, hl, hm, hz, hx, hcell, hws⟩
  · simp at hcs
    subst hcs
    exact ⟨0, fun _ => 0, Or.inl ⟨rfl, none, 0, rfl⟩⟩
  · simp at hcs
    subst hcs
    simp only [if_true] at hz
    by_cases h0 : len' = 0
    · subst h0
      exact ⟨0, fun _ => 0, Or.inl ⟨rfl, some a, cap', rfl⟩⟩
    · obtain ⟨b, off, spot⟩ := a
      have hspot : spot = none := by simpa [Addr.add] using World.cell?_spot (hcell 0 (by omega))
      subst hspot
      refine ⟨len', fun i => ss.getD i 0, Or.inr ⟨by omega, b, off, cap', rfl, fun i hi => ?_⟩⟩
      rw [← add_plain]; exact hcell i (by omega)

theorem open_picAt {H : Type} {enc : TypeId × Value → H} {W : World} {base : Nat} {v : Value} {d : DataW H} {p : List MemPlace}
    (hv : Value.okWide Tryz.prog W .any base 33 v) (h : DataW.Trod enc Tryz.prog W 0 (fun _ => true) true 33 v d p) : ∃ a b s n f, v = .agg #[.int .i64 a, .int .i64 b, s] ∧ IntsIn W s n f := by
  obtain ⟨v0, v1, v2, y0, y1, y2, m, rfl, rfl, rfl, h0, h1, h2⟩ := open_agg3 Tryz.underlying33 (by kernel_rfl) (show Tryz.prog.cellsOf 33 = 3 by kernel_rfl) hv h
  obtain ⟨a, e0, _, _⟩ := DataW.trod_int Tryz.underlying3 h0
  obtain ⟨b, e1, _, _⟩ := DataW.trod_int Tryz.underlying3 h1
  obtain ⟨n, f, hi⟩ := open_intsIn h2
  simp at e0 e1
  subst e0 e1
  exact ⟨a, b, v2, n, f, rfl, hi⟩

end Go.Proofs.YtjhflcgphejddaaGreatDoor

namespace Go.Proofs.YtjhflcgphejddaaGreatDoor
set_option linter.unusedVariables false
set_option maxRecDepth 100000

def sidesOk (a b : Int) : Bool := decide (1 ≤ a) && (decide (a ≤ 6) && (decide (1 ≤ b) && decide (b ≤ 6)))
def pixOk (n : Nat) (f : Nat → Int) : Bool := (List.range n).all fun i => decide (0 ≤ f i) && decide (f i ≤ 255)
/-- What is wrong with a picture. -/
def picF (a b : Int) (n : Nat) (f : Nat → Int) : Nat := if sidesOk a b = false then 1 else if (n : Int) ≠ a * b then 3 else if pixOk n f = false then 1 else 0
/-- What is wrong with two. -/
def twoF (a b : Int) (n : Nat) (f : Nat → Int) (a' b' : Int) (n' : Nat) (f' : Nat → Int) : Nat :=
  if picF a b n f ≠ 0 then picF a b n f else if picF a' b' n' f' ≠ 0 then picF a' b' n' f' else if a = a' ∧ b = b' then 0 else 3

theorem sidesOk_iff {a b : Int} : sidesOk a b = true ↔ 1 ≤ a ∧ a ≤ 6 ∧ 1 ≤ b ∧ b ≤ 6 := by
  simp [sidesOk]
theorem sidesOk_not {a b : Int} : sidesOk a b = false ↔ a < 1 ∨ 6 < a ∨ b < 1 ∨ 6 < b := by
  rw [← Bool.not_eq_true, sidesOk_iff]; omega
theorem pixOk_iff {n : Nat} {f : Nat → Int} : pixOk n f = true ↔ ∀ i, i < n → 0 ≤ f i ∧ f i ≤ 255 := by
  simp [pixOk]
theorem pixOk_not {n : Nat} {f : Nat → Int} (h : pixOk n f = false) : ∃ i, i < n ∧ (f i < 0 ∨ 255 < f i) ∧ ∀ j, j < i → 0 ≤ f j ∧ f j ≤ 255 := by
  induction n with
  | zero => simp [pixOk] at h
  | succ n ih =>
    by_cases c : pixOk n f = false
    · obtain ⟨i, hi, h1, h2⟩ := ih c
      exact ⟨i, by omega, h1, h2⟩
    · rw [Bool.not_eq_false] at c
      rw [pixOk_iff] at c
      refine ⟨n, by omega, ?_, c⟩
      rcases Int.lt_or_le (f n) 0 with h1 | h1
      · exact Or.inl h1
      · rcases Int.lt_or_le 255 (f n) with h2 | h2
        · exact Or.inr h2
        · have : pixOk (n + 1) f = true := pixOk_iff.2 fun i hi => by
            by_cases e : i = n
            · subst e; exact ⟨h1, h2⟩
            · exact c i (by omega)
          rw [this] at h; cases h

/-- A picture that is right. -/
structure PicOk (a b : Int) (n : Nat) (f : Nat → Int) (A B : Nat) : Prop where
  wide : a = A
  high : b = B
  w1 : 1 ≤ A
  w6 : A ≤ 6
  h1 : 1 ≤ B
  h6 : B ≤ 6
  many : n = A * B
  pix : ∀ i, i < n → 0 ≤ f i ∧ f i ≤ 255
theorem PicOk.le {a b : Int} {n : Nat} {f : Nat → Int} {A B : Nat} (h : PicOk a b n f A B) : n ≤ 36 := by
  have := Nat.mul_le_mul h.w6 h.h6
  rw [h.many]; omega
theorem PicOk.pos {a b : Int} {n : Nat} {f : Nat → Int} {A B : Nat} (h : PicOk a b n f A B) : 0 < n := by
  have := Nat.mul_le_mul h.w1 h.h1
  rw [h.many]; omega
theorem picF_zero {a b : Int} {n : Nat} {f : Nat → Int} : picF a b n f = 0 ↔ ∃ A B, PicOk a b n f A B := by
  unfold picF
  constructor
  · intro h
    split at h
    · cases h
    · rename_i h1
      rw [Bool.not_eq_false, sidesOk_iff] at h1
      split at h
      · cases h
      · rename_i h2
        split at h
        · cases h
        · rename_i h3
          rw [Bool.not_eq_false, pixOk_iff] at h3
          obtain ⟨A, rfl⟩ := Int.eq_ofNat_of_zero_le (show 0 ≤ a by omega)
          obtain ⟨B, rfl⟩ := Int.eq_ofNat_of_zero_le (show 0 ≤ b by omega)
          refine ⟨A, B, rfl, rfl, by omega, by omega, by omega, by omega, ?_, h3⟩
          have : (n : Int) = (A : Int) * B := by omega
          rw [← Int.natCast_mul] at this
          exact Int.ofNat.inj this
  · rintro ⟨A, B, h⟩
    have h1 : sidesOk a b = true := sidesOk_iff.2 (by have := h.wide; have := h.high; have := h.w1; have := h.w6; have := h.h1; have := h.h6; omega)
    have h2 : (n : Int) = a * b := by rw [h.wide, h.high, h.many, Int.natCast_mul]
    have h3 : pixOk n f = true := pixOk_iff.2 h.pix
    rw [h1, h3, if_neg (by simp), if_neg (by simp [h2]), if_neg (by simp)]
theorem picF_cases (a b : Int) (n : Nat) (f : Nat → Int) : picF a b n f = 0 ∨ picF a b n f = 1 ∨ picF a b n f = 3 := by
  unfold picF
  split
  · exact Or.inr (Or.inl rfl)
  · split
    · exact Or.inr (Or.inr rfl)
    · split
      · exact Or.inr (Or.inl rfl)
      · exact Or.inl rfl
theorem twoF_zero {a b a' b' : Int} {n n' : Nat} {f f' : Nat → Int} : twoF a b n f a' b' n' f' = 0 ↔ picF a b n f = 0 ∧ picF a' b' n' f' = 0 ∧ a = a' ∧ b = b' := by
  unfold twoF
  constructor
  · intro h
    split at h
    · rename_i c; exact absurd h c
    · rename_i c
      split at h
      · rename_i c'; exact absurd h c'
      · rename_i c'
        split at h
        · rename_i c2
          exact ⟨by omega, by omega, c2⟩
        · cases h
  · rintro ⟨h1, h2, h3⟩
    rw [if_neg (by omega), if_neg (by omega), if_pos h3]

/-- How far two rows of numbers are apart, at most. -/
def mostN (f g : Nat → Int) : Nat → Nat
  | 0 => 0
  | i + 1 => max (mostN f g i) (f i - g i).natAbs
theorem mostN_comm (f g : Nat → Int) : ∀ n, mostN f g n = mostN g f n
  | 0 => rfl
  | n + 1 => by
    show max _ _ = max _ _
    rw [mostN_comm f g n]
    congr 1
    omega
theorem mostN_ge {f g : Nat → Int} : ∀ {n i}, i < n → (f i - g i).natAbs ≤ mostN f g n
  | n + 1, i, h => by
    show _ ≤ max _ _
    by_cases e : i = n
    · subst e; omega
    · have := mostN_ge (f := f) (g := g) (show i < n by omega); omega
theorem mostN_le {f g : Nat → Int} {k : Nat} : ∀ {n}, (∀ i, i < n → (f i - g i).natAbs ≤ k) → mostN f g n ≤ k
  | 0, _ => Nat.zero_le _
  | n + 1, h => by
    show max _ _ ≤ _
    have h1 := mostN_le (n := n) (fun i hi => h i (by omega))
    have h2 := h n (by omega)
    omega
theorem mostN_zero {f g : Nat → Int} {n : Nat} : mostN f g n = 0 ↔ ∀ i, i < n → f i = g i := by
  constructor
  · intro h i hi
    have := mostN_ge (f := f) (g := g) hi
    omega
  · intro h
    have := mostN_le (f := f) (g := g) (k := 0) (n := n) (fun i hi => by rw [h i hi]; omega)
    omega
theorem mostN_way {f g o : Nat → Int} {n : Nat} : mostN f g n ≤ mostN f o n + mostN o g n :=
  mostN_le fun i hi => by
    have h1 := mostN_ge (f := f) (g := o) hi
    have h2 := mostN_ge (f := o) (g := g) hi
    omega
theorem mostN_255 {f g : Nat → Int} {n : Nat} (hf : ∀ i, i < n → 0 ≤ f i ∧ f i ≤ 255) (hg : ∀ i, i < n → 0 ≤ g i ∧ g i ≤ 255) : mostN f g n ≤ 255 :=
  mostN_le fun i hi => by have := hf i hi; have := hg i hi; omega

/-- The nearest of 0 to m - 1. -/
def near (k : Int) (m : Nat) : Nat := (min (max k 0) ((m : Int) - 1)).toNat
theorem near_lt (k : Int) {m : Nat} (h : 1 ≤ m) : near k m < m := by unfold near; omega
theorem near_int (k : Int) {m : Nat} (h : 1 ≤ m) : ((near k m : Nat) : Int) = min (max k 0) ((m : Int) - 1) := by unfold near; omega
theorem near_self {k m : Nat} (h : k < m) : near (k : Int) m = k := by unfold near; omega
/-- Where the pixel at a place comes from. -/
def fromAt (A B : Nat) (x y : Int) (i : Nat) : Nat := near ((i / A : Nat) - y) B * A + near ((i % A : Nat) - x) A
theorem fromAt_lt {A B : Nat} (hA : 1 ≤ A) (hB : 1 ≤ B) (x y : Int) (i : Nat) : fromAt A B x y i < A * B := by
  unfold fromAt
  have h1 := near_lt ((i % A : Nat) - x) hA
  have h2 := near_lt ((i / A : Nat) - y) hB
  have h3 : (near ((i / A : Nat) - y) B + 1) * A ≤ B * A := Nat.mul_le_mul_right _ (by omega)
  rw [Nat.add_mul, Nat.one_mul] at h3
  rw [Nat.mul_comm A B]
  omega
theorem fromAt_zero {A B : Nat} (hA : 1 ≤ A) {i : Nat} (hi : i < A * B) : fromAt A B 0 0 i = i := by
  unfold fromAt
  have h1 : i % A < A := Nat.mod_lt _ (by omega)
  have h2 : i / A < B := Nat.div_lt_of_lt_mul hi
  rw [Int.sub_zero, Int.sub_zero, near_self h1, near_self h2, Nat.mul_comm]
  exact Nat.div_add_mod i A
def shiftN (A B : Nat) (x y : Int) (f : Nat → Int) (i : Nat) : Int := f (fromAt A B x y i)
theorem fromAt_row {A B : Nat} (x y : Int) {r c : Nat} (hc : c < A) : fromAt A B x y (r * A + c) = near ((r : Nat) - y) B * A + near ((c : Nat) - x) A := by
  unfold fromAt
  have h1 : (r * A + c) / A = r := by
    rw [Nat.mul_comm, Nat.mul_add_div (by omega), Nat.div_eq_of_lt hc]; rfl
  have h2 : (r * A + c) % A = c := by
    rw [Nat.mul_comm, Nat.mul_add_mod, Nat.mod_eq_of_lt hc]
  rw [h1, h2]
theorem PicOk.shift {a b : Int} {n : Nat} {f : Nat → Int} {A B : Nat} (h : PicOk a b n f A B) (x y : Int) : PicOk a b n (shiftN A B x y f) A B :=
  ⟨h.wide, h.high, h.w1, h.w6, h.h1, h.h6, h.many, fun i _ => h.pix _ (by rw [h.many]; exact fromAt_lt h.w1 h.h1 x y i)⟩
theorem mostN_shift {A B : Nat} (hA : 1 ≤ A) (hB : 1 ≤ B) (x y : Int) (f g : Nat → Int) : mostN (shiftN A B x y f) (shiftN A B x y g) (A * B) ≤ mostN f g (A * B) :=
  mostN_le fun i _ => mostN_ge (fromAt_lt hA hB x y i)
/-- A number is none of a move. -/
def farF (x y : Int) : Nat := if x < -6 ∨ 6 < x ∨ y < -6 ∨ 6 < y then 1 else 0
theorem farF_zero {x y : Int} : farF x y = 0 ↔ -6 ≤ x ∧ x ≤ 6 ∧ -6 ≤ y ∧ y ≤ 6 := by
  unfold farF
  split
  · exact ⟨fun h => absurd h (by decide), fun h => by omega⟩
  · exact ⟨fun h => by omega, fun h => rfl⟩
/-- What is wrong with a picture and a move. -/
def shiftF (a b : Int) (n : Nat) (f : Nat → Int) (x y : Int) : Nat := if picF a b n f ≠ 0 then picF a b n f else farF x y
theorem shiftF_zero {a b : Int} {n : Nat} {f : Nat → Int} {x y : Int} : shiftF a b n f x y = 0 ↔ picF a b n f = 0 ∧ farF x y = 0 := by
  unfold shiftF
  split
  · exact ⟨fun h => by omega, fun h => by omega⟩
  · exact ⟨fun h => ⟨by omega, h⟩, fun h => h.2⟩
/-- What is wrong with a flat one. -/
def flatF (a b k : Int) : Nat := if sidesOk a b = true ∧ 0 ≤ k ∧ k ≤ 255 then 0 else 1
end Go.Proofs.YtjhflcgphejddaaGreatDoor

namespace Go.Proofs.YtjhflcgphejddaaGreatDoor
set_option linter.unusedVariables false
set_option maxRecDepth 100000

/-- Which number of steps is nearest. -/
def rnd (n s : Int) : Int := if n < 0 then -((-n + s / 2) / s) else (n + s / 2) / s
theorem div_parts (m s : Int) (hs : 1 ≤ s) : ∃ r, 0 ≤ r ∧ r < s ∧ m = m / s * s + r :=
  ⟨m % s, Int.emod_nonneg _ (by omega), Int.emod_lt_of_pos _ (by omega), by
    have := Int.mul_ediv_add_emod m s
    rw [Int.mul_comm] at this
    omega⟩
theorem rnd_neg {n s : Int} (h : n < 0) : rnd n s = -rnd (-n) s := by
  unfold rnd
  rw [if_pos h, if_neg (by omega)]
theorem rnd_pos {n s : Int} (h : 0 ≤ n) : rnd n s = (n + s / 2) / s := by
  unfold rnd
  rw [if_neg (by omega)]
theorem rnd_zero {s : Int} (hs : 1 ≤ s) : rnd 0 s = 0 := by
  rw [rnd_pos (by omega)]
  exact Int.ediv_eq_zero_of_lt (by omega) (by omega)
theorem rnd_near {n s : Int} (hs : 1 ≤ s) : -(s / 2) ≤ n - rnd n s * s ∧ n - rnd n s * s ≤ s / 2 := by
  by_cases h : n < 0
  · rw [rnd_neg h, rnd_pos (by omega), Int.neg_mul]
    obtain ⟨r, r0, r1, e⟩ := div_parts (-n + s / 2) s hs
    generalize (-n + s / 2) / s * s = p at *
    omega
  · rw [rnd_pos (by omega)]
    obtain ⟨r, r0, r1, e⟩ := div_parts (n + s / 2) s hs
    generalize (n + s / 2) / s * s = p at *
    omega
theorem rnd_up {n s : Int} (hs : 1 ≤ s) (h0 : 0 ≤ n) : 0 ≤ rnd n s ∧ rnd n s ≤ n := by
  rw [rnd_pos h0]
  constructor
  · exact Int.ediv_nonneg (by omega) (by omega)
  · by_cases h : n = 0
    · subst h
      rw [Int.ediv_eq_zero_of_lt (by omega) (by omega)]
      omega
    · have h1 : n + s / 2 < (n + 1) * s := by
        have e1 : (n + 1) * s = n * s + s := by rw [Int.add_mul, Int.one_mul]
        have e2 : n * 1 ≤ n * s := Int.mul_le_mul_of_nonneg_left hs h0
        omega
      have := Int.ediv_lt_of_lt_mul (by omega) h1
      omega
theorem rnd_range {n s : Int} (hs : 1 ≤ s) (h0 : -255 ≤ n) (h1 : n ≤ 255) : -255 ≤ rnd n s ∧ rnd n s ≤ 255 := by
  by_cases h : n < 0
  · rw [rnd_neg h]
    have := rnd_up hs (show 0 ≤ -n by omega)
    omega
  · have := rnd_up hs (show 0 ≤ n by omega)
    omega

/-- A number as far as a pixel may be. -/
def clamp (x : Int) : Int := min (max x 0) 255
theorem clamp_in (x : Int) : 0 ≤ clamp x ∧ clamp x ≤ 255 := by unfold clamp; omega
theorem clamp_self {x : Int} (h : 0 ≤ x ∧ x ≤ 255) : clamp x = x := by unfold clamp; omega

/-- What the pixel at a place is guessed to be, by those told. -/
def gsN (A : Nat) (T : Nat → Int) (i : Nat) : Int := if i = 0 then 128 else if i % A = 0 then T (i - A) else T (i - 1)
theorem gsN_in {A : Nat} {T : Nat → Int} (h : ∀ i, 0 ≤ T i ∧ T i ≤ 255) (i : Nat) : 0 ≤ gsN A T i ∧ gsN A T i ≤ 255 := by
  unfold gsN
  split
  · omega
  · split
    · exact h _
    · exact h _
theorem gsN_congr {A : Nat} (hA : 1 ≤ A) {T T' : Nat → Int} {i : Nat} (h : ∀ j, j < i → T j = T' j) : gsN A T i = gsN A T' i := by
  unfold gsN
  split
  · rfl
  · split
    · exact h _ (by omega)
    · exact h _ (by omega)
/-- What is told, pixel by pixel, where r says what is left of each, by its place and what was guessed. -/
def tellF (A : Nat) (s : Int) (r : Nat → Int → Int) (i : Nat) : Int :=
  let g : Int := if h : i = 0 then 128 else if h2 : i % A = 0 ∧ 1 ≤ A then tellF A s r (i - A) else tellF A s r (i - 1)
  clamp (g + r i g * s)
  termination_by i
  decreasing_by
    · omega
    · omega
theorem tellF_eq {A : Nat} (hA : 1 ≤ A) (s : Int) (r : Nat → Int → Int) (i : Nat) : tellF A s r i = clamp (gsN A (tellF A s r) i + r i (gsN A (tellF A s r) i) * s) := by
  have e : (if h : i = 0 then (128 : Int) else if h2 : i % A = 0 ∧ 1 ≤ A then tellF A s r (i - A) else tellF A s r (i - 1)) = gsN A (tellF A s r) i := by
    unfold gsN
    by_cases h : i = 0
    · rw [dif_pos h, if_pos h]
    · rw [dif_neg h, if_neg h]
      by_cases h2 : i % A = 0
      · rw [dif_pos ⟨h2, hA⟩, if_pos h2]
      · rw [dif_neg (fun h => h2 h.1), if_neg h2]
  rw [tellF, e]
theorem tellF_in {A : Nat} (hA : 1 ≤ A) (s : Int) (r : Nat → Int → Int) (i : Nat) : 0 ≤ tellF A s r i ∧ tellF A s r i ≤ 255 := by
  rw [tellF_eq hA]; exact clamp_in _
/-- What is left of the pixel at a place. -/
def restF (A : Nat) (s : Int) (r : Nat → Int → Int) (i : Nat) : Int := r i (gsN A (tellF A s r) i)
/-- Told by what was left it is the same. -/
theorem tellF_rest {A : Nat} (hA : 1 ≤ A) (s : Int) (r : Nat → Int → Int) (i : Nat) : tellF A s (fun j _ => restF A s r j) i = tellF A s r i := by
  induction i using Nat.strongRecOn with
  | ind i ih =>
    rw [tellF_eq hA, tellF_eq hA, gsN_congr hA ih]
    rfl
/-- What is left where a picture is coded. -/
def byPix (s : Int) (f : Nat → Int) : Nat → Int → Int := fun i g => rnd (f i - g) s
theorem restF_in {A : Nat} (hA : 1 ≤ A) {s : Int} (hs : 1 ≤ s) {f : Nat → Int} {i : Nat} (hf : 0 ≤ f i ∧ f i ≤ 255) : -255 ≤ restF A s (byPix s f) i ∧ restF A s (byPix s f) i ≤ 255 := by
  have := gsN_in (A := A) (tellF_in hA s (byPix s f)) i
  exact rnd_range hs (by omega) (by omega)
theorem tellF_near {A : Nat} (hA : 1 ≤ A) {s : Int} (hs : 1 ≤ s) {f : Nat → Int} {i : Nat} (hf : 0 ≤ f i ∧ f i ≤ 255) : ((f i - tellF A s (byPix s f) i).natAbs : Int) ≤ s / 2 := by
  rw [tellF_eq hA]
  have h := rnd_near (n := f i - gsN A (tellF A s (byPix s f)) i) hs
  show ((f i - clamp (gsN A (tellF A s (byPix s f)) i + rnd (f i - gsN A (tellF A s (byPix s f)) i) s * s)).natAbs : Int) ≤ s / 2
  generalize gsN A (tellF A s (byPix s f)) i = g at *
  generalize rnd (f i - g) s * s = p at *
  unfold clamp
  omega
/-- What is flat and of the first guess has no rest. -/
theorem flat_tell {A : Nat} (hA : 1 ≤ A) {s : Int} (hs : 1 ≤ s) (i : Nat) : tellF A s (byPix s fun _ => 128) i = 128 ∧ gsN A (tellF A s (byPix s fun _ => 128)) i = 128 := by
  induction i using Nat.strongRecOn with
  | ind i ih =>
    have hg : gsN A (tellF A s (byPix s fun _ => 128)) i = 128 := by
      unfold gsN
      split
      · rfl
      · split
        · exact (ih _ (by omega)).1
        · exact (ih _ (by omega)).1
    refine ⟨?_, hg⟩
    rw [tellF_eq hA, hg]
    show clamp (128 + rnd (128 - 128) s * s) = 128
    rw [show (128 : Int) - 128 = 0 by omega, rnd_zero hs, Int.zero_mul]
    rfl
theorem flat_rest {A : Nat} (hA : 1 ≤ A) {s : Int} (hs : 1 ≤ s) (i : Nat) : restF A s (byPix s fun _ => 128) i = 0 := by
  show rnd (128 - gsN A (tellF A s (byPix s fun _ => 128)) i) s = 0
  rw [(flat_tell hA hs i).2, show (128 : Int) - 128 = 0 by omega, rnd_zero hs]
end Go.Proofs.YtjhflcgphejddaaGreatDoor

namespace Go.Proofs.YtjhflcgphejddaaGreatDoor
set_option linter.unusedVariables false
set_option maxRecDepth 100000

def stepOk (n : Int) : Bool := decide (1 ≤ n) && decide (n ≤ 64)
def restOk (n : Int) : Bool := decide (-255 ≤ n) && decide (n ≤ 255)
theorem stepOk_iff {n : Int} : stepOk n = true ↔ 1 ≤ n ∧ n ≤ 64 := by simp [stepOk]
theorem stepOk_not {n : Int} : stepOk n = false ↔ n < 1 ∨ 64 < n := by rw [← Bool.not_eq_true, stepOk_iff]; omega
theorem restOk_iff {n : Int} : restOk n = true ↔ -255 ≤ n ∧ n ≤ 255 := by simp [restOk]
theorem restOk_not {n : Int} : restOk n = false ↔ n < -255 ∨ 255 < n := by rw [← Bool.not_eq_true, restOk_iff]; omega

def restsOk (n : Nat) (f : Nat → Int) : Bool := (List.range n).all fun i => decide (-255 ≤ f i) && decide (f i ≤ 255)
theorem restsOk_iff {n : Nat} {f : Nat → Int} : restsOk n f = true ↔ ∀ i, i < n → -255 ≤ f i ∧ f i ≤ 255 := by
  simp [restsOk]
end Go.Proofs.YtjhflcgphejddaaGreatDoor

namespace Go.Proofs.YtjhflcgphejddaaGreatDoor
set_option linter.unusedVariables false
set_option maxRecDepth 100000

/-- What is wrong with a number, and a step. -/
def rndF (n s : Int) : Nat := if stepOk s = true ∧ restOk n = true then 0 else 1
theorem rndF_zero {n s : Int} : rndF n s = 0 ↔ (1 ≤ s ∧ s ≤ 64) ∧ -255 ≤ n ∧ n ≤ 255 := by
  unfold rndF
  split
  · rename_i h; exact ⟨fun _ => ⟨stepOk_iff.1 h.1, restOk_iff.1 h.2⟩, fun _ => rfl⟩
  · rename_i h; exact ⟨fun e => absurd e (by decide), fun e => absurd ⟨stepOk_iff.2 e.1, restOk_iff.2 e.2⟩ h⟩
/-- What is wrong with a picture, and a step. -/
def encF (a b : Int) (n : Nat) (f : Nat → Int) (s : Int) : Nat := if picF a b n f ≠ 0 then picF a b n f else if stepOk s = true then 0 else 1
theorem encF_zero {a b : Int} {n : Nat} {f : Nat → Int} {s : Int} : encF a b n f s = 0 ↔ (∃ A B, PicOk a b n f A B) ∧ 1 ≤ s ∧ s ≤ 64 := by
  unfold encF
  constructor
  · intro h
    split at h
    · rename_i c; exact absurd h c
    · rename_i c
      split at h
      · rename_i c2; exact ⟨picF_zero.1 (by omega), stepOk_iff.1 c2⟩
      · cases h
  · rintro ⟨h1, h2⟩
    rw [if_neg (by rw [picF_zero.2 h1]; decide), if_pos (stepOk_iff.2 h2)]
/-- What is wrong with rests. -/
def restsF (n : Nat) (f : Nat → Int) (m : Int) : Nat := if (n : Int) ≠ m then 3 else if restsOk n f = false then 1 else 0
/-- What is wrong with sides, a step, and rests. -/
def decF (a b s : Int) (n : Nat) (f : Nat → Int) : Nat := if (sidesOk a b && stepOk s) = false then 1 else restsF n f (a * b)
/-- Rests that tell a picture. -/
structure DecOk (a b s : Int) (n : Nat) (f : Nat → Int) (A B : Nat) : Prop where
  wide : a = A
  high : b = B
  w1 : 1 ≤ A
  w6 : A ≤ 6
  h1 : 1 ≤ B
  h6 : B ≤ 6
  s1 : 1 ≤ s
  s2 : s ≤ 64
  many : n = A * B
  rest : ∀ i, i < n → -255 ≤ f i ∧ f i ≤ 255
theorem DecOk.le {a b s : Int} {n : Nat} {f : Nat → Int} {A B : Nat} (h : DecOk a b s n f A B) : n ≤ 36 := by
  have := Nat.mul_le_mul h.w6 h.h6
  rw [h.many]; omega
theorem DecOk.pos {a b s : Int} {n : Nat} {f : Nat → Int} {A B : Nat} (h : DecOk a b s n f A B) : 0 < n := by
  have := Nat.mul_le_mul h.w1 h.h1
  rw [h.many]; omega
theorem decF_zero {a b s : Int} {n : Nat} {f : Nat → Int} : decF a b s n f = 0 ↔ ∃ A B, DecOk a b s n f A B := by
  unfold decF restsF
  constructor
  · intro h
    split at h
    · cases h
    · rename_i h1
      rw [Bool.not_eq_false, Bool.and_eq_true, sidesOk_iff, stepOk_iff] at h1
      split at h
      · cases h
      · rename_i h2
        split at h
        · cases h
        · rename_i h3
          rw [Bool.not_eq_false, restsOk_iff] at h3
          obtain ⟨A, rfl⟩ := Int.eq_ofNat_of_zero_le (show 0 ≤ a by omega)
          obtain ⟨B, rfl⟩ := Int.eq_ofNat_of_zero_le (show 0 ≤ b by omega)
          refine ⟨A, B, rfl, rfl, by omega, by omega, by omega, by omega, by omega, by omega, ?_, h3⟩
          have : (n : Int) = (A : Int) * B := by omega
          rw [← Int.natCast_mul] at this
          exact Int.ofNat.inj this
  · rintro ⟨A, B, h⟩
    have h1 : sidesOk a b = true := sidesOk_iff.2 (by have := h.wide; have := h.high; have := h.w1; have := h.w6; have := h.h1; have := h.h6; omega)
    have h0 : stepOk s = true := stepOk_iff.2 ⟨h.s1, h.s2⟩
    have h2 : (n : Int) = a * b := by rw [h.wide, h.high, h.many, Int.natCast_mul]
    have h3 : restsOk n f = true := restsOk_iff.2 h.rest
    rw [h1, h0, h3, if_neg (by simp), if_neg (by simp [h2]), if_neg (by simp)]
/-- What Encode makes of a picture that is right, Decode may be handed. -/
theorem enc_dec {a b s : Int} {n : Nat} {f : Nat → Int} {A B : Nat} (h : PicOk a b n f A B) (s1 : 1 ≤ s) (s2 : s ≤ 64) : DecOk a b s n (restF A s (byPix s f)) A B :=
  ⟨h.wide, h.high, h.w1, h.w6, h.h1, h.h6, s1, s2, h.many, fun i hi => restF_in h.w1 s1 (h.pix i hi)⟩
/-- What is told is a picture that is right. -/
theorem DecOk.told {a b s : Int} {n : Nat} {f : Nat → Int} {A B : Nat} (h : DecOk a b s n f A B) (r : Nat → Int → Int) : PicOk a b n (tellF A s r) A B :=
  ⟨h.wide, h.high, h.w1, h.w6, h.h1, h.h6, h.many, fun i _ => tellF_in h.w1 s r i⟩
end Go.Proofs.YtjhflcgphejddaaGreatDoor
