/-
  A slice of numbers that has room for what it says; the shift of what is read. Lemmas for the laws above; no function is walked, and no statement is proved here.
-/
import Derived.Test.YtjklpcabnppnaaaDoorRcV
namespace Go.Proofs.YtjklpcabnppnaaaDoor
open Go.RowKit
set_option linter.unusedVariables false
set_option maxRecDepth 100000

/-- A slice that holds the numbers f 0, .., f (n-1), and may be cut. -/
def SlI (w : World) (v : Value) (n : Nat) (f : Nat → Int) : Prop :=
  ∃ ad cap, v = .slice ad n cap ∧ n ≤ cap ∧ cap ≤ maxLen ∧ (0 < n → ∃ b o, ad = some ⟨b, o, none⟩ ∧ ∀ i, i < n → w.cell? ⟨b, o + i, none⟩ = some (.int .i64 (f i)))
theorem SlI.ints {w : World} {v : Value} {n : Nat} {f : Nat → Int} (h : SlI w v n f) : IntsIn w v n f := by
  obtain ⟨ad, cap, rfl, h1, h2, h3⟩ := h
  by_cases c : n = 0
  · subst c; exact Or.inl ⟨rfl, _, _, rfl⟩
  · obtain ⟨b, o, rfl, hc⟩ := h3 (by omega)
    exact Or.inr ⟨by omega, b, o, cap, rfl, hc⟩
theorem SlI.below {w w' : World} {v : Value} {n : Nat} {f : Nat → Int} (h : SlI w v n f) (hb : Below w.heap.size w w') : SlI w' v n f := by
  obtain ⟨ad, cap, rfl, h1, h2, h3⟩ := h
  refine ⟨ad, cap, rfl, h1, h2, fun h0 => ?_⟩
  obtain ⟨b, o, e, hc⟩ := h3 h0
  exact ⟨b, o, e, fun i hi => cell_below hb (hc i hi)⟩
theorem SlI.congr {w : World} {v : Value} {n : Nat} {f g : Nat → Int} (h : SlI w v n f) (e : ∀ i, i < n → f i = g i) : SlI w v n g := by
  obtain ⟨ad, cap, rfl, h1, h2, h3⟩ := h
  refine ⟨ad, cap, rfl, h1, h2, fun h0 => ?_⟩
  obtain ⟨b, o, e', hc⟩ := h3 h0
  exact ⟨b, o, e', fun i hi => by rw [← e i hi]; exact hc i hi⟩
theorem rowV_sl {w : World} {B n : Nat} {v : Value} {l : List Int} (h : w.ownsRow B 3 1 v n (encI l)) (hn : n = l.length) : SlI w v n (fun k => l.getD k 0) := by
  rw [encI_range] at h
  subst hn
  by_cases c : l.length = 0
  · rcases h.2 with ⟨hv, h0⟩ | ⟨g, cap, cur, hv, _, hg, h1, h2, _⟩
    · exact ⟨none, 0, by rw [h0]; exact hv, by omega, by unfold maxLen; omega, fun h => by omega⟩
    · exact ⟨_, cap, hv, h1, h2, fun h => by omega⟩
  · obtain ⟨g, cap, hv, h1, h2, h3⟩ := own_ints h (by omega)
    exact ⟨_, cap, hv, h1, h2, fun _ => ⟨g, 0, rfl, h3⟩⟩
theorem nil_sl (w : World) (f : Nat → Int) : SlI w (.slice none 0 0) 0 f := ⟨none, 0, rfl, Nat.le_refl _, by unfold maxLen; omega, fun h => by omega⟩

/-- Of a slice what is behind its first b. -/
def Cut (v sl : Value) (m b : Nat) : Prop := ∀ W F, SlI W v m F → SlI W sl (m - b) (fun i => F (b + i))
theorem cut_end {m E : Nat} {a : Option Addr} {v : Value} {c : Nat} (h : m ≤ E) (hc : c ≤ maxLen) : Cut v (.slice a (m - E) c) m E := fun W F _ => ⟨_, _, rfl, by omega, hc, fun h0 => absurd h0 (by omega)⟩
theorem cut_mid {m E b o cap : Nat} : Cut (.slice (some ⟨b, o, none⟩) m cap) (.slice (some ⟨b, o + E, none⟩) (m - E) (cap - E)) m E := fun W F h => by
  obtain ⟨ad, cap', e, h1, h2, h3⟩ := h
  cases e
  refine ⟨_, _, rfl, by omega, by omega, fun h0 => ?_⟩
  obtain ⟨b', o', e', hc⟩ := h3 (by omega)
  cases e'
  refine ⟨_, _, rfl, fun i hi => ?_⟩
  have := hc (E + i) (by omega)
  rwa [← Nat.add_assoc] at this

/-! What is read from here on, read from the start of what is left. -/
theorem ones_shift (g : Nat → Int) (a : Nat) : ∀ (k p : Nat), ones (fun i => g (a + i)) p k = ones g (a + p) k
  | 0, _ => rfl
  | k + 1, p => by
    simp only [ones]
    rw [ones_shift g a k (p + 1), show a + (p + 1) = a + p + 1 by omega]
theorem valN_shift (g : Nat → Int) (a p v : Nat) : ∀ k, valN (fun i => g (a + i)) p v k = valN g (a + p) v k
  | 0 => rfl
  | k + 1 => by rw [valN_succ, valN_succ, valN_shift g a p v k, show a + (p + k) = a + p + k by omega]
theorem fstN_shift {g : Nat → Int} {m low a : Nat} (ha : a ≤ m) : fstN g m low a = (fstN (fun i => g (a + i)) (m - a) low 0).map fun p => (p.1, a + p.2) := by
  unfold fstN
  rw [Nat.sub_zero, ones_shift, Nat.add_zero]
  generalize ones g a (m - a) = q
  rw [valN_shift]
  rw [show a + (0 + q + 1) = a + q + 1 by omega]
  by_cases c : a + q + 1 + low ≤ m
  · have c' : 0 + q + 1 + low ≤ m - a := by omega
    rw [if_pos c, if_pos c']
    by_cases c2 : valN g (a + q + 1) q low ≤ 510
    · rw [if_pos c2, if_pos c2]
      show _ = some (_, _)
      simp only [Option.some.injEq, Prod.mk.injEq, true_and]
      omega
    · rw [if_neg c2, if_neg c2]; rfl
  · have c' : ¬ 0 + q + 1 + low ≤ m - a := by omega
    rw [if_neg c, if_neg c']; rfl
end Go.Proofs.YtjklpcabnppnaaaDoor
