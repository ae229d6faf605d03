/-
  Numbers of a wheel: the first time of a seed. Lemmas for the laws above; no statement is proved here.
-/
import Derived.Test.YtkbnoebhckngaaaDoorWhN
namespace Go.Proofs.YtkbnoebhckngaaaDoor
set_option linter.unusedVariables false
set_option maxRecDepth 100000

/-- The fault f and the time t that stand for the first time of the seed s: f is 0 and t that time, or f is 5 (none) and t 0. -/
def IsWhen (k e s : Nat) (f t : Nat) : Prop :=
  (f = 0 ∧ t ≤ 1000 ∧ whAt k e t = s ∧ ∀ j, j < t → whAt k e j ≠ s) ∨ (f = 5 ∧ t = 0 ∧ ∀ j, j ≤ 1000 → whAt k e j ≠ s)
theorem IsWhen.det {k e s f t f2 t2 : Nat} (h : IsWhen k e s f t) (h2 : IsWhen k e s f2 t2) : f = f2 ∧ t = t2 := by
  rcases h with ⟨rfl, ht, hs, hj⟩ | ⟨rfl, rfl, hj⟩ <;> rcases h2 with ⟨rfl, ht2, hs2, hj2⟩ | ⟨rfl, rfl, hj2⟩
  · refine ⟨rfl, ?_⟩
    rcases Nat.lt_trichotomy t t2 with h | h | h
    · exact absurd hs (hj2 t h)
    · exact h
    · exact absurd hs2 (hj t2 h)
  · exact absurd hs (hj2 t ht)
  · exact absurd hs2 (hj t2 ht2)
  · exact ⟨rfl, rfl⟩
theorem whAt_first {k e t : Nat} (h : t < k) : whAt k e t = t + 1 := by
  have := whAt_of (k := k) (e := e) (q := 0) (p := t) (by omega)
  rw [Nat.zero_mul, Nat.zero_add, if_neg (by omega)] at this
  exact this
theorem isWhen_low {k e s : Nat} (h1 : 1 ≤ s) (h : s ≤ k) (hk : k ≤ 16) : IsWhen k e s 0 (s - 1) :=
  Or.inl ⟨rfl, by omega, by rw [whAt_first (by omega)]; omega, fun j hj => by rw [whAt_first (by omega)]; omega⟩
/-- Behind the first k: the seed, by the round and the place among what comes more. -/
theorem whAt_more {k e q d : Nat} (hd : d < e) : whAt k e (q * (k + e) + k + d) = k + 1 + (q * e + d) := by
  have := whAt_of (k := k) (e := e) (q := q) (p := k + d) (by omega)
  rw [if_pos (by omega)] at this
  rw [Nat.add_assoc, this]; omega
/-- A seed above k: just one time. -/
theorem whAt_only {k e s t : Nat} (hk : 1 ≤ k) (h : k < s) (ht : whAt k e t = s) : 0 < e ∧ t = (s - k - 1) / e * (k + e) + k + (s - k - 1) % e := by
  obtain ⟨q, p, hp, rfl⟩ := wh_parts (e := e) t hk
  rw [whAt_of hp] at ht
  by_cases hkp : k ≤ p
  · rw [if_pos hkp] at ht
    obtain ⟨d, rfl⟩ : ∃ d, p = k + d := ⟨p - k, by omega⟩
    have hde : d < e := by omega
    have e1 : s - k - 1 = e * q + d := by rw [Nat.mul_comm]; omega
    have e2 : (e * q + d) / e = q := by rw [Nat.mul_add_div (by omega), Nat.div_eq_of_lt hde]; omega
    have e3 : (e * q + d) % e = d := by rw [Nat.mul_add_mod, Nat.mod_eq_of_lt hde]
    rw [e1, e2, e3]
    exact ⟨by omega, by omega⟩
  · rw [if_neg hkp] at ht
    omega
theorem isWhen_none {k s : Nat} (hk : 1 ≤ k) (h : k < s) : IsWhen k 0 s 5 0 :=
  Or.inr ⟨rfl, rfl, fun j _ hj => absurd (whAt_only hk h hj).1 (by omega)⟩
theorem isWhen_more {k e s q d : Nat} (hk : 1 ≤ k) (h : k < s) (he : 0 < e) (hq : (s - k - 1) / e = q) (hd : (s - k - 1) % e = d) (ht : q * (k + e) + k + d ≤ 1000) : IsWhen k e s 0 (q * (k + e) + k + d) := by
  refine Or.inl ⟨rfl, ht, ?_, fun j hj hs => ?_⟩
  · have h1 := Nat.div_add_mod (s - k - 1) e
    rw [whAt_more (by rw [← hd]; exact Nat.mod_lt _ he)]
    rw [hq, hd, Nat.mul_comm] at h1
    omega
  · have := (whAt_only hk h hs).2
    rw [hq, hd] at this
    omega
theorem isWhen_late {k e s q d : Nat} (hk : 1 ≤ k) (h : k < s) (hq : (s - k - 1) / e = q) (hd : (s - k - 1) % e = d) (ht : 1000 < q * (k + e) + k + d) : IsWhen k e s 5 0 := by
  refine Or.inr ⟨rfl, rfl, fun j hj hs => ?_⟩
  have := (whAt_only hk h hs).2
  rw [hq, hd] at this
  omega
end Go.Proofs.YtkbnoebhckngaaaDoor
