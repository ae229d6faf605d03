/-
  Numbers of a wheel: the seed that comes at a time. Lemmas for the laws above; no statement is proved here.
-/
import Derived.Test.YtkbnoebhckngaaaDoorBase
namespace Go.Proofs.YtkbnoebhckngaaaDoor
set_option linter.unusedVariables false
set_option maxRecDepth 100000

/-- The seed at time t of a wheel of k blocks with e more a round. -/
def whAt (k e t : Nat) : Nat := if k ≤ t % (k + e) then t % (k + e) + 1 + t / (k + e) * e else t % (k + e) + 1
/-- A wheel that may be. -/
def WhOk (k e : Int) : Prop := 1 ≤ k ∧ k ≤ 16 ∧ 0 ≤ e ∧ e ≤ 16
instance (k e : Int) : Decidable (WhOk k e) := by unfold WhOk; exact inferInstance

theorem whAt_le {k e t : Nat} : whAt k e t ≤ t + 1 := by
  have h := Nat.div_add_mod t (k + e)
  have h2 : (k + e) * (t / (k + e)) = t / (k + e) * k + t / (k + e) * e := by rw [Nat.mul_comm, Nat.mul_add]
  unfold whAt
  split <;> omega
theorem whAt_pos {k e t : Nat} : 1 ≤ whAt k e t := by
  unfold whAt
  split <;> omega
/-- The seed at a time, by the time's round and its place in it. -/
theorem whAt_of {k e q p : Nat} (hp : p < k + e) : whAt k e (q * (k + e) + p) = if k ≤ p then p + 1 + q * e else p + 1 := by
  have h0 : 0 < k + e := by omega
  have h1 : (q * (k + e) + p) % (k + e) = p := by rw [Nat.mul_comm, Nat.mul_add_mod, Nat.mod_eq_of_lt hp]
  have h2 : (q * (k + e) + p) / (k + e) = q := by rw [Nat.mul_comm, Nat.mul_add_div h0, Nat.div_eq_of_lt hp]; omega
  unfold whAt
  rw [h1, h2]
theorem wh_parts {k e : Nat} (t : Nat) (hk : 1 ≤ k) : ∃ q p, p < k + e ∧ t = q * (k + e) + p :=
  ⟨t / (k + e), t % (k + e), Nat.mod_lt _ (by omega), by rw [Nat.mul_comm]; exact (Nat.div_add_mod t (k + e)).symm⟩
/-- A round later. -/
theorem whAt_round {k e t : Nat} (hk : 1 ≤ k) : (whAt k e t ≤ k ∧ whAt k e (t + k + e) = whAt k e t) ∨ (k < whAt k e t ∧ whAt k e (t + k + e) = whAt k e t + e) := by
  obtain ⟨q, p, hp, rfl⟩ := wh_parts (e := e) t hk
  have h1 : q * (k + e) + p + k + e = (q + 1) * (k + e) + p := by rw [Nat.add_mul]; omega
  rw [h1, whAt_of hp, whAt_of hp]
  have h2 : (q + 1) * e = q * e + e := by rw [Nat.add_mul]; omega
  rw [h2]
  by_cases h : k ≤ p
  · rw [if_pos h, if_pos h]; omega
  · rw [if_neg h, if_neg h]; omega
end Go.Proofs.YtkbnoebhckngaaaDoor
