/-
  Numbers of a wheel: who waits a round has all. Lemmas for the law above; no statement is proved here.
-/
import Derived.Test.YtkbnoebhckngaaaDoorWhWhN
import Derived.Test.YtkbnoebhckngaaaDoorSvRank
namespace Go.Proofs.YtkbnoebhckngaaaDoor
set_option linter.unusedVariables false
set_option maxRecDepth 100000

/-- In as many as a round has, from whatever time on, each of the first k comes. -/
theorem wh_all {k e t i : Nat} (h1 : 1 ≤ i) (h2 : i ≤ k) : ∃ j, j < k + e ∧ whAt k e (t + j) = i := by
  obtain ⟨q, p, hp, rfl⟩ := wh_parts (k := k) (e := e) t (by omega)
  by_cases h : p ≤ i - 1
  · refine ⟨i - 1 - p, by omega, ?_⟩
    have e1 : q * (k + e) + p + (i - 1 - p) = q * (k + e) + (i - 1) := by omega
    rw [e1, whAt_of (by omega), if_neg (by omega)]; omega
  · refine ⟨k + e - p + (i - 1), by omega, ?_⟩
    have e1 : q * (k + e) + p + (k + e - p + (i - 1)) = (q + 1) * (k + e) + (i - 1) := by rw [Nat.add_mul]; omega
    rw [e1, whAt_of (by omega), if_neg (by omega)]; omega
theorem units_full {L : List Nat} {k r : Nat} (h : ∀ p, p < k → 2 ^ p ∈ L) (hd : Dim (Sp XN L) r) : k ≤ r := by
  have hled : Led (fun _ => true) (fun b => 2 ^ b) k := fun b _ _ => ⟨by rw [Nat.testBit_two_pow]; simp, fun c hc _ => by rw [Nat.testBit_two_pow]; exact decide_eq_false (by omega)⟩
  have h9 := hd.least (piv_indep hled) (fun v hv => by
    obtain ⟨b, hb, _, rfl⟩ := mem_piv.1 hv
    exact Sp.mem (h b hb))
  rw [piv_len, cntB_all.2 (fun _ _ => rfl)] at h9
  exact h9
theorem mask_one (p : Nat) : maskL [p] = 2 ^ p := by simp [maskL]
theorem wh_rank {k e t r : Nat} (hd : Dim (Sp XN (masksD k (fun i => whAt k e (t + i)) (k + e))) r) : k ≤ r := by
  refine units_full (fun p hp => ?_) hd
  obtain ⟨j, hj, hx⟩ := wh_all (k := k) (e := e) (t := t) (i := p + 1) (by omega) (by omega)
  refine List.mem_map.2 ⟨j, List.mem_range.2 hj, ?_⟩
  show maskL (setL k (whAt k e (t + j))) = 2 ^ p
  rw [hx, setL_one (by omega), Nat.add_sub_cancel, mask_one]
/-- The first time of what comes at time T. -/
def whT (k e T : Nat) : Nat := if whAt k e T ≤ k then whAt k e T - 1 else T
theorem isWhen_at {k e T f t : Nat} (hk : 1 ≤ k) (hk2 : k ≤ 16) (hT : T ≤ 1000) (h : IsWhen k e (whAt k e T) f t) : f = 0 ∧ t = whT k e T := by
  unfold whT
  by_cases hs : whAt k e T ≤ k
  · rw [if_pos hs]
    exact h.det (isWhen_low whAt_pos hs hk2)
  · rw [if_neg hs]
    rcases h with ⟨h1, ht, hx, _⟩ | ⟨_, _, h1⟩
    · refine ⟨h1, ?_⟩
      rw [(whAt_only hk (by omega) hx).2]
      exact (whAt_only hk (by omega) rfl).2.symm
    · exact absurd rfl (h1 T hT)
theorem whT_le {k e T : Nat} (hk2 : k ≤ 16) (hT : T ≤ 1000) : whT k e T ≤ 1000 := by unfold whT; split <;> omega
end Go.Proofs.YtkbnoebhckngaaaDoor
