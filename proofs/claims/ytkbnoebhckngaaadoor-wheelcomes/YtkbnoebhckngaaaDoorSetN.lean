/-
  The set of a seed, as the document tells it: which rests the row has left when there are enough of them, rising. Lemmas for the laws above; no statement is proved here.
-/
import Derived.Test.YtkbnoebhckngaaaDoorFull
import Derived.Test.YtkbnoebhckngaaaDoorDegN
namespace Go.Proofs.YtkbnoebhckngaaaDoor
set_option linter.unusedVariables false
set_option maxRecDepth 100000

/-- Whether the first i numbers behind x leave the rest r. -/
def seen (k : Nat) (x : Int) : Nat → Nat → Bool
  | 0, _ => false
  | i + 1, r => seen k x i r || decide (rowV x (i + 1) % (k : Int) = (r : Int))
theorem seen_of {k : Nat} {x : Int} {m r : Nat} (h1 : 1 ≤ m) (hr : rowV x m % (k : Int) = (r : Int)) : ∀ i, m ≤ i → seen k x i r = true
  | 0, h => absurd h (by omega)
  | i + 1, h => by
    unfold seen
    by_cases c : m = i + 1
    · subst c; simp [hr]
    · rw [seen_of h1 hr i (by omega)]; rfl
/-- The rests that the first i numbers behind x leave, rising. -/
def setAt (k : Nat) (x : Int) (i : Nat) : List Nat := (List.range k).filter (seen k x i)
theorem setAt_zero (k : Nat) (x : Int) : setAt k x 0 = [] := List.filter_eq_nil_iff.2 fun _ _ => by simp [seen]
theorem mem_setAt {k : Nat} {x : Int} {i r : Nat} : r ∈ setAt k x i ↔ r < k ∧ seen k x i r = true := by simp [setAt]
theorem setAt_len (k : Nat) (x : Int) (i : Nat) : (setAt k x i).length ≤ k := Nat.le_trans (List.length_filter_le _ _) (by simp)
theorem filter_ins (p : Nat → Bool) (r : Nat) (hp : p r = false) : ∀ k, r < k → ∃ B, (List.range k).filter p = (List.range r).filter p ++ B ∧ (List.range k).filter (fun a => p a || decide (r = a)) = (List.range r).filter p ++ r :: B ∧ ∀ b ∈ B, r < b
  | 0, h => absurd h (Nat.not_lt_zero _)
  | k + 1, h => by
    by_cases c : r = k
    · subst c
      refine ⟨[], ?_, ?_, fun b hb => by cases hb⟩
      · rw [List.range_succ, List.filter_append]; simp [hp]
      · rw [List.range_succ, List.filter_append]
        have : (List.range r).filter (fun a => p a || decide (r = a)) = (List.range r).filter p := List.filter_congr fun a ha => by
          have : r ≠ a := by have := List.mem_range.1 ha; omega
          simp [this]
        rw [this]; simp
    · obtain ⟨B, h1, h2, h3⟩ := filter_ins p r hp k (by omega)
      refine ⟨B ++ [k].filter p, ?_, ?_, fun b hb => ?_⟩
      · rw [List.range_succ, List.filter_append, h1, List.append_assoc]
      · rw [List.range_succ, List.filter_append, h2, List.append_assoc]
        simp [List.filter_cons, c]
      · rcases List.mem_append.1 hb with hb | hb
        · exact h3 b hb
        · have := List.mem_singleton.1 (List.mem_filter.1 hb).1; omega
/-- The rest that the number i + 1 behind x leaves. -/
def draw (k : Nat) (x : Int) (i : Nat) : Nat := (rowV x (i + 1) % (k : Int)).toNat
theorem draw_cast {k : Nat} {x : Int} (hx : Num x) (hk : 1 ≤ k) (i : Nat) : rowV x (i + 1) % (k : Int) = (draw k x i : Int) := by
  have h := Int.emod_nonneg (rowV x (i + 1)) (show (k : Int) ≠ 0 by omega)
  unfold draw; omega
theorem draw_lt {k : Nat} {x : Int} (hk : 1 ≤ k) (i : Nat) : draw k x i < k := by
  have h := Int.emod_lt_of_pos (rowV x (i + 1)) (show 0 < (k : Int) by omega)
  have h2 := Int.emod_nonneg (rowV x (i + 1)) (show (k : Int) ≠ 0 by omega)
  unfold draw; omega
theorem seen_succ {k : Nat} {x : Int} (hx : Num x) (hk : 1 ≤ k) (i r : Nat) : seen k x (i + 1) r = (seen k x i r || decide (draw k x i = r)) := by
  show (seen k x i r || decide (rowV x (i + 1) % (k : Int) = (r : Int))) = _
  rw [draw_cast hx hk]
  congr 1
  exact decide_eq_decide.2 (by omega)
/-- A rest that was left before makes nothing new. -/
theorem setAt_old {k : Nat} {x : Int} (hx : Num x) (hk : 1 ≤ k) {i : Nat} (h : draw k x i ∈ setAt k x i) : setAt k x (i + 1) = setAt k x i := by
  have hs := (mem_setAt.1 h).2
  refine List.filter_congr fun a _ => ?_
  rw [seen_succ hx hk]
  by_cases c : draw k x i = a
  · subst c; simp [hs]
  · simp [c]
/-- A rest that was not left before is put in its place. -/
theorem setAt_new {k : Nat} {x : Int} (hx : Num x) (hk : 1 ≤ k) {i : Nat} (h : draw k x i ∉ setAt k x i) :
    ∃ A B, setAt k x i = A ++ B ∧ setAt k x (i + 1) = A ++ draw k x i :: B ∧ (∀ a ∈ A, a < draw k x i) ∧ ∀ b ∈ B, draw k x i < b := by
  have hd := draw_lt (x := x) hk i
  have hs : seen k x i (draw k x i) = false := by
    cases e : seen k x i (draw k x i) with
    | false => rfl
    | true => exact absurd (mem_setAt.2 ⟨hd, e⟩) h
  obtain ⟨B, h1, h2, h3⟩ := filter_ins (seen k x i) (draw k x i) hs k hd
  refine ⟨(List.range (draw k x i)).filter (seen k x i), B, h1, ?_, fun a ha => List.mem_range.1 (List.mem_filter.1 ha).1, h3⟩
  rw [← h2]
  exact List.filter_congr fun a _ => seen_succ hx hk i a
theorem setAt_grows {k : Nat} {x : Int} (hx : Num x) (hk : 1 ≤ k) (i : Nat) : (setAt k x (i + 1)).length ≤ (setAt k x i).length + 1 ∧ (setAt k x i).length ≤ (setAt k x (i + 1)).length := by
  by_cases h : draw k x i ∈ setAt k x i
  · rw [setAt_old hx hk h]; omega
  · obtain ⟨A, B, h1, h2, _⟩ := setAt_new hx hk h
    rw [h1, h2]; simp; omega
/-- All rests are there soon enough. -/
theorem setAt_all {k : Nat} {x : Int} (hx : Num x) (hk : 1 ≤ k) (hk2 : k ≤ 1000) : ∃ T, ∀ i, T ≤ i → (setAt k x i).length = k := by
  obtain ⟨T, hT⟩ := rest_all hx hk hk2 k (Nat.le_refl _)
  refine ⟨T, fun i hi => ?_⟩
  have : setAt k x i = List.range k := List.filter_eq_self.2 fun r hr => by
    obtain ⟨m, h1, h2, h3⟩ := hT r (List.mem_range.1 hr)
    exact seen_of h1 h3 i (by omega)
  rw [this, List.length_range]
/-- There are enough, and there were not before. -/
def Stop (k : Nat) (x : Int) (d i : Nat) : Prop := (setAt k x i).length = d ∧ ∀ j, j < i → (setAt k x j).length < d
theorem Stop.same {k : Nat} {x : Int} {d i j : Nat} (h1 : Stop k x d i) (h2 : Stop k x d j) : i = j := by
  rcases Nat.lt_trichotomy i j with c | c | c
  · have := h2.2 i c; have := h1.1; omega
  · exact c
  · have := h1.2 j c; have := h2.1; omega
theorem stop_some {k : Nat} {x : Int} (hx : Num x) (hk : 1 ≤ k) (hk2 : k ≤ 1000) {d : Nat} (hd : d ≤ k) : ∃ i, Stop k x d i := by
  obtain ⟨T, hT⟩ := setAt_all hx hk hk2
  have h0 : (setAt k x 0).length = 0 := by rw [setAt_zero]; rfl
  have hTk := hT T (Nat.le_refl _)
  rcases Nat.eq_zero_or_pos d with rfl | hd0
  · exact ⟨0, h0, fun j h => absurd h (Nat.not_lt_zero _)⟩
  · have key : ∀ n, n ≤ T → (∀ j, j < n → (setAt k x j).length < d) ∨ ∃ i, Stop k x d i := fun n => by
      induction n with
      | zero => exact fun _ => Or.inl fun j h => absurd h (Nat.not_lt_zero _)
      | succ n ih =>
        intro hn
        rcases ih (by omega) with h | h
        · by_cases c : (setAt k x n).length < d
          · exact Or.inl fun j hj => by
              by_cases e : j = n
              · subst e; exact c
              · exact h j (by omega)
          · refine Or.inr ⟨n, ?_, h⟩
            rcases Nat.eq_zero_or_pos n with rfl | hn0
            · omega
            · obtain ⟨m, rfl⟩ : ∃ m, n = m + 1 := ⟨n - 1, by omega⟩
              have := h m (by omega)
              have := (setAt_grows hx hk m).1
              omega
        · exact Or.inr h
    rcases key T (Nat.le_refl _) with h | h
    · by_cases c : (setAt k x T).length < d
      · omega
      · refine ⟨T, ?_, h⟩
        rcases Nat.eq_zero_or_pos T with e | hn0
        · rw [e] at hTk; omega
        · obtain ⟨m, hm⟩ : ∃ m, T = m + 1 := ⟨T - 1, by omega⟩
          have h5 := h m (by omega)
          have h6 := (setAt_grows hx hk m).1
          rw [hm] at c ⊢
          omega
    · exact h

/-- Of how many a drop of the seed is. -/
def setD (k seed : Nat) : Nat := deg k (nxt seed % 1000).toNat
open Classical in
/-- The set of a seed. -/
noncomputable def setL (k seed : Nat) : List Nat := if seed ≤ k then [seed - 1] else setAt k (nxt seed) (epsilon (Stop k (nxt seed) (setD k seed)))
theorem setL_one {k seed : Nat} (h : seed ≤ k) : setL k seed = [seed - 1] := if_pos h
theorem setL_stop {k seed i : Nat} (h : ¬ seed ≤ k) (hs : Stop k (nxt seed) (setD k seed) i) : setL k seed = setAt k (nxt seed) i := by
  unfold setL
  rw [if_neg h, (Classical.epsilon_spec ⟨i, hs⟩ : Stop k (nxt seed) (setD k seed) _).same hs]
theorem setL_len {k seed : Nat} (hk : 1 ≤ k) (hk2 : k ≤ 16) (h1 : 1 ≤ seed) (h2 : seed ≤ 10000) : 1 ≤ (setL k seed).length ∧ (setL k seed).length ≤ k := by
  by_cases h : seed ≤ k
  · rw [setL_one h]; simp; omega
  · obtain ⟨i, hs⟩ := stop_some (x := nxt seed) (Num.nxt ⟨by omega, by omega⟩) hk (by omega) (deg_le k (nxt seed % 1000).toNat hk)
    rw [setL_stop h hs, hs.1]
    exact ⟨deg_ge _ _, deg_le _ _ hk⟩
theorem setL_lt {k seed : Nat} (hk : 1 ≤ k) (h1 : 1 ≤ seed) {r : Nat} (hr : r ∈ setL k seed) : r < k := by
  by_cases h : seed ≤ k
  · rw [setL_one h] at hr; have := List.mem_singleton.1 hr; omega
  · unfold setL at hr
    rw [if_neg h] at hr
    exact (mem_setAt.1 hr).1
theorem setL_rise (k seed : Nat) : (setL k seed).Pairwise (· < ·) := by
  by_cases h : seed ≤ k
  · rw [setL_one h]; simp
  · unfold setL
    rw [if_neg h]
    exact List.Pairwise.filter _ List.pairwise_lt_range
end Go.Proofs.YtkbnoebhckngaaaDoor
