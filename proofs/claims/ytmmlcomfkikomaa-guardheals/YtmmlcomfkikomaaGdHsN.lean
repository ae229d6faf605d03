/-
  Of each group one lacks, whatever is in its place: the numbers of GuardHeals. Lemmas for the laws above; no function is walked, and no statement is proved here.
-/
import Derived.Test.YtmmlcomfkikomaaGdXor
namespace Go.Proofs.Ytmmlcomfkikomaa
open Go.RowKit
set_option linter.unusedVariables false
set_option maxRecDepth 100000

/-- Which place of group q lacks, by the number that is told of it. -/
def atQ (n each : Nat) (d : Int) (q : Nat) : Nat := if d = each ∨ n ≤ q * each + d.toNat then n + q else q * each + d.toNat
/-- Whether one lacks. -/
def lacksQ (len each : Nat) (f : Nat → Int) (q : Nat) : Prop := q < len ∧ 0 ≤ f q ∧ f q ≤ each
instance (len each : Nat) (f : Nat → Int) (q : Nat) : Decidable (lacksQ len each f q) := inferInstanceAs (Decidable (_ ∧ _ ∧ _))
def lkS (n len each : Nat) (f : Nat → Int) : Nat → Nat → Bool
  | 0, _ => false
  | q + 1, i => if lacksQ len each f q then (if i = atQ n each (f q) q then true else lkS n len each f q i) else lkS n len each f q i
def zS (g : Nat → ByteArray) (s : ByteArray) (fit : Bool) (n len each : Nat) (f : Nat → Int) : Nat → Nat → ByteArray
  | 0, i => addG g n each i
  | q + 1, i => if lacksQ len each f q ∧ fit = true then (if i = atQ n each (f q) q then s else zS g s fit n len each f q i) else zS g s fit n len each f q i
theorem atQ_in {n each q : Nat} {d : Int} (he : 1 ≤ each) (h0 : 0 ≤ d) (h1 : d ≤ each) : atQ n each d q ∈ gL n each q ++ [n + q] := by
  unfold atQ
  by_cases e : d = each ∨ n ≤ q * each + d.toNat
  · rw [if_pos e]; simp
  · rw [if_neg e]
    apply List.mem_append.2
    left
    unfold gL
    rw [List.mem_range']
    exact ⟨d.toNat, by omega, by omega⟩
theorem lkS_some {n len each : Nat} {f : Nat → Int} {i : Nat} : ∀ {q : Nat}, lkS n len each f q i = true → ∃ p, p < q ∧ lacksQ len each f p ∧ i = atQ n each (f p) p
  | 0, h => by cases h
  | q + 1, h => by
    unfold lkS at h
    by_cases c : lacksQ len each f q
    · rw [if_pos c] at h
      by_cases e : i = atQ n each (f q) q
      · exact ⟨q, by omega, c, e⟩
      · rw [if_neg e] at h
        obtain ⟨p, hp, h2⟩ := lkS_some h
        exact ⟨p, by omega, h2⟩
    · rw [if_neg c] at h
      obtain ⟨p, hp, h2⟩ := lkS_some h
      exact ⟨p, by omega, h2⟩
theorem zS_right {g : Nat → ByteArray} {s : ByteArray} {fit : Bool} {n len each : Nat} {f : Nat → Int} {i : Nat} : ∀ {q : Nat}, lkS n len each f q i = false → zS g s fit n len each f q i = addG g n each i
  | 0, _ => rfl
  | q + 1, h => by
    unfold lkS at h
    unfold zS
    by_cases c : lacksQ len each f q
    · rw [if_pos c] at h
      by_cases e : i = atQ n each (f q) q
      · rw [if_pos e] at h; cases h
      · rw [if_neg e] at h
        rw [zS_right h, if_neg e]; simp
    · rw [if_neg c] at h
      rw [zS_right h, if_neg (fun h => c h.1)]
theorem zS_size {g : Nat → ByteArray} {s : ByteArray} {fit : Bool} {n len each : Nat} {f : Nat → Int} (hs : ∀ i, i < n → (g i).size = (g 0).size) (hf : fit = true → s.size = (g 0).size) (i : Nat) : ∀ q, (zS g s fit n len each f q i).size = (g 0).size
  | 0 => addG_sizeX hs i
  | q + 1 => by
    unfold zS
    have ih := zS_size hs hf i q (len := len) (each := each) (f := f)
    by_cases c : lacksQ len each f q ∧ fit = true
    · rw [if_pos c]
      by_cases e : i = atQ n each (f q) q
      · rw [if_pos e]; exact hf c.2
      · rw [if_neg e]; exact ih
    · rw [if_neg c]; exact ih
theorem all_group {n each q r : Nat} (h : r ∈ gL n each q ++ [n + q]) : (r < n ∧ r / each = q) ∨ r = n + q := by
  rcases List.mem_append.1 h with h | h
  · exact Or.inl ⟨gL_lt h, gL_div h⟩
  · simp at h; exact Or.inr h
theorem one_each {n len each : Nat} {f : Nat → Int} (he : 1 ≤ each) (q Q : Nat) : (mGone (lkS n len each f Q) (gL n each q) (n + q)).length ≤ 1 := by
  have hnd0 : (gL n each q ++ [n + q]).Nodup := by
    rw [List.nodup_append]
    refine ⟨gL_nodup _ _ _, by simp, ?_⟩
    intro a ha b hb e
    have := gL_lt ha
    simp at hb
    omega
  have hnd : (mGone (lkS n len each f Q) (gL n each q) (n + q)).Nodup := hnd0.filter _
  have hall : ∀ r ∈ mGone (lkS n len each f Q) (gL n each q) (n + q), r = atQ n each (f q) q := fun r hr => by
    obtain ⟨ha, hl⟩ := List.mem_filter.1 hr
    obtain ⟨p, _, hc, e⟩ := lkS_some hl
    have hb := atQ_in (n := n) (q := p) he hc.2.1 hc.2.2
    rw [← e] at hb
    have : p = q := by
      rcases all_group ha with ⟨h1, h2⟩ | h1 <;> rcases all_group hb with ⟨h3, h4⟩ | h3 <;> omega
    rw [e, this]
  match h : mGone (lkS n len each f Q) (gL n each q) (n + q) with
  | [] => simp
  | [x] => simp
  | x :: y :: l =>
    rw [h] at hnd hall
    have h1 := hall x (by simp)
    have h2 := hall y (by simp)
    rw [h1, h2] at hnd
    simp at hnd
/-- GuardHeals' numbers: all is healed. -/
theorem heals_math {g : Nat → ByteArray} {s : ByteArray} {fit : Bool} {n len each : Nat} {f : Nat → Int} (hs : ∀ i, i < n → (g i).size = (g 0).size) (hf : fit = true → s.size = (g 0).size) (he : 1 ≤ each) (hn16 : n + gN n each ≤ 16) (Q : Nat) :
    (∀ q, q < gN n each → hFlt (zS g s fit n len each f Q) (lkS n len each f Q) n each q = 0) ∧ ∀ i, i < n → healF (zS g s fit n len each f Q) (lkS n len each f Q) n each (gN n each) i = g i :=
  heal_math hs (zS_size hs hf 0 Q) he hn16 (fun r _ hl => zS_right hl) (fun q _ => one_each he q Q)
theorem lkS_none (n each Q : Nat) : lkS n 0 each (fun _ => 0) Q = fun _ => false := by
  funext i
  cases h : lkS n 0 each (fun _ => 0) Q i with
  | false => rfl
  | true =>
    obtain ⟨p, _, hc, _⟩ := lkS_some h
    exact absurd hc.1 (Nat.not_lt_zero _)
theorem none_math {g : Nat → ByteArray} {n each : Nat} (hs : ∀ i, i < n → (g i).size = (g 0).size) (he : 1 ≤ each) (hn16 : n + gN n each ≤ 16) :
    (∀ q, q < gN n each → hFlt (addG g n each) (fun _ => false) n each q = 0) ∧ ∀ i, i < n → healF (addG g n each) (fun _ => false) n each (gN n each) i = g i :=
  heal_math hs (addG_sizeX hs 0) he hn16 (fun r _ _ => rfl) (fun q _ => by unfold mGone; rw [List.filter_eq_nil_iff.2 (by simp)]; simp)
end Go.Proofs.Ytmmlcomfkikomaa
