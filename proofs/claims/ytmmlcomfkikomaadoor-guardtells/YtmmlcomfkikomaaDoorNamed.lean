/-
  Our own contracts of mix.named over this seat's translation, its ways out, and of slices.Contains and slices.Index at ints. Lemmas for the laws above; no statement is proved here.
-/
import Derived.Test.YtmmlcomfkikomaaDoorBase
namespace Go.Proofs.YtmmlcomfkikomaaDoor
open Go.RowKit
set_option linter.unusedVariables false
set_option maxRecDepth 100000

theorem iindex_no (b o n cap : Nat) (v : Int) (f : Nat → Int) (w : World) (hn : n ≤ maxLen)
    (hcell : ∀ i, i < n → w.cell? ⟨b, o + i, none⟩ = some (.int .i64 (f i))) (hs : ∀ i, i < n → f i ≠ v) :
    Calls Tryd.prog 44 #[.slice (some ⟨b, o, none⟩) n cap, .int .i64 v] w fun e w' => e = .returned (.int .i64 (-1)) ∧ w = w' := by
  unfold maxLen at hn
  have HC := hide hcell
  have HS := hide hs
  clear hcell hs
  go_enter Tryd.func44, Tryd.ntmps44
  go_wp2
  go_loop [8] (fun i => ∃ j : Nat, j ≤ n ∧ i = .int .i64 j) (fun i => n - (intOf i).toNat)
  case atStart => exact ⟨0, Nat.zero_le _, rfl⟩
  case round =>
    obtain ⟨j, hj, rfl⟩ := hrel
    by_cases hlt : j < n
    · have hc := HC.out j hlt
      have hz := HS.out j hlt
      have hz' : (v == f j) = false := by rw [beq_eq_false_iff_ne]; exact fun h => hz h.symm
      clear hz
      go_wp2
      go_round
      case rel => exact ⟨j + 1, by omega, by go_num⟩
      case measure => simp [intOf]; omega
    · go_wp2
      go_ret
      exact ⟨rfl, rfl⟩
theorem iindex_yes (b o n cap : Nat) (v : Int) (f : Nat → Int) (w : World) (hn : n ≤ maxLen)
    (hcell : ∀ i, i < n → w.cell? ⟨b, o + i, none⟩ = some (.int .i64 (f i))) (q : Nat) (hq : q < n) (hs : f q = v) :
    Calls Tryd.prog 44 #[.slice (some ⟨b, o, none⟩) n cap, .int .i64 v] w fun e w' => (∃ r : Nat, r < n ∧ e = .returned (.int .i64 r)) ∧ w = w' := by
  unfold maxLen at hn
  have HC := hide hcell
  have HS := hide hs
  clear hcell hs
  go_enter Tryd.func44, Tryd.ntmps44
  go_wp2
  go_loop [8] (fun i => ∃ j : Nat, j ≤ q ∧ i = .int .i64 j) (fun i => n - (intOf i).toNat)
  case atStart => exact ⟨0, Nat.zero_le _, rfl⟩
  case round =>
    obtain ⟨j, hj, rfl⟩ := hrel
    have hlt : j < n := by omega
    have hc := HC.out j hlt
    by_cases hz : f j = v
    · have hz' : (v == f j) = true := by rw [beq_iff_eq]; exact hz.symm
      clear hz
      go_wp2
      go_ret
      exact ⟨⟨j, by omega, rfl⟩, rfl⟩
    · have hz' : (v == f j) = false := by rw [beq_eq_false_iff_ne]; exact fun h => hz h.symm
      have hne : j ≠ q := fun e => hz (by rw [e]; exact HS.out)
      have hlt2 : j < q := by omega
      clear hz hne
      go_wp2
      go_round
      case rel => exact ⟨j + 1, by omega, by go_num⟩
      case measure => simp [intOf]; omega
theorem icontains_no (b o n cap : Nat) (v : Int) (f : Nat → Int) (w : World) (hn : n ≤ maxLen)
    (hcell : ∀ i, i < n → w.cell? ⟨b, o + i, none⟩ = some (.int .i64 (f i))) (hs : ∀ i, i < n → f i ≠ v) :
    Calls Tryd.prog 38 #[.slice (some ⟨b, o, none⟩) n cap, .int .i64 v] w fun e w' => e = .returned (.bool false) ∧ w = w' := by
  have K := hide (iindex_no b o n cap v f w hn hcell hs)
  clear hcell hs
  go_enter Tryd.func38, Tryd.ntmps38
  go_wp2_with fail
  refine (K.out).mono ?_
  rintro e w1 ⟨rfl, rfl⟩
  go_wp2
  go_ret
  exact ⟨rfl, rfl⟩
theorem icontains_yes (b o n cap : Nat) (v : Int) (f : Nat → Int) (w : World) (hn : n ≤ maxLen)
    (hcell : ∀ i, i < n → w.cell? ⟨b, o + i, none⟩ = some (.int .i64 (f i))) (q : Nat) (hq : q < n) (hs : f q = v) :
    Calls Tryd.prog 38 #[.slice (some ⟨b, o, none⟩) n cap, .int .i64 v] w fun e w' => e = .returned (.bool true) ∧ w = w' := by
  have K := hide (iindex_yes b o n cap v f w hn hcell q hq hs)
  clear hcell hs
  unfold maxLen at hn
  go_enter Tryd.func38, Tryd.ntmps38
  go_wp2_with fail
  refine (K.out).mono ?_
  rintro e w1 ⟨⟨r, hr, rfl⟩, rfl⟩
  go_wp2
  go_ret
  exact ⟨rfl, rfl⟩

/-- Place i is one of many, and was not named ahead. -/
def goodAt (f : Nat → Int) (many i : Nat) : Prop := (0 ≤ f i ∧ f i < (many : Int)) ∧ ∀ j, j < i → f j ≠ f i
/-- What is wrong with place i. -/
def faultAt (f : Nat → Int) (many i : Nat) : Int := if 0 ≤ f i ∧ f i < (many : Int) then 7 else 1

theorem named_none (a : Option Addr) (cap : Nat) (m : Int) (w : World) :
    Calls Tryd.prog 29 #[.slice a 0 cap, .int .i64 m] w fun e w' => e = .returned (.iface 42 (.int .i64 5)) ∧ w = w' := by
  go_enter Tryd.func29, Tryd.ntmps29
  go_wp2
  go_ret
  exact ⟨rfl, rfl⟩

set_option maxHeartbeats 1000000 in
theorem named_ok (b o n cap many : Nat) (f : Nat → Int) (w : World) (h0 : 0 < n) (hnc : n ≤ cap) (hc : cap ≤ maxLen)
    (hcell : ∀ i, i < n → w.cell? ⟨b, o + i, none⟩ = some (.int .i64 (f i))) (hg : ∀ i, i < n → goodAt f many i) :
    Calls Tryd.prog 29 #[.slice (some ⟨b, o, none⟩) n cap, .int .i64 many] w fun e w' => e = .returned .nilIface ∧ w = w' := by
  unfold maxLen at hc
  have HC := hide hcell
  have HG := hide hg
  clear hcell hg
  have hl0 : ((n : Int) == 0) = false := by simp; omega
  go_enter Tryd.func29, Tryd.ntmps29
  go_wp2
  go_loop [13] (fun i => ∃ j : Nat, j ≤ n ∧ i = .int .i64 j) (fun i => n - (intOf i).toNat)
  case atStart => exact ⟨0, Nat.zero_le _, rfl⟩
  case round =>
    obtain ⟨j, hj, rfl⟩ := hrel
    by_cases hlt : j < n
    · have hc := HC.out j hlt
      obtain ⟨⟨h1, h2⟩, h3⟩ := HG.out j hlt
      have K := hide (fun cap => icontains_no b o j cap (f j) f w (by unfold maxLen; omega) (fun i hi => HC.out i (by omega)) h3)
      have h1' : ¬ f j < 0 := by omega
      have h2' : ¬ (many : Int) ≤ f j := by omega
      clear h3
      go_wp2_with fail
      refine (K.out _).mono ?_
      rintro e w1 ⟨rfl, rfl⟩
      go_wp2
      go_round
      case rel => exact ⟨j + 1, by omega, by go_num⟩
      case measure => simp [intOf]; omega
    · go_wp2
      go_ret
      exact ⟨rfl, rfl⟩
set_option maxHeartbeats 1000000 in
theorem named_bad (b o n cap many : Nat) (f : Nat → Int) (w : World) (hnc : n ≤ cap) (hc : cap ≤ maxLen)
    (hcell : ∀ i, i < n → w.cell? ⟨b, o + i, none⟩ = some (.int .i64 (f i))) (q : Nat) (hq : q < n) (hg : ∀ i, i < q → goodAt f many i) (hb : ¬ goodAt f many q) :
    Calls Tryd.prog 29 #[.slice (some ⟨b, o, none⟩) n cap, .int .i64 many] w fun e w' => e = .returned (.iface 42 (.int .i64 (faultAt f many q))) ∧ w = w' := by
  unfold maxLen at hc
  have HC := hide hcell
  have HG := hide hg
  have HB := hide hb
  clear hcell hg hb
  have hl0 : ((n : Int) == 0) = false := by simp; omega
  go_enter Tryd.func29, Tryd.ntmps29
  go_wp2
  go_loop [13] (fun i => ∃ j : Nat, j ≤ q ∧ i = .int .i64 j) (fun i => n - (intOf i).toNat)
  case atStart => exact ⟨0, Nat.zero_le _, rfl⟩
  case round =>
    obtain ⟨j, hj, rfl⟩ := hrel
    have hlt : j < n := by omega
    have hc := HC.out j hlt
    by_cases hjq : j < q
    · obtain ⟨⟨h1, h2⟩, h3⟩ := HG.out j hjq
      have K := hide (fun cap => icontains_no b o j cap (f j) f w (by unfold maxLen; omega) (fun i hi => HC.out i (by omega)) h3)
      have h1' : ¬ f j < 0 := by omega
      have h2' : ¬ (many : Int) ≤ f j := by omega
      clear h3
      go_wp2_with fail
      refine (K.out _).mono ?_
      rintro e w1 ⟨rfl, rfl⟩
      go_wp2
      go_round
      case rel => exact ⟨j + 1, by omega, by go_num⟩
      case measure => simp [intOf]; omega
    · obtain rfl : j = q := by omega
      by_cases hin : 0 ≤ f j ∧ f j < (many : Int)
      · have hx : ∃ r, r < j ∧ f r = f j := Classical.byContradiction fun hn => HB.out ⟨hin, fun r hr e => hn ⟨r, hr, e⟩⟩
        obtain ⟨r, hr, hrr⟩ := hx
        have K := hide (fun cap => icontains_yes b o j cap (f j) f w (by unfold maxLen; omega) (fun i hi => HC.out i (by omega)) r hr hrr)
        have hF : Hid (faultAt f many j = 7) := by unfold Hid faultAt; rw [if_pos hin]
        obtain ⟨h1, h2⟩ := hin
        have h1' : ¬ f j < 0 := by omega
        have h2' : ¬ (many : Int) ≤ f j := by omega
        clear hr hrr
        go_wp2_with fail
        refine (K.out _).mono ?_
        rintro e w1 ⟨rfl, rfl⟩
        go_wp2
        go_ret
        rw [hF.out]
        exact ⟨rfl, rfl⟩
      · have hF : Hid (faultAt f many j = 1) := by unfold Hid faultAt; rw [if_neg hin]
        by_cases h1 : f j < 0
        · clear hin
          go_wp2
          go_ret
          rw [hF.out]
          exact ⟨rfl, rfl⟩
        · have h2 : (many : Int) ≤ f j := by omega
          clear hin
          go_wp2
          go_ret
          rw [hF.out]
          exact ⟨rfl, rfl⟩
/-- All places are right, or one is the first that is not. -/
theorem good_or (f : Nat → Int) (many : Nat) : ∀ n, (∀ i, i < n → goodAt f many i) ∨ ∃ q, q < n ∧ (∀ i, i < q → goodAt f many i) ∧ ¬ goodAt f many q
  | 0 => Or.inl (fun i hi => absurd hi (Nat.not_lt_zero _))
  | n + 1 => by
    rcases good_or f many n with h | ⟨q, hq, h1, h2⟩
    · by_cases hn : goodAt f many n
      · refine Or.inl (fun i hi => ?_)
        rcases Nat.lt_or_ge i n with h' | h'
        · exact h i h'
        · obtain rfl : i = n := by omega
          exact hn
      · exact Or.inr ⟨n, Nat.lt_succ_self _, h, hn⟩
    · exact Or.inr ⟨q, by omega, h1, h2⟩
end Go.Proofs.YtmmlcomfkikomaaDoor
