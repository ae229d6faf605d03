/-
  Our own contract of the document's In over this seat's translation. Lemmas for the laws above; no statement is proved here.
-/
import Derived.Test.YtkbnoebhckngaaaDoorBase
namespace Go.Proofs.YtkbnoebhckngaaaDoor
open Go.RowKit
set_option linter.unusedVariables false
set_option maxRecDepth 100000

set_option maxHeartbeats 1000000 in
theorem rin_no (b o n cap : Nat) (v : Int) (f : Nat → Int) (w : World) (hn : n ≤ maxLen)
    (hcell : ∀ i, i < n → w.cell? ⟨b, o + i, none⟩ = some (.int .i64 (f i))) (hs : ∀ i, i < n → f i ≠ v) :
    Calls Tryd.prog 12 #[.slice (some ⟨b, o, none⟩) n cap, .int .i64 v] w fun e w' => e = .returned (.bool false) ∧ w = w' := by
  unfold maxLen at hn
  have HC := hide hcell
  have HS := hide hs
  clear hcell hs
  go_enter Tryd.func12, Tryd.ntmps12
  go_wp2
  go_loop [5] (fun i => ∃ j : Nat, j ≤ n ∧ i = .int .i64 j) (fun i => n - (intOf i).toNat)
  case atStart => exact ⟨0, Nat.zero_le _, rfl⟩
  case round =>
    obtain ⟨j, hj, rfl⟩ := hrel
    by_cases hlt : j < n
    · have hc := HC.out j hlt
      have hz := HS.out j hlt
      have hz' : (f j == v) = false := by rw [beq_eq_false_iff_ne]; exact hz
      clear hz
      go_wp2
      go_round
      case rel => exact ⟨j + 1, by omega, by go_num⟩
      case measure => simp [intOf]; omega
    · go_wp2
      go_ret
      exact ⟨rfl, rfl⟩
set_option maxHeartbeats 1000000 in
theorem rin_yes (b o n cap : Nat) (v : Int) (f : Nat → Int) (w : World) (hn : n ≤ maxLen)
    (hcell : ∀ i, i < n → w.cell? ⟨b, o + i, none⟩ = some (.int .i64 (f i))) (q : Nat) (hq : q < n) (hs : f q = v) :
    Calls Tryd.prog 12 #[.slice (some ⟨b, o, none⟩) n cap, .int .i64 v] w fun e w' => e = .returned (.bool true) ∧ w = w' := by
  unfold maxLen at hn
  have HC := hide hcell
  have HS := hide hs
  clear hcell hs
  go_enter Tryd.func12, Tryd.ntmps12
  go_wp2
  go_loop [5] (fun i => ∃ j : Nat, j ≤ q ∧ i = .int .i64 j) (fun i => n - (intOf i).toNat)
  case atStart => exact ⟨0, Nat.zero_le _, rfl⟩
  case round =>
    obtain ⟨j, hj, rfl⟩ := hrel
    have hlt : j < n := by omega
    have hc := HC.out j hlt
    by_cases hz : f j = v
    · have hz' : (f j == v) = true := by rw [beq_iff_eq]; exact hz
      clear hz
      go_wp2
      go_ret
      exact ⟨rfl, rfl⟩
    · have hz' : (f j == v) = false := by rw [beq_eq_false_iff_ne]; exact hz
      have hne : j ≠ q := fun e => hz (by rw [e]; exact HS.out)
      have hlt2 : j < q := by omega
      clear hz hne
      go_wp2
      go_round
      case rel => exact ⟨j + 1, by omega, by go_num⟩
      case measure => simp [intOf]; omega
/-- 'in' as the list says it, whichever. -/
theorem rin_any (b o n cap : Nat) (v : Int) (f : Nat → Int) (w : World) (hn : n ≤ maxLen)
    (hcell : ∀ i, i < n → w.cell? ⟨b, o + i, none⟩ = some (.int .i64 (f i))) :
    ∃ r : Bool, (r = true ↔ ∃ q, q < n ∧ f q = v) ∧ Calls Tryd.prog 12 #[.slice (some ⟨b, o, none⟩) n cap, .int .i64 v] w fun e w' => e = .returned (.bool r) ∧ w = w' := by
  by_cases h : ∃ q, q < n ∧ f q = v
  · obtain ⟨q, hq, he⟩ := h
    exact ⟨true, by simp; exact ⟨q, hq, he⟩, rin_yes b o n cap v f w hn hcell q hq he⟩
  · exact ⟨false, by simp; exact fun q hq he => h ⟨q, hq, he⟩, rin_no b o n cap v f w hn hcell (fun i hi he => h ⟨i, hi, he⟩)⟩
end Go.Proofs.YtkbnoebhckngaaaDoor
