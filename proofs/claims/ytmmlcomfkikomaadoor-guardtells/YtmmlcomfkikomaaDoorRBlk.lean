/-
  Our own contract of dropref1.Blocks over this seat's translation. Lemmas for the laws above; no statement is proved here.
-/
import Derived.Test.YtmmlcomfkikomaaDoorBase
import Derived.Deep.QuietTactic
import Derived.BigQuiet
namespace Go.Proofs.YtmmlcomfkikomaaDoor
open Go.RowKit
set_option linter.unusedVariables false
set_option maxRecDepth 100000

theorem rblocks_none (a : Option Addr) (cap : Nat) (w : World) :
    Calls Tryd.prog 5 #[.slice a 0 cap] w fun e w' => e = .returned (.int .i64 5) ∧ w = w' := by
  go_enter Tryd.func5, Tryd.ntmps5
  go_wp2
  go_ret
  exact ⟨rfl, rfl⟩
theorem rblocks_full (a : Option Addr) (len cap : Nat) (w : World) (h : 16 < len) (hm : len ≤ maxLen) :
    Calls Tryd.prog 5 #[.slice a len cap] w fun e w' => e = .returned (.int .i64 4) ∧ w = w' := by
  unfold maxLen at hm
  have hl0 : ((len : Int) == 0) = false := by simp; omega
  go_enter Tryd.func5, Tryd.ntmps5
  go_wp2
  go_ret
  exact ⟨rfl, rfl⟩
theorem rblocks_range (b o len cap : Nat) (s0 : ByteArray) (w : World) (h0 : 0 < len) (h16 : len ≤ 16)
    (hc0 : w.cell? ⟨b, o, none⟩ = some (.string s0)) (hm : s0.size ≤ maxLen) (h : s0.size < 1 ∨ 8 < s0.size) :
    Calls Tryd.prog 5 #[.slice (some ⟨b, o, none⟩) len cap] w fun e w' => e = .returned (.int .i64 1) ∧ w = w' := by
  unfold maxLen at hm
  have hl0 : ((len : Int) == 0) = false := by simp; omega
  rcases h with h | h
  · have h' : (s0.size : Int) < 1 := by omega
    go_enter Tryd.func5, Tryd.ntmps5
    go_wp2
    go_ret
    exact ⟨rfl, rfl⟩
  · have h' : ¬ (s0.size : Int) < 1 := by omega
    have h'' : 8 < (s0.size : Int) := by omega
    go_enter Tryd.func5, Tryd.ntmps5
    go_wp2
    go_ret
    exact ⟨rfl, rfl⟩
set_option maxHeartbeats 1000000 in
theorem rblocks_shape (b o len cap : Nat) (f : Nat → ByteArray) (w : World) (h0 : 0 < len) (h16 : len ≤ 16)
    (hcell : ∀ i, i < len → w.cell? ⟨b, o + i, none⟩ = some (.string (f i))) (hmx : ∀ i, i < len → (f i).size ≤ maxLen) (h1 : 1 ≤ (f 0).size) (h8 : (f 0).size ≤ 8) (q : Nat) (hq : q < len) (hs : (f q).size ≠ (f 0).size) :
    Calls Tryd.prog 5 #[.slice (some ⟨b, o, none⟩) len cap] w fun e w' => e = .returned (.int .i64 3) ∧ Below w.heap.size w w' := by
  have hc0 := hcell 0 h0
  simp only [Nat.add_zero] at hc0
  have HCell := hide hcell
  have HS := hide hs
  have HM := hide hmx
  clear hcell hs hmx
  have hl0 : ((len : Int) == 0) = false := by simp; omega
  have h1' : ¬ ((f 0).size : Int) < 1 := by omega
  have h8' : ¬ 8 < ((f 0).size : Int) := by omega
  go_enter Tryd.func5, Tryd.ntmps5
  go_wp2
  go_loopw [3] (fun i wr => ∃ j : Nat, j ≤ q ∧ i = .int .i64 j ∧ Below w.heap.size w wr) (fun i _ => len - (intOf i).toNat)
  case atStart => exact ⟨0, Nat.zero_le _, rfl, Below.refl _ _⟩
  case round =>
    obtain ⟨j, hj, rfl, hb⟩ := hrel
    have hlt : j < len := by omega
    have hltI : (j : Int) < (len : Int) := by omega
    have h0I : 0 < (len : Int) := by omega
    have hcj := cell_below hb (HCell.out j hlt)
    have hcz := cell_below hb hc0
    have hmj := HM.out j hlt
    unfold maxLen at hmj
    by_cases hz : (f j).size = (f 0).size
    · have hne : j ≠ q := fun e => HS.out (by rw [← e]; exact hz)
      have hz' : (((f j).size : Int) != ((f 0).size : Int)) = false := by rw [hz]; simp
      clear hz
      go_wp2_with fail
      go_quiet (fail)
      go_wp2
      go_roundw
      case rel => exact ⟨j + 1, by omega, by go_num, below_drewN hb _⟩
      case measure => simp [intOf]; omega
    · have hz' : (((f j).size : Int) != ((f 0).size : Int)) = true := by rw [bne_iff_ne]; omega
      clear hz
      go_wp2_with fail
      go_quiet (fail)
      go_wp2
      go_ret
      exact ⟨rfl, below_drewN hb _⟩
set_option maxHeartbeats 1000000 in
theorem rblocks_ok (b o len cap : Nat) (f : Nat → ByteArray) (w : World) (h0 : 0 < len) (h16 : len ≤ 16)
    (hcell : ∀ i, i < len → w.cell? ⟨b, o + i, none⟩ = some (.string (f i))) (h1 : 1 ≤ (f 0).size) (h8 : (f 0).size ≤ 8) (hs : ∀ i, i < len → (f i).size = (f 0).size) :
    Calls Tryd.prog 5 #[.slice (some ⟨b, o, none⟩) len cap] w fun e w' => e = .returned (.int .i64 0) ∧ Below w.heap.size w w' := by
  have hc0 := hcell 0 h0
  simp only [Nat.add_zero] at hc0
  have HCell := hide hcell
  have HS := hide hs
  clear hcell hs
  have hl0 : ((len : Int) == 0) = false := by simp; omega
  have h1' : ¬ ((f 0).size : Int) < 1 := by omega
  have h8' : ¬ 8 < ((f 0).size : Int) := by omega
  go_enter Tryd.func5, Tryd.ntmps5
  go_wp2
  go_loopw [3] (fun i wr => ∃ j : Nat, j ≤ len ∧ i = .int .i64 j ∧ Below w.heap.size w wr) (fun i _ => len - (intOf i).toNat)
  case atStart => exact ⟨0, Nat.zero_le _, rfl, Below.refl _ _⟩
  case round =>
    obtain ⟨j, hj, rfl, hb⟩ := hrel
    by_cases hlt : j < len
    · have hltI : (j : Int) < (len : Int) := by omega
      have h0I : 0 < (len : Int) := by omega
      have hcj := cell_below hb (HCell.out j hlt)
      have hcz := cell_below hb hc0
      have hz := HS.out j hlt
      have hz8 : (f j).size ≤ 8 := by omega
      have hz' : (((f j).size : Int) != ((f 0).size : Int)) = false := by rw [hz]; simp
      clear hz
      go_wp2_with fail
      go_quiet (fail)
      go_wp2
      go_roundw
      case rel => exact ⟨j + 1, by omega, by go_num, below_drewN hb _⟩
      case measure => simp [intOf]; omega
    · go_wp2
      go_ret
      exact ⟨rfl, hb⟩
end Go.Proofs.YtmmlcomfkikomaaDoor
