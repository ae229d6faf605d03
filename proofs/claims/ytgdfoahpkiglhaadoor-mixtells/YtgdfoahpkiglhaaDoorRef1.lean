/-
  Our own contracts of the document's answers for blocks (dropref1.Many, Blocks) and of dropsame.Strings over this seat's translation. Lemmas for the laws above; no statement is proved here.
-/
import Derived.Test.YtgdfoahpkiglhaaDoorSplit
import Derived.Deep.QuietTactic
import Derived.BigQuiet
namespace Go.Proofs.YtgdfoahpkiglhaaDoor
open Go.RowKit
set_option linter.unusedVariables false
set_option maxRecDepth 100000

theorem many_cnt (m n : Nat) (h1 : 1 ≤ n) : cntN m n = if m = 0 then 1 else m / n + if 0 < m % n then 1 else 0 := by
  unfold cntN
  by_cases h0 : m = 0
  · subst h0
    rw [if_pos rfl, Nat.div_eq_of_lt (by omega)]; rfl
  · rw [if_neg h0]
    have hd := Nat.div_add_mod m n
    have hl := Nat.mod_lt m h1
    by_cases hr : 0 < m % n
    · rw [if_pos hr]
      have e : (m + n - 1) / n = m / n + 1 := by
        have : m + n - 1 = (m % n - 1) + n * (m / n + 1) := by rw [Nat.mul_add]; omega
        rw [this, Nat.add_mul_div_left _ _ h1, Nat.div_eq_of_lt (by omega), Nat.zero_add]
      rw [e]; generalize m / n = d; omega
    · rw [if_neg hr]
      have e : (m + n - 1) / n = m / n := by
        have : m + n - 1 = (n - 1) + n * (m / n) := by omega
        rw [this, Nat.add_mul_div_left _ _ h1, Nat.div_eq_of_lt (by omega), Nat.zero_add]
      have h2 : 1 ≤ m / n := (Nat.one_le_div_iff h1).2 (by
        have : n ≤ n * (m / n) := by
          rcases Nat.eq_zero_or_pos (m / n) with h | h
          · rw [h] at hd; omega
          · exact Nat.le_mul_of_pos_right n h
        omega)
      rw [e]; generalize m / n = d at *; omega
theorem rmany (m n : Nat) (w : World) (hm : m ≤ 1000) (h1 : 1 ≤ n) (h8 : n ≤ 8) :
    Calls Tryd.prog 12 #[.int .i64 m, .int .i64 n] w fun e w' => e = .returned (.int .i64 (cntN m n : Nat)) ∧ w = w' := by
  have hc := hide (many_cnt m n h1)
  have hdc : ((m : Int) / (n : Int)) = ((m / n : Nat) : Int) := by simp
  have hrc : ((m : Int) % (n : Int)) = ((m % n : Nat) : Int) := by simp
  have hle := Nat.div_le_self m n
  by_cases h0 : m = 0
  · have b0 : ((m : Int) == 0) = true := by rw [h0]; rfl
    rw [hc.out, if_pos h0]
    go_enter Tryd.func12, Tryd.ntmps12
    go_wp2
    go_ret
    exact ⟨rfl, rfl⟩
  · have b0 : ((m : Int) == 0) = false := by rw [beq_eq_false_iff_ne]; omega
    rw [hc.out, if_neg h0]
    have hb : 0 ≤ (m : Int) / (n : Int) ∧ (m : Int) / (n : Int) ≤ 1000 := by rw [hdc]; generalize m / n = d at *; omega
    obtain ⟨hb1, hb2⟩ := hb
    by_cases hr : 0 < m % n
    · have br : 0 < (m : Int) % (n : Int) := by rw [hrc]; omega
      have HD := hide hdc
      clear hdc hrc
      rw [if_pos hr]
      clear hc hr
      go_enter Tryd.func12, Tryd.ntmps12
      go_wp2
      go_ret
      exact ⟨ret_int (by rw [HD.out]; omega), rfl⟩
    · have br : ¬ 0 < (m : Int) % (n : Int) := by rw [hrc]; omega
      have HD := hide hdc
      clear hdc hrc
      rw [if_neg hr]
      clear hc hr
      go_enter Tryd.func12, Tryd.ntmps12
      go_wp2
      go_ret
      exact ⟨ret_int (by rw [HD.out]), rfl⟩

theorem rblocks_none (a : Option Addr) (cap : Nat) (w : World) :
    Calls Tryd.prog 10 #[.slice a 0 cap] w fun e w' => e = .returned (.int .i64 5) ∧ w = w' := by
  go_enter Tryd.func10, Tryd.ntmps10
  go_wp2
  go_ret
  exact ⟨rfl, rfl⟩
theorem rblocks_full (a : Option Addr) (len cap : Nat) (w : World) (h : 16 < len) (hm : len ≤ maxLen) :
    Calls Tryd.prog 10 #[.slice a len cap] w fun e w' => e = .returned (.int .i64 4) ∧ w = w' := by
  unfold maxLen at hm
  have hl0 : ((len : Int) == 0) = false := by simp; omega
  go_enter Tryd.func10, Tryd.ntmps10
  go_wp2
  go_ret
  exact ⟨rfl, rfl⟩
theorem rblocks_range (b o len cap : Nat) (s0 : ByteArray) (w : World) (h0 : 0 < len) (h16 : len ≤ 16)
    (hc0 : w.cell? ⟨b, o, none⟩ = some (.string s0)) (hm : s0.size ≤ maxLen) (h : s0.size < 1 ∨ 8 < s0.size) :
    Calls Tryd.prog 10 #[.slice (some ⟨b, o, none⟩) len cap] w fun e w' => e = .returned (.int .i64 1) ∧ w = w' := by
  unfold maxLen at hm
  have hl0 : ((len : Int) == 0) = false := by simp; omega
  rcases h with h | h
  · have h' : (s0.size : Int) < 1 := by omega
    go_enter Tryd.func10, Tryd.ntmps10
    go_wp2
    go_ret
    exact ⟨rfl, rfl⟩
  · have h' : ¬ (s0.size : Int) < 1 := by omega
    have h'' : 8 < (s0.size : Int) := by omega
    go_enter Tryd.func10, Tryd.ntmps10
    go_wp2
    go_ret
    exact ⟨rfl, rfl⟩
set_option maxHeartbeats 1000000 in
theorem rblocks_shape (b o len cap : Nat) (f : Nat → ByteArray) (w : World) (h0 : 0 < len) (h16 : len ≤ 16)
    (hcell : ∀ i, i < len → w.cell? ⟨b, o + i, none⟩ = some (.string (f i))) (hmx : ∀ i, i < len → (f i).size ≤ maxLen) (h1 : 1 ≤ (f 0).size) (h8 : (f 0).size ≤ 8) (q : Nat) (hq : q < len) (hs : (f q).size ≠ (f 0).size) :
    Calls Tryd.prog 10 #[.slice (some ⟨b, o, none⟩) len cap] w fun e w' => e = .returned (.int .i64 3) ∧ Below w.heap.size w w' := by
  have hc0 := hcell 0 h0
  simp only [Nat.add_zero] at hc0
  have HCell := hide hcell
  have HS := hide hs
  have HM := hide hmx
  clear hcell hs hmx
  have hl0 : ((len : Int) == 0) = false := by simp; omega
  have h1' : ¬ ((f 0).size : Int) < 1 := by omega
  have h8' : ¬ 8 < ((f 0).size : Int) := by omega
  go_enter Tryd.func10, Tryd.ntmps10
  go_wp2
  go_loopw [3] (fun i wr => ∃ j : Nat, j ≤ q ∧ i = .int .i64 j ∧ Below w.heap.size w wr) (fun i _ => len - (intOf i).toNat)
  case atStart => exact ⟨0, Nat.zero_le _, rfl, Below.refl _ _⟩
  case round =>
    obtain ⟨j, hj, rfl, hb⟩ := hrel
    have hlt : j < len := by omega
    have hltI : (j : Int) < (len : Int) := by omega
    have h0I : 0 < (len : Int) := by omega
    have hcj := cell_below hb (HCell.out j hlt)
    have hcz := cell_below hb hc0
    have hmj := HM.out j hlt
    unfold maxLen at hmj
    by_cases hz : (f j).size = (f 0).size
    · have hne : j ≠ q := fun e => HS.out (by rw [← e]; exact hz)
      have hz' : (((f j).size : Int) != ((f 0).size : Int)) = false := by rw [hz]; simp
      clear hz
      go_wp2_with fail
      go_quiet (fail)
      go_wp2
      go_roundw
      case rel => exact ⟨j + 1, by omega, by go_num, below_drewN hb _⟩
      case measure => simp [intOf]; omega
    · have hz' : (((f j).size : Int) != ((f 0).size : Int)) = true := by rw [bne_iff_ne]; omega
      clear hz
      go_wp2_with fail
      go_quiet (fail)
      go_wp2
      go_ret
      exact ⟨rfl, below_drewN hb _⟩
set_option maxHeartbeats 1000000 in
theorem rblocks_ok (b o len cap : Nat) (f : Nat → ByteArray) (w : World) (h0 : 0 < len) (h16 : len ≤ 16)
    (hcell : ∀ i, i < len → w.cell? ⟨b, o + i, none⟩ = some (.string (f i))) (h1 : 1 ≤ (f 0).size) (h8 : (f 0).size ≤ 8) (hs : ∀ i, i < len → (f i).size = (f 0).size) :
    Calls Tryd.prog 10 #[.slice (some ⟨b, o, none⟩) len cap] w fun e w' => e = .returned (.int .i64 0) ∧ Below w.heap.size w w' := by
  have hc0 := hcell 0 h0
  simp only [Nat.add_zero] at hc0
  have HCell := hide hcell
  have HS := hide hs
  clear hcell hs
  have hl0 : ((len : Int) == 0) = false := by simp; omega
  have h1' : ¬ ((f 0).size : Int) < 1 := by omega
  have h8' : ¬ 8 < ((f 0).size : Int) := by omega
  go_enter Tryd.func10, Tryd.ntmps10
  go_wp2
  go_loopw [3] (fun i wr => ∃ j : Nat, j ≤ len ∧ i = .int .i64 j ∧ Below w.heap.size w wr) (fun i _ => len - (intOf i).toNat)
  case atStart => exact ⟨0, Nat.zero_le _, rfl, Below.refl _ _⟩
  case round =>
    obtain ⟨j, hj, rfl, hb⟩ := hrel
    by_cases hlt : j < len
    · have hltI : (j : Int) < (len : Int) := by omega
      have h0I : 0 < (len : Int) := by omega
      have hcj := cell_below hb (HCell.out j hlt)
      have hcz := cell_below hb hc0
      have hz := HS.out j hlt
      have hz8 : (f j).size ≤ 8 := by omega
      have hz' : (((f j).size : Int) != ((f 0).size : Int)) = false := by rw [hz]; simp
      clear hz
      go_wp2_with fail
      go_quiet (fail)
      go_wp2
      go_roundw
      case rel => exact ⟨j + 1, by omega, by go_num, below_drewN hb _⟩
      case measure => simp [intOf]; omega
    · go_wp2
      go_ret
      exact ⟨rfl, hb⟩

set_option maxHeartbeats 1000000 in
/-- dropsame.Strings: two slices as long, that hold the same strings. -/
theorem strings_same (b b' cap cap' len : Nat) (f : Nat → ByteArray) (w : World) (h16 : len ≤ 1000)
    (hcell : ∀ i, i < len → w.cell? ⟨b, i, none⟩ = some (.string (f i))) (hcell' : ∀ i, i < len → w.cell? ⟨b', i, none⟩ = some (.string (f i))) :
    Calls Tryd.prog 9 #[.slice (some ⟨b, 0, none⟩) len cap, .slice (some ⟨b', 0, none⟩) len cap'] w fun e w' => e = .returned (.bool true) ∧ Below w.heap.size w w' := by
  have HC := hide hcell
  have HC' := hide hcell'
  clear hcell hcell'
  have hne : ((len : Int) != (len : Int)) = false := by simp
  go_enter Tryd.func9, Tryd.ntmps9
  go_wp2
  go_loopw [5] (fun i wr => ∃ j : Nat, j ≤ len ∧ i = .int .i64 j ∧ Below w.heap.size w wr) (fun i _ => len - (intOf i).toNat)
  case atStart => exact ⟨0, Nat.zero_le _, rfl, Below.refl _ _⟩
  case round =>
    obtain ⟨j, hj, rfl, hb⟩ := hrel
    by_cases hlt : j < len
    · have hltI : (j : Int) < (len : Int) := by omega
      have hcj := cell_below hb (HC.out j hlt)
      have hcj' := cell_below hb (HC'.out j hlt)
      go_wp2_with fail
      go_quiet (fail)
      go_wp2
      go_roundw
      case rel => exact ⟨j + 1, by omega, by go_num, below_drewN hb _⟩
      case measure => simp [intOf]; omega
    · go_wp2
      go_ret
      exact ⟨rfl, hb⟩
theorem strings_nil (w : World) :
    Calls Tryd.prog 9 #[.slice none 0 0, .slice none 0 0] w fun e w' => e = .returned (.bool true) ∧ w = w' := by
  go_enter Tryd.func9, Tryd.ntmps9
  go_wp2
  refine wp_loop_rounds 1 ?_
  rw [rounds_succ]
  go_wp2
  go_ret
  exact ⟨rfl, rfl⟩
end Go.Proofs.YtgdfoahpkiglhaaDoor
