/-
  Lemmas for the law above, joined into one text (Base, Own, ChN, ChB, DegN). No statement is proved here.
-/
import Derived.Test.YtjgifjkdgoijmaaGreatDoorRows
import Derived.WalkKit
import Derived.WalkSpells
import Derived.WalkLawsBesides
import Derived.Deep.AppendLies
import Derived.Deep.OwnRows
namespace Go.Proofs.YtjgifjkdgoijmaaGreatDoor
open Go.RowKit
set_option linter.unusedVariables false
set_option maxRecDepth 100000

theorem hide {p : Prop} (h : p) : Hid p := h
theorem ret_int {k : IntKind} {a b : Int} (h : a = b) : Ending.returned (.int k a) = .returned (.int k b) := by rw [h]
theorem ret_bool {a b : Bool} (h : a = b) : Ending.returned (.bool a) = .returned (.bool b) := by rw [h]
theorem ret_two {a a' b b' : Value} (h : a = a') (h' : b = b') : Ending.returned (.tuple #[a, b]) = .returned (.tuple #[a', b']) := by rw [h, h']
theorem cell_lt {w : World} {a : Addr} {v : Value} (h : w.cell? a = some v) : a.block < w.heap.size := by
  rcases Nat.lt_or_ge a.block w.heap.size with h' | h'
  · exact h'
  · simp [World.cell?, Array.getElem?_eq_none h'] at h
theorem cell_below {w w1 : World} {a : Addr} {v : Value} (hb : Below w.heap.size w w1) (h : w.cell? a = some v) : w1.cell? a = some v :=
  (hb.cell (p := a) (cell_lt h)).trans h
/-- Two calls, one behind the other. -/
theorem below_two {w w1 w2 : World} (h : Below w.heap.size w w1) (k : Below w1.heap.size w1 w2) : Below w.heap.size w w2 := h.trans (k.mono h.size)
theorem below_drewN {B : Nat} {a w : World} (h : Below B a w) (n : Nat) : Below B a (w.drewN n) := h.trans ⟨rfl, rfl, rfl, Nat.le_refl _, fun _ _ => rfl⟩
theorem Tryz.infoStr : (Tryz.prog.info? 9).map (fun i => (i.zero, i.size, i.bytes)) = some (some (.string ⟨#[]⟩), 1, 16) := by kernel_rfl
end Go.Proofs.YtjgifjkdgoijmaaGreatDoor

namespace Go.Proofs.YtjgifjkdgoijmaaGreatDoor
open Go.RowKit
set_option linter.unusedVariables false
set_option maxRecDepth 100000

/-- Two slices whose rows are two. -/
def Apart (a b : Value) : Prop := a.ownBlock = none ∨ b.ownBlock = none ∨ a.ownBlock ≠ b.ownBlock
theorem Apart.symm {a b : Value} (h : Apart a b) : Apart b a := by
  rcases h with h | h | h
  · exact Or.inr (Or.inl h)
  · exact Or.inl h
  · exact Or.inr (Or.inr (fun e => h e.symm))
theorem Apart.kept {a b : Value} (h : Apart a b) : b.ownBlock = none ∨ b.ownBlock ≠ a.ownBlock := by
  rcases h with h | h | h
  · rw [h]; cases b.ownBlock with
    | none => exact Or.inl rfl
    | some k => exact Or.inr (by simp)
  · exact Or.inl h
  · exact Or.inr (fun e => h e.symm)
theorem apart_new {w : World} {B : Nat} {e : TypeId} {a b : Value} {m g n c H : Nat} {xs : List Value} (hb : w.ownsRow B e 1 b m xs) (h : Apart a b) (hH : w.heap.size ≤ H) (hat : a.ownBlock = some g ∨ g = H) : Apart (.slice (some ⟨g, 0, none⟩) n c) b := by
  rcases hat with hat | rfl
  · rcases h with h | h | h
    · rw [h] at hat; cases hat
    · exact Or.inr (Or.inl h)
    · exact Or.inr (Or.inr (fun e => h (by rw [hat, ← e]; rfl)))
  · refine Or.inr (Or.inr (fun e => ?_))
    have := (hb.lt g e.symm).2
    omega

theorem Tryz.infoInt : (Tryz.prog.info? 3).map (fun i => (i.zero, i.size, i.bytes)) = some (some (.int .i64 0), 1, 8) := by kernel_rfl
/-- Ints that the call owns, opened. -/
theorem own_ints {w : World} {B : Nat} {v : Value} {n : Nat} {f : Nat → Int} (h : w.ownsRow B 3 1 v n ((List.range n).map fun k : Nat => .int .i64 (f k))) (hn : 0 < n) :
    ∃ g cap, v = .slice (some ⟨g, 0, none⟩) n cap ∧ n ≤ cap ∧ cap ≤ maxLen ∧ ∀ k, k < n → w.cell? ⟨g, 0 + k, none⟩ = some (.int .i64 (f k)) := by
  have h' := h
  rcases h.2 with ⟨_, h0⟩ | ⟨g, cap, cur, hv, _, hg, h1, h2, hcs, hcur⟩
  · omega
  · refine ⟨g, cap, hv, h1, h2, fun k hk => ?_⟩
    rw [hv] at h'
    rw [Nat.zero_add, h'.cellAt k (by omega)]
    simp [hk]
end Go.Proofs.YtjgifjkdgoijmaaGreatDoor

namespace Go.Proofs.YtjgifjkdgoijmaaGreatDoor
set_option linter.unusedVariables false
set_option maxRecDepth 100000

/-- The number behind n. -/
def nxt (n : Int) : Int := 16807 * n % 2147483647
/-- A number that has one behind it. -/
def Num (n : Int) : Prop := 1 ≤ n ∧ n ≤ 2147483646
theorem Num.nxt {n : Int} (h : Num n) : Num (nxt n) := by
  obtain ⟨h1, h2⟩ := h
  unfold Num Proofs.YtjgifjkdgoijmaaGreatDoor.nxt
  omega
theorem nxt_back {n : Int} (h : Num n) : nxt n * 1407677000 % 2147483647 = n := by
  obtain ⟨h1, h2⟩ := h
  unfold nxt
  omega
/-- The k-th number behind n. -/
def rowV (n : Int) : Nat → Int
  | 0 => n
  | k + 1 => nxt (rowV n k)
theorem Num.rowV {n : Int} (h : Num n) : ∀ k, Num (rowV n k)
  | 0 => h
  | k + 1 => (Num.rowV h k).nxt
end Go.Proofs.YtjgifjkdgoijmaaGreatDoor

namespace Go.Proofs.YtjgifjkdgoijmaaGreatDoor
open Go.RowKit
set_option linter.unusedVariables false
set_option maxRecDepth 100000

theorem may_ok (n : Int) (w : World) (h : Num n) : Calls Tryz.prog 98 #[.int .i64 n] w fun e w' => e = .returned (.bool true) ∧ w = w' := by
  obtain ⟨h1, h2⟩ := h
  go_enter Tryz.func98, Tryz.ntmps98
  go_wp2
  go_ret
  exact ⟨ret_bool (by simp <;> omega), rfl⟩
theorem may_not (n : Int) (w : World) (h : n < 1 ∨ 2147483646 < n) : Calls Tryz.prog 98 #[.int .i64 n] w fun e w' => e = .returned (.bool false) ∧ w = w' := by
  rcases h with h | h
  · go_enter Tryz.func98, Tryz.ntmps98
    go_wp2
    go_ret
    exact ⟨ret_bool (by first | rfl | simp <;> omega), rfl⟩
  · go_enter Tryz.func98, Tryz.ntmps98
    go_wp2
    go_ret
    exact ⟨ret_bool (by first | rfl | simp <;> omega), rfl⟩
theorem step_ok (n : Int) (w : World) (h : Num n) : Calls Tryz.prog 99 #[.int .i64 n] w fun e w' => e = .returned (.int .i64 (nxt n)) ∧ w = w' := by
  obtain ⟨h1, h2⟩ := h
  go_enter Tryz.func99, Tryz.ntmps99
  go_wp2
  go_ret
  exact ⟨ret_int (by unfold nxt; first | rfl | omega), rfl⟩

theorem below_ok (n b : Int) (w : World) (h : Num n) (h1 : 1 ≤ b) (h2 : b ≤ 1000) : Calls Tryz.prog 67 #[.int .i64 n, .int .i64 b] w fun e w' => e = .returned (.tuple #[.int .i64 (nxt n % b), .int .i64 (nxt n), .nilIface]) ∧ w = w' := by
  have M := hide (may_ok n w h)
  have S := hide (step_ok n w h)
  obtain ⟨h3, h4⟩ := h.nxt
  generalize nxt n = x at *
  go_enter Tryz.func67, Tryz.ntmps67
  go_wp2_with fail
  refine (M.out).mono ?_
  rintro e w1 ⟨rfl, rfl⟩
  go_wp2_with fail
  refine (S.out).mono ?_
  rintro e w1 ⟨rfl, rfl⟩
  go_wp2
  go_ret3
  exact ⟨rfl, rfl⟩
theorem below_range (n b : Int) (w : World) (h : ¬ Num n ∨ b < 1 ∨ 1000 < b) : Calls Tryz.prog 67 #[.int .i64 n, .int .i64 b] w fun e w' => e = .returned (.tuple #[.int .i64 0, .int .i64 0, .iface 64 (.int .i64 1)]) ∧ w = w' := by
  by_cases hn : Num n
  · have M := hide (may_ok n w hn)
    by_cases hb : b < 1
    · go_enter Tryz.func67, Tryz.ntmps67
      go_wp2_with fail
      refine (M.out).mono ?_
      rintro e w1 ⟨rfl, rfl⟩
      go_wp2
      go_ret3
      exact ⟨rfl, rfl⟩
    · have hb2 : 1000 < b := by
        rcases h with h | h | h
        · exact absurd hn h
        · omega
        · exact h
      clear h hn
      go_enter Tryz.func67, Tryz.ntmps67
      go_wp2_with fail
      refine (M.out).mono ?_
      rintro e w1 ⟨rfl, rfl⟩
      go_wp2
      go_ret3
      exact ⟨rfl, rfl⟩
  · have M := hide (may_not n w (by unfold Num at hn; omega))
    clear h hn
    go_enter Tryz.func67, Tryz.ntmps67
    go_wp2_with fail
    refine (M.out).mono ?_
    rintro e w1 ⟨rfl, rfl⟩
    go_wp2
    go_ret3
    exact ⟨rfl, rfl⟩
end Go.Proofs.YtjgifjkdgoijmaaGreatDoor

namespace Go.Proofs.YtjgifjkdgoijmaaGreatDoor
set_option linter.unusedVariables false
set_option maxRecDepth 100000

/-- n of a thousand is under the share of degree d. -/
def Under (k n d : Nat) : Prop := (n : Int) * (k : Int) * (d : Int) < 1000 * ((d : Int) + (k : Int) * ((d : Int) - 1))
instance (k n d : Nat) : Decidable (Under k n d) := inferInstanceAs (Decidable (_ < _))
def degF (k n : Nat) : Nat → Nat → Nat
  | 0, d => d
  | f + 1, d => if Under k n d then d else degF k n f (d + 1)
/-- Of how many of k blocks a drop of the number n is. -/
def deg (k n : Nat) : Nat := degF k n (k - 1) 1
theorem degF_ge (k n : Nat) : ∀ f d, d ≤ degF k n f d
  | 0, d => Nat.le_refl _
  | f + 1, d => by
    unfold degF
    split
    · exact Nat.le_refl _
    · exact Nat.le_trans (Nat.le_succ d) (degF_ge k n f (d + 1))
theorem degF_le (k n : Nat) : ∀ f d, degF k n f d ≤ d + f
  | 0, d => Nat.le_refl _
  | f + 1, d => by
    unfold degF
    split
    · omega
    · have := degF_le k n f (d + 1); omega
theorem deg_ge (k n : Nat) : 1 ≤ deg k n := degF_ge k n _ 1
theorem deg_le (k n : Nat) (h : 1 ≤ k) : deg k n ≤ k := by have := degF_le k n (k - 1) 1; unfold deg; omega
theorem under_mono {k n m d : Nat} (h : n ≤ m) (hu : Under k m d) : Under k n d := by
  have h1 : (n : Int) * (k : Int) * (d : Int) ≤ (m : Int) * (k : Int) * (d : Int) :=
    Int.mul_le_mul_of_nonneg_right (Int.mul_le_mul_of_nonneg_right (by omega) (by omega)) (by omega)
  unfold Under at *
  omega
theorem degF_mono {k n m : Nat} (h : n ≤ m) : ∀ f d, degF k n f d ≤ degF k m f d
  | 0, d => Nat.le_refl _
  | f + 1, d => by
    by_cases hu : Under k m d
    · have e1 : degF k m (f + 1) d = d := if_pos hu
      have e2 : degF k n (f + 1) d = d := if_pos (under_mono h hu)
      omega
    · have e1 : degF k m (f + 1) d = degF k m f (d + 1) := if_neg hu
      have h1 := degF_mono (k := k) h f (d + 1)
      have h2 := degF_ge k m f (d + 1)
      rw [e1]
      by_cases hv : Under k n d
      · have e2 : degF k n (f + 1) d = d := if_pos hv
        omega
      · have e2 : degF k n (f + 1) d = degF k n f (d + 1) := if_neg hv
        omega
theorem deg_mono (k : Nat) {n m : Nat} (h : n ≤ m) : deg k n ≤ deg k m := degF_mono h _ _
theorem degF_stop {k n d : Nat} (h : d < k) (hu : Under k n d) : degF k n (k - d) d = d := by
  obtain ⟨f, hf⟩ : ∃ f, k - d = f + 1 := ⟨k - d - 1, by omega⟩
  rw [hf]; exact if_pos hu
theorem degF_on {k n d : Nat} (h : d < k) (hu : ¬ Under k n d) : degF k n (k - d) d = degF k n (k - (d + 1)) (d + 1) := by
  obtain ⟨f, hf⟩ : ∃ f, k - d = f + 1 := ⟨k - d - 1, by omega⟩
  rw [hf, show k - (d + 1) = f by omega]; exact if_neg hu
theorem degF_end (k n : Nat) : degF k n (k - k) k = k := by rw [Nat.sub_self]; rfl
theorem under_one {k n : Nat} : Under k n 1 ↔ (n : Int) * (k : Int) < 1000 := by
  unfold Under
  omega
/-- The products that the program makes, bounded. -/
theorem prods {k n d : Nat} (hk : k ≤ 16) (hn : n < 1000) (hd : 1 ≤ d) (hdk : d ≤ 16) :
    (0 ≤ (n : Int) * (k : Int) ∧ (n : Int) * (k : Int) ≤ 15984) ∧ (0 ≤ (n : Int) * (k : Int) * (d : Int) ∧ (n : Int) * (k : Int) * (d : Int) ≤ 255744) ∧ (0 ≤ (k : Int) * ((d : Int) - 1) ∧ (k : Int) * ((d : Int) - 1) ≤ 256) := by
  have a0 : 0 ≤ (n : Int) * (k : Int) := Int.mul_nonneg (by omega) (by omega)
  have a1 : (n : Int) * (k : Int) ≤ 999 * 16 := Int.mul_le_mul (by omega) (by omega) (by omega) (by omega)
  have b0 : 0 ≤ (n : Int) * (k : Int) * (d : Int) := Int.mul_nonneg a0 (by omega)
  have b1 : (n : Int) * (k : Int) * (d : Int) ≤ 15984 * 16 := Int.mul_le_mul (by omega) (by omega) (by omega) (by omega)
  have c0 : 0 ≤ (k : Int) * ((d : Int) - 1) := Int.mul_nonneg (by omega) (by omega)
  have c1 : (k : Int) * ((d : Int) - 1) ≤ 16 * 16 := Int.mul_le_mul (by omega) (by omega) (by omega) (by omega)
  omega

/-- How many of the numbers below n are told degree i + 1. -/
def cnt (k i : Nat) : Nat → Nat
  | 0 => 0
  | n + 1 => cnt k i n + if deg k n = i + 1 then 1 else 0
theorem cnt_le (k i : Nat) : ∀ n, cnt k i n ≤ n
  | 0 => Nat.le_refl _
  | n + 1 => by
    have := cnt_le k i n
    unfold cnt
    split <;> omega
/-- The first j counts together. -/
def csum (k n : Nat) : Nat → Nat
  | 0 => 0
  | j + 1 => csum k n j + cnt k j n
theorem csum_zero (k : Nat) : ∀ j, csum k 0 j = 0
  | 0 => rfl
  | j + 1 => by unfold csum; rw [csum_zero k j]; rfl
theorem csum_succ (k n : Nat) : ∀ j, csum k (n + 1) j = csum k n j + if deg k n ≤ j then 1 else 0
  | 0 => by
    have := deg_ge k n
    rw [if_neg (by omega)]; rfl
  | j + 1 => by
    show csum k (n + 1) j + (cnt k j n + if deg k n = j + 1 then 1 else 0) = csum k n j + cnt k j n + if deg k n ≤ j + 1 then 1 else 0
    rw [csum_succ k n j]
    by_cases h1 : deg k n ≤ j
    · rw [if_pos h1, if_neg (show ¬ deg k n = j + 1 by omega), if_pos (show deg k n ≤ j + 1 by omega)]; omega
    · by_cases h2 : deg k n = j + 1
      · rw [if_neg h1, if_pos h2, if_pos (show deg k n ≤ j + 1 by omega)]; omega
      · rw [if_neg h1, if_neg h2, if_neg (show ¬ deg k n ≤ j + 1 by omega)]; omega
theorem csum_all (k : Nat) (h : 1 ≤ k) : ∀ n, csum k n k = n
  | 0 => csum_zero k k
  | n + 1 => by rw [csum_succ, csum_all k h n, if_pos (deg_le k n h)]
theorem csum_le (k : Nat) (n : Nat) : ∀ j, csum k n j ≤ j * n
  | 0 => by simp [csum]
  | j + 1 => by
    have h1 := csum_le k n j
    have h2 := cnt_le k j n
    show csum k n j + cnt k j n ≤ (j + 1) * n
    rw [Nat.succ_mul]; omega
theorem deg_two {k n : Nat} (hk : 2 ≤ k) (hn : n < 500) : deg k n ≤ 2 := by
  unfold deg
  by_cases h2 : k = 2
  · subst h2; have := degF_le 2 n 1 1; omega
  · by_cases hu : Under k n 1
    · rw [degF_stop (by omega) hu]; omega
    · rw [degF_on (by omega) hu]
      have hv : Under k n 2 := by
        have h1 : (n : Int) * (k : Int) ≤ 499 * (k : Int) := Int.mul_le_mul_of_nonneg_right (by omega) (by omega)
        unfold Under
        omega
      rw [degF_stop (by omega) hv]; omega
theorem two_all {k : Nat} (hk : 2 ≤ k) : ∀ n, n ≤ 500 → csum k n 2 = n
  | 0, _ => csum_zero k 2
  | n + 1, h => by rw [csum_succ, two_all hk n (by omega), if_pos (deg_two hk (by omega))]
theorem csum_up (k j n : Nat) : ∀ m, csum k n j ≤ csum k (n + m) j
  | 0 => Nat.le_refl _
  | m + 1 => by
    have h1 := csum_up k j n m
    have h2 := csum_succ k (n + m) j
    rw [show n + (m + 1) = n + m + 1 from rfl, h2]
    omega
theorem two_half {k : Nat} (hk : 2 ≤ k) : 500 ≤ cnt k 0 1000 + cnt k 1 1000 := by
  have h1 := two_all hk 500 (Nat.le_refl _)
  have h2 := csum_up k 2 500 500
  have h3 : csum k 1000 2 = 0 + cnt k 0 1000 + cnt k 1 1000 := rfl
  have h4 : csum k (500 + 500) 2 = csum k 1000 2 := rfl
  omega
theorem deg_of_two {n : Nat} : deg 2 n = if n < 500 then 1 else 2 := by
  show (if Under 2 n 1 then 1 else degF 2 n 0 2) = _
  have : Under 2 n 1 ↔ n < 500 := by rw [under_one]; omega
  simp only [this]; rfl
theorem cnt_of_two : ∀ n, cnt 2 0 n = if n ≤ 500 then n else 500
  | 0 => rfl
  | n + 1 => by
    show cnt 2 0 n + (if deg 2 n = 0 + 1 then 1 else 0) = _
    rw [cnt_of_two n, deg_of_two]
    by_cases h : n < 500
    · simp only [h, if_true, show n ≤ 500 by omega, show n + 1 ≤ 500 by omega]
    · by_cases h2 : n = 500
      · subst h2; decide
      · simp only [h, if_false, show ¬ n ≤ 500 by omega, show ¬ n + 1 ≤ 500 by omega]; decide
end Go.Proofs.YtjgifjkdgoijmaaGreatDoor
