/-
  Lemmas for the law above, joined into one text (DegN, DegO, Full, SetN, MapS, DropS, ToV). No statement is proved here.
-/
import Derived.Test.YtjhflcgphejddaaGreatDoorZG0
import Derived.Test.YtjhflcgphejddaaGreatDoorZG14
import Derived.Maps.OwnSet
import Derived.Test.YtjhflcgphejddaaGreatDoorZG3
import Derived.Deep.LoopGhost
import Derived.Test.YtjhflcgphejddaaGreatDoorZG7
namespace Go.Proofs.YtjhflcgphejddaaGreatDoor
set_option linter.unusedVariables false
set_option maxRecDepth 100000

/-- n of a thousand is under the share of degree d. -/
def Under (k n d : Nat) : Prop := (n : Int) * (k : Int) * (d : Int) < 1000 * ((d : Int) + (k : Int) * ((d : Int) - 1))
instance (k n d : Nat) : Decidable (Under k n d) := inferInstanceAs (Decidable (_ < _))
def degF (k n : Nat) : Nat → Nat → Nat
  | 0, d => d
  | f + 1, d => if Under k n d then d else degF k n f (d + 1)
/-- Of how many of k blocks a drop of the number n is. -/
def deg (k n : Nat) : Nat := degF k n (k - 1) 1
theorem degF_ge (k n : Nat) : ∀ f d, d ≤ degF k n f d
  | 0, d => Nat.le_refl _
  | f + 1, d => by
    unfold degF
    split
    · exact Nat.le_refl _
    · exact Nat.le_trans (Nat.le_succ d) (degF_ge k n f (d + 1))
theorem degF_le (k n : Nat) : ∀ f d, degF k n f d ≤ d + f
  | 0, d => Nat.le_refl _
  | f + 1, d => by
    unfold degF
    split
    · omega
    · have := degF_le k n f (d + 1); omega
theorem deg_ge (k n : Nat) : 1 ≤ deg k n := degF_ge k n _ 1
theorem deg_le (k n : Nat) (h : 1 ≤ k) : deg k n ≤ k := by have := degF_le k n (k - 1) 1; unfold deg; omega
theorem under_mono {k n m d : Nat} (h : n ≤ m) (hu : Under k m d) : Under k n d := by
  have h1 : (n : Int) * (k : Int) * (d : Int) ≤ (m : Int) * (k : Int) * (d : Int) :=
    Int.mul_le_mul_of_nonneg_right (Int.mul_le_mul_of_nonneg_right (by omega) (by omega)) (by omega)
  unfold Under at *
  omega
theorem degF_mono {k n m : Nat} (h : n ≤ m) : ∀ f d, degF k n f d ≤ degF k m f d
  | 0, d => Nat.le_refl _
  | f + 1, d => by
    by_cases hu : Under k m d
    · have e1 : degF k m (f + 1) d = d := if_pos hu
      have e2 : degF k n (f + 1) d = d := if_pos (under_mono h hu)
      omega
    · have e1 : degF k m (f + 1) d = degF k m f (d + 1) := if_neg hu
      have h1 := degF_mono (k := k) h f (d + 1)
      have h2 := degF_ge k m f (d + 1)
      rw [e1]
      by_cases hv : Under k n d
      · have e2 : degF k n (f + 1) d = d := if_pos hv
        omega
      · have e2 : degF k n (f + 1) d = degF k n f (d + 1) := if_neg hv
        omega
theorem deg_mono (k : Nat) {n m : Nat} (h : n ≤ m) : deg k n ≤ deg k m := degF_mono h _ _
theorem degF_stop {k n d : Nat} (h : d < k) (hu : Under k n d) : degF k n (k - d) d = d := by
  obtain ⟨f, hf⟩ : ∃ f, k - d = f + 1 := ⟨k - d - 1, by omega⟩
  rw [hf]; exact if_pos hu
theorem degF_on {k n d : Nat} (h : d < k) (hu : ¬ Under k n d) : degF k n (k - d) d = degF k n (k - (d + 1)) (d + 1) := by
  obtain ⟨f, hf⟩ : ∃ f, k - d = f + 1 := ⟨k - d - 1, by omega⟩
  rw [hf, show k - (d + 1) = f by omega]; exact if_neg hu
theorem degF_end (k n : Nat) : degF k n (k - k) k = k := by rw [Nat.sub_self]; rfl
theorem under_one {k n : Nat} : Under k n 1 ↔ (n : Int) * (k : Int) < 1000 := by
  unfold Under
  omega
/-- The products that the program makes, bounded. -/
theorem prods {k n d : Nat} (hk : k ≤ 16) (hn : n < 1000) (hd : 1 ≤ d) (hdk : d ≤ 16) :
    (0 ≤ (n : Int) * (k : Int) ∧ (n : Int) * (k : Int) ≤ 15984) ∧ (0 ≤ (n : Int) * (k : Int) * (d : Int) ∧ (n : Int) * (k : Int) * (d : Int) ≤ 255744) ∧ (0 ≤ (k : Int) * ((d : Int) - 1) ∧ (k : Int) * ((d : Int) - 1) ≤ 256) := by
  have a0 : 0 ≤ (n : Int) * (k : Int) := Int.mul_nonneg (by omega) (by omega)
  have a1 : (n : Int) * (k : Int) ≤ 999 * 16 := Int.mul_le_mul (by omega) (by omega) (by omega) (by omega)
  have b0 : 0 ≤ (n : Int) * (k : Int) * (d : Int) := Int.mul_nonneg a0 (by omega)
  have b1 : (n : Int) * (k : Int) * (d : Int) ≤ 15984 * 16 := Int.mul_le_mul (by omega) (by omega) (by omega) (by omega)
  have c0 : 0 ≤ (k : Int) * ((d : Int) - 1) := Int.mul_nonneg (by omega) (by omega)
  have c1 : (k : Int) * ((d : Int) - 1) ≤ 16 * 16 := Int.mul_le_mul (by omega) (by omega) (by omega) (by omega)
  omega

/-- How many of the numbers below n are told degree i + 1. -/
def cnt (k i : Nat) : Nat → Nat
  | 0 => 0
  | n + 1 => cnt k i n + if deg k n = i + 1 then 1 else 0
theorem cnt_le (k i : Nat) : ∀ n, cnt k i n ≤ n
  | 0 => Nat.le_refl _
  | n + 1 => by
    have := cnt_le k i n
    unfold cnt
    split <;> omega
/-- The first j counts together. -/
def csum (k n : Nat) : Nat → Nat
  | 0 => 0
  | j + 1 => csum k n j + cnt k j n
theorem csum_zero (k : Nat) : ∀ j, csum k 0 j = 0
  | 0 => rfl
  | j + 1 => by unfold csum; rw [csum_zero k j]; rfl
theorem csum_succ (k n : Nat) : ∀ j, csum k (n + 1) j = csum k n j + if deg k n ≤ j then 1 else 0
  | 0 => by
    have := deg_ge k n
    rw [if_neg (by omega)]; rfl
  | j + 1 => by
    show csum k (n + 1) j + (cnt k j n + if deg k n = j + 1 then 1 else 0) = csum k n j + cnt k j n + if deg k n ≤ j + 1 then 1 else 0
    rw [csum_succ k n j]
    by_cases h1 : deg k n ≤ j
    · rw [if_pos h1, if_neg (show ¬ deg k n = j + 1 by omega), if_pos (show deg k n ≤ j + 1 by omega)]; omega
    · by_cases h2 : deg k n = j + 1
      · rw [if_neg h1, if_pos h2, if_pos (show deg k n ≤ j + 1 by omega)]; omega
      · rw [if_neg h1, if_neg h2, if_neg (show ¬ deg k n ≤ j + 1 by omega)]; omega
theorem csum_all (k : Nat) (h : 1 ≤ k) : ∀ n, csum k n k = n
  | 0 => csum_zero k k
  | n + 1 => by rw [csum_succ, csum_all k h n, if_pos (deg_le k n h)]
theorem csum_le (k : Nat) (n : Nat) : ∀ j, csum k n j ≤ j * n
  | 0 => by simp [csum]
  | j + 1 => by
    have h1 := csum_le k n j
    have h2 := cnt_le k j n
    show csum k n j + cnt k j n ≤ (j + 1) * n
    rw [Nat.succ_mul]; omega
theorem deg_two {k n : Nat} (hk : 2 ≤ k) (hn : n < 500) : deg k n ≤ 2 := by
  unfold deg
  by_cases h2 : k = 2
  · subst h2; have := degF_le 2 n 1 1; omega
  · by_cases hu : Under k n 1
    · rw [degF_stop (by omega) hu]; omega
    · rw [degF_on (by omega) hu]
      have hv : Under k n 2 := by
        have h1 : (n : Int) * (k : Int) ≤ 499 * (k : Int) := Int.mul_le_mul_of_nonneg_right (by omega) (by omega)
        unfold Under
        omega
      rw [degF_stop (by omega) hv]; omega
theorem two_all {k : Nat} (hk : 2 ≤ k) : ∀ n, n ≤ 500 → csum k n 2 = n
  | 0, _ => csum_zero k 2
  | n + 1, h => by rw [csum_succ, two_all hk n (by omega), if_pos (deg_two hk (by omega))]
theorem csum_up (k j n : Nat) : ∀ m, csum k n j ≤ csum k (n + m) j
  | 0 => Nat.le_refl _
  | m + 1 => by
    have h1 := csum_up k j n m
    have h2 := csum_succ k (n + m) j
    rw [show n + (m + 1) = n + m + 1 from rfl, h2]
    omega
theorem two_half {k : Nat} (hk : 2 ≤ k) : 500 ≤ cnt k 0 1000 + cnt k 1 1000 := by
  have h1 := two_all hk 500 (Nat.le_refl _)
  have h2 := csum_up k 2 500 500
  have h3 : csum k 1000 2 = 0 + cnt k 0 1000 + cnt k 1 1000 := rfl
  have h4 : csum k (500 + 500) 2 = csum k 1000 2 := rfl
  omega
theorem deg_of_two {n : Nat} : deg 2 n = if n < 500 then 1 else 2 := by
  show (if Under 2 n 1 then 1 else degF 2 n 0 2) = _
  have : Under 2 n 1 ↔ n < 500 := by rw [under_one]; omega
  simp only [this]; rfl
theorem cnt_of_two : ∀ n, cnt 2 0 n = if n ≤ 500 then n else 500
  | 0 => rfl
  | n + 1 => by
    show cnt 2 0 n + (if deg 2 n = 0 + 1 then 1 else 0) = _
    rw [cnt_of_two n, deg_of_two]
    by_cases h : n < 500
    · simp only [h, if_true, show n ≤ 500 by omega, show n + 1 ≤ 500 by omega]
    · by_cases h2 : n = 500
      · subst h2; decide
      · simp only [h, if_false, show ¬ n ≤ 500 by omega, show ¬ n + 1 ≤ 500 by omega]; decide
end Go.Proofs.YtjhflcgphejddaaGreatDoor

namespace Go.Proofs.YtjhflcgphejddaaGreatDoor
open Go.RowKit
set_option linter.unusedVariables false
set_option maxRecDepth 100000

theorem dmay_ok (k : Int) (w : World) (h1 : 1 ≤ k) (h2 : k ≤ 16) : Calls Tryz.prog 116 #[.int .i64 k] w fun e w' => e = .returned (.bool true) ∧ w = w' := by
  go_enter Tryz.func116, Tryz.ntmps116
  go_wp2
  go_ret
  exact ⟨ret_bool (by simp <;> omega), rfl⟩
theorem dmay_not (k : Int) (w : World) (h : k < 1 ∨ 16 < k) : Calls Tryz.prog 116 #[.int .i64 k] w fun e w' => e = .returned (.bool false) ∧ w = w' := by
  rcases h with h | h
  · go_enter Tryz.func116, Tryz.ntmps116
    go_wp2
    go_ret
    exact ⟨ret_bool (by first | rfl | simp <;> omega), rfl⟩
  · go_enter Tryz.func116, Tryz.ntmps116
    go_wp2
    go_ret
    exact ⟨ret_bool (by first | rfl | simp <;> omega), rfl⟩
theorem least_ok (k n : Nat) (w : World) (hk : 1 ≤ k) (hk2 : k ≤ 16) (hn : n < 1000) : Calls Tryz.prog 117 #[.int .i64 k, .int .i64 n] w fun e w' => e = .returned (.int .i64 (deg k n)) ∧ w = w' := by
  go_enter Tryz.func117, Tryz.ntmps117
  go_wp2
  go_loop [5] (fun i => ∃ d : Nat, 1 ≤ d ∧ d ≤ k ∧ i = .int .i64 d ∧ deg k n = degF k n (k - d) d) (fun i => k - (intOf i).toNat)
  case atStart => exact ⟨1, Nat.le_refl _, hk, rfl, rfl⟩
  case round =>
    obtain ⟨d, hd1, hd2, rfl, he⟩ := hrel
    have HE := hide he
    clear he
    by_cases hlt : d < k
    · obtain ⟨⟨a0, a1⟩, ⟨b0, b1⟩, c0, c1⟩ := prods (d := d) hk2 hn hd1 (by omega)
      by_cases hu : Under k n d
      · have HS := hide (degF_stop hlt hu)
        unfold Under at hu
        go_wp2
        go_ret
        exact ⟨ret_int (by rw [HE.out, HS.out]), rfl⟩
      · have HS := hide (degF_on hlt hu)
        unfold Under at hu
        go_wp2
        go_round
        case rel => exact ⟨d + 1, by omega, by omega, by go_num, by rw [HE.out, HS.out]⟩
        case measure => simp [intOf]; omega
    · obtain rfl : d = k := by omega
      go_wp2
      go_ret
      exact ⟨ret_int (by rw [HE.out, degF_end]), rfl⟩

theorem of_ok (k n : Nat) (w : World) (hk : 1 ≤ k) (hk2 : k ≤ 16) (hn : n < 1000) : Calls Tryz.prog 64 #[.int .i64 k, .int .i64 n] w fun e w' => e = .returned (.tuple #[.int .i64 (deg k n), .nilIface]) ∧ w = w' := by
  have M := hide (dmay_ok k w (by omega) (by omega))
  have L := hide (least_ok k n w hk hk2 hn)
  have h0 : ¬ (n : Int) < 0 := by omega
  have h1 : ¬ 1000 ≤ (n : Int) := by omega
  go_enter Tryz.func64, Tryz.ntmps64
  go_wp2_with fail
  refine (M.out).mono ?_
  rintro e w1 ⟨rfl, rfl⟩
  go_wp2_with fail
  refine (L.out).mono ?_
  rintro e w1 ⟨rfl, rfl⟩
  go_wp2
  go_ret2
  exact ⟨rfl, rfl⟩
theorem of_range (k n : Int) (w : World) (h : (k < 1 ∨ 16 < k) ∨ n < 0 ∨ 1000 ≤ n) : Calls Tryz.prog 64 #[.int .i64 k, .int .i64 n] w fun e w' => e = .returned (.tuple #[.int .i64 0, .iface 61 (.int .i64 1)]) ∧ w = w' := by
  by_cases hk : k < 1 ∨ 16 < k
  · have M := hide (dmay_not k w hk)
    clear h hk
    go_enter Tryz.func64, Tryz.ntmps64
    go_wp2_with fail
    refine (M.out).mono ?_
    rintro e w1 ⟨rfl, rfl⟩
    go_wp2
    go_ret2
    exact ⟨rfl, rfl⟩
  · have M := hide (dmay_ok k w (by omega) (by omega))
    by_cases hn : n < 0
    · clear h hk
      go_enter Tryz.func64, Tryz.ntmps64
      go_wp2_with fail
      refine (M.out).mono ?_
      rintro e w1 ⟨rfl, rfl⟩
      go_wp2
      go_ret2
      exact ⟨rfl, rfl⟩
    · have hn2 : 1000 ≤ n := by omega
      clear h hk
      go_enter Tryz.func64, Tryz.ntmps64
      go_wp2_with fail
      refine (M.out).mono ?_
      rintro e w1 ⟨rfl, rfl⟩
      go_wp2
      go_ret2
      exact ⟨rfl, rfl⟩
end Go.Proofs.YtjhflcgphejddaaGreatDoor

namespace Go.Proofs.YtjhflcgphejddaaGreatDoor
set_option linter.unusedVariables false
set_option maxRecDepth 100000

/-- As many holes as pigeons, no two in one: none is empty. -/
theorem php : ∀ (n : Nat) (f : Nat → Nat), (∀ i, i < n → f i < n) → (∀ i j, i < n → j < n → f i = f j → i = j) → ∀ y, y < n → ∃ i, i < n ∧ f i = y
  | 0, _, _, _, y, h => absurd h (Nat.not_lt_zero _)
  | n + 1, f, hf, hi, y, hy => by
    have ha := hf n (by omega)
    have g1 : ∀ i, i < n → (if f i = n then f n else f i) < n := fun i h => by
      have h1 := hf i (by omega)
      split
      · rename_i h2
        have : f n ≠ n := fun h3 => by have := hi i n (by omega) (by omega) (h2.trans h3.symm); omega
        omega
      · omega
    have g2 : ∀ i j, i < n → j < n → (if f i = n then f n else f i) = (if f j = n then f n else f j) → i = j := fun i j h1 h2 h => by
      by_cases c1 : f i = n
      · by_cases c2 : f j = n
        · exact hi i j (by omega) (by omega) (c1.trans c2.symm)
        · rw [if_pos c1, if_neg c2] at h
          have := hi n j (by omega) (by omega) h; omega
      · by_cases c2 : f j = n
        · rw [if_neg c1, if_pos c2] at h
          have := hi i n (by omega) (by omega) h; omega
        · rw [if_neg c1, if_neg c2] at h
          exact hi i j (by omega) (by omega) h
    have ih := php n (fun i => if f i = n then f n else f i) g1 g2
    by_cases c : y = f n
    · exact ⟨n, by omega, c.symm⟩
    · by_cases c2 : y = n
      · obtain ⟨i, h1, h2⟩ := ih (f n) (by omega)
        refine ⟨i, by omega, ?_⟩
        by_cases c3 : f i = n
        · omega
        · simp only [if_neg c3] at h2
          have := hi i n (by omega) (by omega) h2; omega
      · obtain ⟨i, h1, h2⟩ := ih y (by omega)
        refine ⟨i, by omega, ?_⟩
        by_cases c3 : f i = n
        · simp only [if_pos c3] at h2; omega
        · simpa only [if_neg c3] using h2

theorem rowV_add (x : Int) (i : Nat) : ∀ j, rowV x (i + j) = rowV (rowV x i) j
  | 0 => rfl
  | j + 1 => by show nxt (rowV x (i + j)) = nxt (rowV (rowV x i) j); rw [rowV_add x i j]
theorem nxt_inj {x y : Int} (hx : Num x) (hy : Num y) (h : nxt x = nxt y) : x = y := by
  have h1 := nxt_back hx
  have h2 := nxt_back hy
  rw [h, h2] at h1
  exact h1.symm
theorem rowV_inj {x y : Int} (hx : Num x) (hy : Num y) : ∀ i, rowV x i = rowV y i → x = y
  | 0, h => h
  | i + 1, h => rowV_inj hx hy i (nxt_inj (hx.rowV i) (hy.rowV i) h)
theorem num_one : Num 1 := ⟨by decide, by decide⟩
/-- A row of 1 that has come back to 1. -/
def Per (m : Nat) : Prop := rowV 1 m = 1
theorem Per.sub {m n : Nat} (h1 : Per m) (h2 : Per n) (h : m ≤ n) : Per (n - m) := by
  have h3 := rowV_add 1 m (n - m)
  rw [show m + (n - m) = n by omega, h1] at h3
  exact h3.symm.trans h2
theorem Per.mod {m : Nat} (h1 : Per m) (h0 : 0 < m) : ∀ (n : Nat), Per n → Per (n % m) := fun n => by
  induction n using Nat.strongRecOn with
  | _ n ih =>
    intro h2
    by_cases h : n < m
    · rw [Nat.mod_eq_of_lt h]; exact h2
    · rw [Nat.mod_eq_sub_mod (by omega)]
      exact ih (n - m) (by omega) (h1.sub h2 (by omega))
theorem Per.gcd : ∀ (m n : Nat), Per m → Per n → Per (Nat.gcd m n) := fun m => by
  induction m using Nat.strongRecOn with
  | _ m ih =>
    intro n h1 h2
    rcases Nat.eq_zero_or_pos m with rfl | h0
    · rw [Nat.gcd_zero_left]; exact h2
    · rw [Nat.gcd_rec]
      exact ih (n % m) (Nat.mod_lt _ h0) m (h1.mod h0 n h2) h1
theorem Per.mul {m : Nat} (h : Per m) : ∀ c, Per (m * c)
  | 0 => rfl
  | c + 1 => by
    show rowV 1 (m * c + m) = 1
    rw [rowV_add, Per.mul h c]; exact h

theorem rowV_mul {x : Int} (hx : Num x) : ∀ j, rowV x j = x * rowV 1 j % 2147483647
  | 0 => by
    obtain ⟨h1, h2⟩ := hx
    show x = x * 1 % 2147483647
    omega
  | j + 1 => by
    show nxt (rowV x j) = x * nxt (rowV 1 j) % 2147483647
    rw [rowV_mul hx j]
    unfold nxt
    have e1 : 16807 * rowV 1 j % 2147483647 = 16807 * rowV 1 j - 2147483647 * (16807 * rowV 1 j / 2147483647) := by omega
    rw [e1, Int.mul_sub, Int.mul_left_comm x 16807, Int.mul_left_comm x 2147483647]
    generalize x * rowV 1 j = a
    generalize x * (16807 * rowV 1 j / 2147483647) = b
    omega
theorem rowV_both (i j : Nat) : rowV 1 (i + j) = rowV 1 i * rowV 1 j % 2147483647 := by
  rw [rowV_add, rowV_mul (num_one.rowV i)]
/-- The n-th number behind 1, by squares. -/
def pm : Nat → Nat → Nat
  | 0, _ => 1
  | f + 1, n => if n % 2 = 0 then pm f (n / 2) * pm f (n / 2) % 2147483647 else 16807 * (pm f (n / 2) * pm f (n / 2) % 2147483647) % 2147483647
theorem pm_right : ∀ f n, n < 2 ^ f → rowV 1 n = (pm f n : Int)
  | 0, n, h => by
    obtain rfl : n = 0 := by simpa using h
    rfl
  | f + 1, n, h => by
    have ih := pm_right f (n / 2) (by rw [Nat.pow_succ] at h; omega)
    have hs : rowV 1 (n / 2 + n / 2) = ((pm f (n / 2) * pm f (n / 2) % 2147483647 : Nat) : Int) := by
      rw [rowV_both, ih]; simp
    unfold pm
    by_cases h2 : n % 2 = 0
    · rw [if_pos h2, ← hs, show n / 2 + n / 2 = n by omega]
    · have e : rowV 1 n = nxt (rowV 1 (n / 2 + n / 2)) := by
        show _ = rowV 1 (n / 2 + n / 2 + 1)
        rw [show n / 2 + n / 2 + 1 = n by omega]
      rw [if_neg h2, e, hs]
      unfold nxt
      omega
theorem per_all : Per 2147483646 := by
  unfold Per
  rw [pm_right 31 2147483646 (by decide), show pm 31 2147483646 = 1 by decide +kernel]; rfl
theorem per_not {m : Nat} (h : m < 2 ^ 31) (hp : pm 31 m ≠ 1) : ¬ Per m := fun h1 => by
  unfold Per at h1
  rw [pm_right 31 m h] at h1
  omega
theorem prime_cop {q c : Nat} (hq : ∀ d, d < q + 1 → d ∣ q → d = 1 ∨ d = q) (h : ¬ q ∣ c) (h0 : 0 < q) : Nat.Coprime c q := by
  have h1 : Nat.gcd c q ∣ q := Nat.gcd_dvd_right c q
  rcases hq _ (Nat.lt_succ_of_le (Nat.le_of_dvd h0 h1)) h1 with h2 | h2
  · exact h2
  · exact absurd (h2 ▸ Nat.gcd_dvd_left c q) h
/-- A part of 2147483646 that is not 1 has one of its primes. -/
theorem has_prime {c : Nat} (h : c ∣ 2147483646) (h1 : c ≠ 1) : 2 ∣ c ∨ 3 ∣ c ∨ 7 ∣ c ∨ 11 ∣ c ∨ 31 ∣ c ∨ 151 ∣ c ∨ 331 ∣ c := by
  by_cases p2 : 2 ∣ c; · exact Or.inl p2
  by_cases p3 : 3 ∣ c; · exact Or.inr (Or.inl p3)
  by_cases p7 : 7 ∣ c; · exact Or.inr (Or.inr (Or.inl p7))
  by_cases p11 : 11 ∣ c; · exact Or.inr (Or.inr (Or.inr (Or.inl p11)))
  by_cases p31 : 31 ∣ c; · exact Or.inr (Or.inr (Or.inr (Or.inr (Or.inl p31))))
  by_cases p151 : 151 ∣ c; · exact Or.inr (Or.inr (Or.inr (Or.inr (Or.inr (Or.inl p151)))))
  by_cases p331 : 331 ∣ c; · exact Or.inr (Or.inr (Or.inr (Or.inr (Or.inr (Or.inr p331)))))
  have k2 := prime_cop (q := 2) (by decide +kernel) p2 (by decide)
  have k3 := prime_cop (q := 3) (by decide +kernel) p3 (by decide)
  have k7 := prime_cop (q := 7) (by decide +kernel) p7 (by decide)
  have k11 := prime_cop (q := 11) (by decide +kernel) p11 (by decide)
  have k31 := prime_cop (q := 31) (by decide +kernel) p31 (by decide)
  have k151 := prime_cop (q := 151) (by decide +kernel) p151 (by decide)
  have k331 := prime_cop (q := 331) (by decide +kernel) p331 (by decide)
  have s1 : c ∣ 2 * 1073741823 := h
  have s2 : c ∣ 3 * 357913941 := k2.dvd_of_dvd_mul_left s1
  have s3 : c ∣ 3 * 119304647 := k3.dvd_of_dvd_mul_left s2
  have s4 : c ∣ 7 * 17043521 := k3.dvd_of_dvd_mul_left s3
  have s5 : c ∣ 11 * 1549411 := k7.dvd_of_dvd_mul_left s4
  have s6 : c ∣ 31 * 49981 := k11.dvd_of_dvd_mul_left s5
  have s7 : c ∣ 151 * 331 := k31.dvd_of_dvd_mul_left s6
  have s8 : c ∣ 331 * 1 := k151.dvd_of_dvd_mul_left s7
  have s9 : c ∣ 1 := k331.dvd_of_dvd_mul_left s8
  exact absurd (Nat.dvd_one.1 s9) h1
theorem per_least {m : Nat} (h0 : 0 < m) (h1 : m < 2147483646) : ¬ Per m := fun h => by
  have hg := Per.gcd m 2147483646 h per_all
  have hd : Nat.gcd m 2147483646 ∣ 2147483646 := Nat.gcd_dvd_right _ _
  have hl : Nat.gcd m 2147483646 ≤ m := Nat.gcd_le_left _ h0
  obtain ⟨c, hc⟩ := hd
  generalize Nat.gcd m 2147483646 = g at *
  have c1 : c ≠ 1 := fun h => by rw [h] at hc; omega
  have key : ∀ q, q ∣ c → Per (2147483646 / q) := fun q ⟨d, hd⟩ => by
    have hq : 0 < q := Nat.pos_of_ne_zero fun h => by rw [h, Nat.zero_mul] at hd; rw [hd] at hc; omega
    have e : 2147483646 / q = g * d := by
      rw [hc, hd, Nat.mul_left_comm, Nat.mul_div_cancel_left _ hq]
    rw [e]; exact hg.mul d
  rcases has_prime ⟨g, by rw [Nat.mul_comm]; exact hc⟩ c1 with h | h | h | h | h | h | h
  · exact per_not (m := 2147483646 / 2) (by decide) (by decide +kernel) (key 2 h)
  · exact per_not (m := 2147483646 / 3) (by decide) (by decide +kernel) (key 3 h)
  · exact per_not (m := 2147483646 / 7) (by decide) (by decide +kernel) (key 7 h)
  · exact per_not (m := 2147483646 / 11) (by decide) (by decide +kernel) (key 11 h)
  · exact per_not (m := 2147483646 / 31) (by decide) (by decide +kernel) (key 31 h)
  · exact per_not (m := 2147483646 / 151) (by decide) (by decide +kernel) (key 151 h)
  · exact per_not (m := 2147483646 / 331) (by decide) (by decide +kernel) (key 331 h)
/-- Every number is behind 1. -/
theorem from_one {y : Int} (hy : Num y) : ∃ i, i < 2147483646 ∧ rowV 1 i = y := by
  have hn : ∀ i, 1 ≤ rowV 1 i ∧ rowV 1 i ≤ 2147483646 := fun i => num_one.rowV i
  have inj : ∀ i j, i < j → j < 2147483646 → rowV 1 i ≠ rowV 1 j := fun i j h1 h2 h => by
    have e : rowV 1 j = rowV (rowV 1 (j - i)) i := by rw [← rowV_add, show j - i + i = j by omega]
    rw [e] at h
    exact per_least (m := j - i) (by omega) (by omega) (rowV_inj num_one (num_one.rowV _) i h).symm
  obtain ⟨h1, h2⟩ := hy
  obtain ⟨i, hi, he⟩ := php 2147483646 (fun i => (rowV 1 i - 1).toNat) (fun i _ => by have := hn i; omega) (fun i j hi hj h => by
    have a := hn i
    have b := hn j
    rcases Nat.lt_trichotomy i j with c | c | c
    · exact absurd (by omega) (inj i j c hj)
    · exact c
    · exact absurd (by omega) (inj j i c hi)) (y - 1).toNat (by omega)
  refine ⟨i, hi, ?_⟩
  have := hn i
  omega
/-- Every number is behind every number. -/
theorem from_all {x y : Int} (hx : Num x) (hy : Num y) : ∃ m, 1 ≤ m ∧ rowV x m = y := by
  obtain ⟨i, hi, rfl⟩ := from_one hx
  obtain ⟨j, hj, rfl⟩ := from_one hy
  refine ⟨2147483646 + j - i, by omega, ?_⟩
  rw [← rowV_add, show i + (2147483646 + j - i) = 2147483646 + j by omega, rowV_add, show rowV 1 2147483646 = 1 from per_all]
/-- Every rest is left, and all of them soon enough. -/
theorem rest_all {x : Int} (hx : Num x) {k : Nat} (hk : 1 ≤ k) (hk2 : k ≤ 1000) : ∀ n, n ≤ k → ∃ T, ∀ r : Nat, r < n → ∃ m, 1 ≤ m ∧ m ≤ T ∧ rowV x m % (k : Int) = r
  | 0, _ => ⟨0, fun r h => absurd h (Nat.not_lt_zero _)⟩
  | n + 1, h => by
    obtain ⟨T, hT⟩ := rest_all hx hk hk2 n (by omega)
    obtain ⟨m, h1, h2⟩ := from_all hx (y := if n = 0 then (k : Int) else n) (by unfold Num; split <;> omega)
    have h3 : rowV x m % (k : Int) = n := by
      rw [h2]
      split
      · rename_i h0; subst h0; simp
      · exact Int.emod_eq_of_lt (by omega) (by omega)
    refine ⟨T + m, fun r hr => ?_⟩
    by_cases c : r = n
    · exact ⟨m, h1, by omega, by rw [c]; exact h3⟩
    · obtain ⟨m', a, b, d⟩ := hT r (by omega)
      exact ⟨m', a, by omega, d⟩
end Go.Proofs.YtjhflcgphejddaaGreatDoor

namespace Go.Proofs.YtjhflcgphejddaaGreatDoor
set_option linter.unusedVariables false
set_option maxRecDepth 100000

/-- Whether the first i numbers behind x leave the rest r. -/
def seen (k : Nat) (x : Int) : Nat → Nat → Bool
  | 0, _ => false
  | i + 1, r => seen k x i r || decide (rowV x (i + 1) % (k : Int) = (r : Int))
theorem seen_of {k : Nat} {x : Int} {m r : Nat} (h1 : 1 ≤ m) (hr : rowV x m % (k : Int) = (r : Int)) : ∀ i, m ≤ i → seen k x i r = true
  | 0, h => absurd h (by omega)
  | i + 1, h => by
    unfold seen
    by_cases c : m = i + 1
    · subst c; simp [hr]
    · rw [seen_of h1 hr i (by omega)]; rfl
/-- The rests that the first i numbers behind x leave, rising. -/
def setAt (k : Nat) (x : Int) (i : Nat) : List Nat := (List.range k).filter (seen k x i)
theorem setAt_zero (k : Nat) (x : Int) : setAt k x 0 = [] := List.filter_eq_nil_iff.2 fun _ _ => by simp [seen]
theorem mem_setAt {k : Nat} {x : Int} {i r : Nat} : r ∈ setAt k x i ↔ r < k ∧ seen k x i r = true := by simp [setAt]
theorem setAt_len (k : Nat) (x : Int) (i : Nat) : (setAt k x i).length ≤ k := Nat.le_trans (List.length_filter_le _ _) (by simp)
theorem filter_ins (p : Nat → Bool) (r : Nat) (hp : p r = false) : ∀ k, r < k → ∃ B, (List.range k).filter p = (List.range r).filter p ++ B ∧ (List.range k).filter (fun a => p a || decide (r = a)) = (List.range r).filter p ++ r :: B ∧ ∀ b ∈ B, r < b
  | 0, h => absurd h (Nat.not_lt_zero _)
  | k + 1, h => by
    by_cases c : r = k
    · subst c
      refine ⟨[], ?_, ?_, fun b hb => by cases hb⟩
      · rw [List.range_succ, List.filter_append]; simp [hp]
      · rw [List.range_succ, List.filter_append]
        have : (List.range r).filter (fun a => p a || decide (r = a)) = (List.range r).filter p := List.filter_congr fun a ha => by
          have : r ≠ a := by have := List.mem_range.1 ha; omega
          simp [this]
        rw [this]; simp
    · obtain ⟨B, h1, h2, h3⟩ := filter_ins p r hp k (by omega)
      refine ⟨B ++ [k].filter p, ?_, ?_, fun b hb => ?_⟩
      · rw [List.range_succ, List.filter_append, h1, List.append_assoc]
      · rw [List.range_succ, List.filter_append, h2, List.append_assoc]
        simp [List.filter_cons, c]
      · rcases List.mem_append.1 hb with hb | hb
        · exact h3 b hb
        · have := List.mem_singleton.1 (List.mem_filter.1 hb).1; omega
/-- The rest that the number i + 1 behind x leaves. -/
def draw (k : Nat) (x : Int) (i : Nat) : Nat := (rowV x (i + 1) % (k : Int)).toNat
theorem draw_cast {k : Nat} {x : Int} (hx : Num x) (hk : 1 ≤ k) (i : Nat) : rowV x (i + 1) % (k : Int) = (draw k x i : Int) := by
  have h := Int.emod_nonneg (rowV x (i + 1)) (show (k : Int) ≠ 0 by omega)
  unfold draw; omega
theorem draw_lt {k : Nat} {x : Int} (hk : 1 ≤ k) (i : Nat) : draw k x i < k := by
  have h := Int.emod_lt_of_pos (rowV x (i + 1)) (show 0 < (k : Int) by omega)
  have h2 := Int.emod_nonneg (rowV x (i + 1)) (show (k : Int) ≠ 0 by omega)
  unfold draw; omega
theorem seen_succ {k : Nat} {x : Int} (hx : Num x) (hk : 1 ≤ k) (i r : Nat) : seen k x (i + 1) r = (seen k x i r || decide (draw k x i = r)) := by
  show (seen k x i r || decide (rowV x (i + 1) % (k : Int) = (r : Int))) = _
  rw [draw_cast hx hk]
  congr 1
  exact decide_eq_decide.2 (by omega)
/-- A rest that was left before makes nothing new. -/
theorem setAt_old {k : Nat} {x : Int} (hx : Num x) (hk : 1 ≤ k) {i : Nat} (h : draw k x i ∈ setAt k x i) : setAt k x (i + 1) = setAt k x i := by
  have hs := (mem_setAt.1 h).2
  refine List.filter_congr fun a _ => ?_
  rw [seen_succ hx hk]
  by_cases c : draw k x i = a
  · subst c; simp [hs]
  · simp [c]
/-- A rest that was not left before is put in its place. -/
theorem setAt_new {k : Nat} {x : Int} (hx : Num x) (hk : 1 ≤ k) {i : Nat} (h : draw k x i ∉ setAt k x i) :
    ∃ A B, setAt k x i = A ++ B ∧ setAt k x (i + 1) = A ++ draw k x i :: B ∧ (∀ a ∈ A, a < draw k x i) ∧ ∀ b ∈ B, draw k x i < b := by
  have hd := draw_lt (x := x) hk i
  have hs : seen k x i (draw k x i) = false := by
    cases e : seen k x i (draw k x i) with
    | false => rfl
    | true => exact absurd (mem_setAt.2 ⟨hd, e⟩) h
  obtain ⟨B, h1, h2, h3⟩ := filter_ins (seen k x i) (draw k x i) hs k hd
  refine ⟨(List.range (draw k x i)).filter (seen k x i), B, h1, ?_, fun a ha => List.mem_range.1 (List.mem_filter.1 ha).1, h3⟩
  rw [← h2]
  exact List.filter_congr fun a _ => seen_succ hx hk i a
theorem setAt_grows {k : Nat} {x : Int} (hx : Num x) (hk : 1 ≤ k) (i : Nat) : (setAt k x (i + 1)).length ≤ (setAt k x i).length + 1 ∧ (setAt k x i).length ≤ (setAt k x (i + 1)).length := by
  by_cases h : draw k x i ∈ setAt k x i
  · rw [setAt_old hx hk h]; omega
  · obtain ⟨A, B, h1, h2, _⟩ := setAt_new hx hk h
    rw [h1, h2]; simp; omega
/-- All rests are there soon enough. -/
theorem setAt_all {k : Nat} {x : Int} (hx : Num x) (hk : 1 ≤ k) (hk2 : k ≤ 1000) : ∃ T, ∀ i, T ≤ i → (setAt k x i).length = k := by
  obtain ⟨T, hT⟩ := rest_all hx hk hk2 k (Nat.le_refl _)
  refine ⟨T, fun i hi => ?_⟩
  have : setAt k x i = List.range k := List.filter_eq_self.2 fun r hr => by
    obtain ⟨m, h1, h2, h3⟩ := hT r (List.mem_range.1 hr)
    exact seen_of h1 h3 i (by omega)
  rw [this, List.length_range]
/-- There are enough, and there were not before. -/
def Stop (k : Nat) (x : Int) (d i : Nat) : Prop := (setAt k x i).length = d ∧ ∀ j, j < i → (setAt k x j).length < d
theorem Stop.same {k : Nat} {x : Int} {d i j : Nat} (h1 : Stop k x d i) (h2 : Stop k x d j) : i = j := by
  rcases Nat.lt_trichotomy i j with c | c | c
  · have := h2.2 i c; have := h1.1; omega
  · exact c
  · have := h1.2 j c; have := h2.1; omega
theorem stop_some {k : Nat} {x : Int} (hx : Num x) (hk : 1 ≤ k) (hk2 : k ≤ 1000) {d : Nat} (hd : d ≤ k) : ∃ i, Stop k x d i := by
  obtain ⟨T, hT⟩ := setAt_all hx hk hk2
  have h0 : (setAt k x 0).length = 0 := by rw [setAt_zero]; rfl
  have hTk := hT T (Nat.le_refl _)
  rcases Nat.eq_zero_or_pos d with rfl | hd0
  · exact ⟨0, h0, fun j h => absurd h (Nat.not_lt_zero _)⟩
  · have key : ∀ n, n ≤ T → (∀ j, j < n → (setAt k x j).length < d) ∨ ∃ i, Stop k x d i := fun n => by
      induction n with
      | zero => exact fun _ => Or.inl fun j h => absurd h (Nat.not_lt_zero _)
      | succ n ih =>
        intro hn
        rcases ih (by omega) with h | h
        · by_cases c : (setAt k x n).length < d
          · exact Or.inl fun j hj => by
              by_cases e : j = n
              · subst e; exact c
              · exact h j (by omega)
          · refine Or.inr ⟨n, ?_, h⟩
            rcases Nat.eq_zero_or_pos n with rfl | hn0
            · omega
            · obtain ⟨m, rfl⟩ : ∃ m, n = m + 1 := ⟨n - 1, by omega⟩
              have := h m (by omega)
              have := (setAt_grows hx hk m).1
              omega
        · exact Or.inr h
    rcases key T (Nat.le_refl _) with h | h
    · by_cases c : (setAt k x T).length < d
      · omega
      · refine ⟨T, ?_, h⟩
        rcases Nat.eq_zero_or_pos T with e | hn0
        · rw [e] at hTk; omega
        · obtain ⟨m, hm⟩ : ∃ m, T = m + 1 := ⟨T - 1, by omega⟩
          have h5 := h m (by omega)
          have h6 := (setAt_grows hx hk m).1
          rw [hm] at c ⊢
          omega
    · exact h

/-- Of how many a drop of the seed is. -/
def setD (k seed : Nat) : Nat := deg k (nxt seed % 1000).toNat
open Classical in
/-- The set of a seed. -/
noncomputable def setL (k seed : Nat) : List Nat := if seed ≤ k then [seed - 1] else setAt k (nxt seed) (epsilon (Stop k (nxt seed) (setD k seed)))
theorem setL_one {k seed : Nat} (h : seed ≤ k) : setL k seed = [seed - 1] := if_pos h
theorem setL_stop {k seed i : Nat} (h : ¬ seed ≤ k) (hs : Stop k (nxt seed) (setD k seed) i) : setL k seed = setAt k (nxt seed) i := by
  unfold setL
  rw [if_neg h, (Classical.epsilon_spec ⟨i, hs⟩ : Stop k (nxt seed) (setD k seed) _).same hs]
theorem setL_len {k seed : Nat} (hk : 1 ≤ k) (hk2 : k ≤ 16) (h1 : 1 ≤ seed) (h2 : seed ≤ 10000) : 1 ≤ (setL k seed).length ∧ (setL k seed).length ≤ k := by
  by_cases h : seed ≤ k
  · rw [setL_one h]; simp; omega
  · obtain ⟨i, hs⟩ := stop_some (x := nxt seed) (Num.nxt ⟨by omega, by omega⟩) hk (by omega) (deg_le k (nxt seed % 1000).toNat hk)
    rw [setL_stop h hs, hs.1]
    exact ⟨deg_ge _ _, deg_le _ _ hk⟩
theorem setL_lt {k seed : Nat} (hk : 1 ≤ k) (h1 : 1 ≤ seed) {r : Nat} (hr : r ∈ setL k seed) : r < k := by
  by_cases h : seed ≤ k
  · rw [setL_one h] at hr; have := List.mem_singleton.1 hr; omega
  · unfold setL at hr
    rw [if_neg h] at hr
    exact (mem_setAt.1 hr).1
theorem setL_rise (k seed : Nat) : (setL k seed).Pairwise (· < ·) := by
  by_cases h : seed ≤ k
  · rw [setL_one h]; simp
  · unfold setL
    rw [if_neg h]
    exact List.Pairwise.filter _ List.pairwise_lt_range
end Go.Proofs.YtjhflcgphejddaaGreatDoor

namespace Go.Proofs.YtjhflcgphejddaaGreatDoor
open Go.RowKit Go.Maps
set_option linter.unusedVariables false
set_option maxRecDepth 100000

theorem Tryz.lawInt : Keyed Tryz.prog 3 := int_keyed Tryz.underlying3
theorem Tryz.zeroUnit (w : World) : (zeroValue 179).run Tryz.prog w = .ok (.agg #[]) w := by kernel_rfl
theorem run_makeMap_some {P : Program} {t k e : TypeId} (ht : P.underlying t = some (.map k e)) (q : IntKind) (n : Int) (w : World) : (Instr.makeMap t (some (.int q n))).run P w = .ok (.map (some w.heap.size)) (w.alloc (.map #[] 0)) := by
  simp [Instr.makeMap, run_underlying ht, asInt, asIntOf, Result.andThen]
theorem tight {P : Program} {t : TypeId} {w : World} {b n : Nat} {D : DataW Unit} (h : w.ownsMap P t unitElem b n D) : w.ownsMap P t unitElem b (Maps.size D) D := by
  obtain ⟨es, clock, hb, F, hs, rfl⟩ := h
  exact ⟨es, clock, hb, F, by simp [Maps.size, length_sorted], rfl⟩

/-- The map of block b holds just the numbers of the list l, each once, as the datum D. -/
def MSet (w : World) (b : Nat) (l : List Nat) (D : DataW Unit) : Prop :=
  w.ownsMap Tryz.prog 3 unitElem b l.length D ∧ Maps.size D = l.length ∧ ∀ r : Nat, Maps.has D (.int .i64 r) = decide (r ∈ l)
theorem mset_made (w : World) : MSet (w.alloc (.map #[] 0)) w.heap.size [] (.map []) := ⟨World.ownsMap_made _ _ _ _, rfl, fun r => by simp [Maps.has]⟩
theorem MSet.put {w w' : World} {b : Nat} {l l' : List Nat} {D : DataW Unit} {r : Nat} (h : MSet w b l D) (h' : w'.ownsMap Tryz.prog 3 unitElem b (l.length + 1) (D.put (.int .i64 r) (.agg [])))
    (hm : ∀ a, a ∈ l' ↔ a = r ∨ a ∈ l) (hl : l'.length = if r ∈ l then l.length else l.length + 1) : MSet w' b l' (D.put (.int .i64 r) (.agg [])) := by
  obtain ⟨ho, hs, hh⟩ := h
  have hz : Maps.size (D.put (.int .i64 r) (.agg [])) = l'.length := by
    rw [Maps.size_put (ho.tidy Tryz.lawInt), hh r, hs, hl]
    by_cases c : r ∈ l <;> simp [c]
  refine ⟨hz ▸ tight h', hz, fun a => ?_⟩
  by_cases c : a = r
  · subst c
    rw [Maps.has_put_same (k := .int .i64 (a : Int)) ho.isMap trivial]
    exact (decide_eq_true ((hm a).2 (Or.inl rfl))).symm
  · rw [Maps.has_put_other (fun e => c (by injection e with _ e; omega)), hh a]
    exact decide_eq_decide.2 ⟨fun h => (hm a).2 (Or.inr h), fun h => ((hm a).1 h).resolve_left c⟩
theorem MSet.kept {w w' : World} {b : Nat} {l : List Nat} {D : DataW Unit} (h : MSet w b l D) {row : Option Nat} (hg : w.grownBy w' row) (hne : some b ≠ row) : MSet w' b l D := ⟨h.1.kept hg hne, h.2⟩
theorem MSet.alloc {w : World} {b : Nat} {l : List Nat} {D : DataW Unit} (h : MSet w b l D) (o : Obj) : MSet (w.alloc o) b l D := ⟨h.1.alloc o, h.2⟩
theorem MSet.congr {w : World} {b : Nat} {l l' : List Nat} {D : DataW Unit} (h : MSet w b l D) (e : l = l') : MSet w b l' D := e ▸ h
end Go.Proofs.YtjhflcgphejddaaGreatDoor

namespace Go.Proofs.YtjhflcgphejddaaGreatDoor
open Go.RowKit Go.Maps
set_option linter.unusedVariables false
set_option maxRecDepth 100000

theorem within_ok (n m : Int) (w : World) (h1 : 1 ≤ n) (h2 : n ≤ m) : Calls Tryz.prog 62 #[.int .i64 n, .int .i64 m] w fun e w' => e = .returned (.bool true) ∧ w = w' := by
  go_enter Tryz.func62, Tryz.ntmps62
  go_wp2
  go_ret
  exact ⟨ret_bool (by simp <;> omega), rfl⟩
theorem within_not (n m : Int) (w : World) (h : n < 1 ∨ m < n) : Calls Tryz.prog 62 #[.int .i64 n, .int .i64 m] w fun e w' => e = .returned (.bool false) ∧ w = w' := by
  by_cases c : n < 1
  · clear h
    go_enter Tryz.func62, Tryz.ntmps62
    go_wp2
    go_ret
    exact ⟨ret_bool (by first | rfl | simp <;> omega), rfl⟩
  · have h2 : m < n := h.resolve_left c
    clear h
    go_enter Tryz.func62, Tryz.ntmps62
    go_wp2
    go_ret
    exact ⟨ret_bool (by first | rfl | simp <;> omega), rfl⟩

theorem mem_step {k : Nat} {x : Int} (hx : Num x) (hk : 1 ≤ k) (i a : Nat) : a ∈ setAt k x (i + 1) ↔ a = draw k x i ∨ a ∈ setAt k x i := by
  rw [mem_setAt, mem_setAt, seen_succ hx hk]
  have := draw_lt (x := x) hk i
  constructor
  · rintro ⟨h1, h2⟩
    rcases Bool.or_eq_true_iff.1 h2 with h | h
    · exact Or.inr ⟨h1, h⟩
    · exact Or.inl (of_decide_eq_true h).symm
  · rintro (rfl | ⟨h1, h2⟩)
    · exact ⟨this, by simp⟩
    · exact ⟨h1, by simp [h2]⟩
theorem len_step {k : Nat} {x : Int} (hx : Num x) (hk : 1 ≤ k) (i : Nat) : (setAt k x (i + 1)).length = if draw k x i ∈ setAt k x i then (setAt k x i).length else (setAt k x i).length + 1 := by
  by_cases h : draw k x i ∈ setAt k x i
  · rw [setAt_old hx hk h, if_pos h]
  · obtain ⟨A, B, h1, h2, _⟩ := setAt_new hx hk h
    rw [if_neg h, h1, h2]; simp; omega
theorem stop_of {k : Nat} {x : Int} (hx : Num x) (hk : 1 ≤ k) {d i : Nat} (h : ¬ (setAt k x i).length < d) (hb : ∀ j, j < i → (setAt k x j).length < d) : Stop k x d i := by
  refine ⟨?_, hb⟩
  rcases Nat.eq_zero_or_pos i with rfl | hi
  · rw [setAt_zero] at h ⊢; simp at h; simp; omega
  · obtain ⟨m, rfl⟩ : ∃ m, i = m + 1 := ⟨i - 1, by omega⟩
    have := hb m (by omega)
    have := (setAt_grows hx hk m).1
    omega

set_option maxHeartbeats 1000000 in
theorem draw_ok (k d : Nat) (x : Int) (w : World) (hx : Num x) (hk : 1 ≤ k) (hk2 : k ≤ 16) (hd : d ≤ k) :
    Calls Tryz.prog 65 #[.int .i64 k, .int .i64 d, .int .i64 x] w fun e w' => e = .returned (.tuple #[.map (some w.heap.size), .nilIface]) ∧ ∃ i, Stop k x d i ∧ (∃ D, MSet w' w.heap.size (setAt k x i) D) ∧ Below w.heap.size w w' := by
  obtain ⟨T, hT⟩ := setAt_all hx hk (by omega)
  have HT := hide hT
  have HX := hide hx
  clear hT hx
  have hmm := fun q n w => run_makeMap_some (P := Tryz.prog) Tryz.underlying114 q n w
  go_enter Tryz.func65, Tryz.ntmps65
  go_wp2
  go_loopg [2] T (fun g v wr => ∃ (i : Nat) (D : DataW Unit), v = .int .i64 (rowV x i) ∧ i + g = T ∧ (∀ j, j < i → (setAt k x j).length < d) ∧ MSet wr w.heap.size (setAt k x i) D ∧ Below w.heap.size w wr)
  case atStart => exact ⟨0, .map [], rfl, by omega, fun j h => absurd h (Nat.not_lt_zero _), (mset_made w).congr (setAt_zero k x).symm, (Below.refl _ _).alloc (Nat.le_refl _) _⟩
  case round =>
    obtain ⟨i, D, rfl, hig, hbef, hM, hb⟩ := hrel
    have HB := hide hbef
    have HM := hide hM
    clear hbef hM
    have hown := HM.out.1
    have hsz : Maps.size D = (setAt k x i).length := HM.out.2.1
    have hle := setAt_len k x i
    obtain ⟨s, hs⟩ : ∃ s, s = (setAt k x i).length := ⟨_, rfl⟩
    have HS := hide hs
    by_cases c : s < d
    · have hiT : i < T := by
        rcases Nat.lt_or_ge i T with h | h
        · exact h
        · have := HT.out i h; omega
      have K : Hid (Calls Tryz.prog 63 #[.int .i64 (rowV x i), .int .i64 k] wr fun e w' => e = .returned (.tuple #[.int .i64 (draw k x i : Nat), .int .i64 (rowV x (i + 1)), .nilIface]) ∧ wr = w') := by
        rw [← draw_cast HX.out hk i]
        exact below_ok (rowV x i) k wr (HX.out.rowV i) (by omega) (by omega)
      have hR := draw_lt (x := x) hk i
      have hkey : keyOf Tryz.prog 3 (.int .i64 (draw k x i : Nat)) = some (.int .i64 (draw k x i : Nat)) := keyOf_int_mk Tryz.underlying3 (WalkArith.wf_i64 (by omega))
      have hsd : (Maps.size D : Int) < (d : Int) := by omega
      rw [← hs] at hle hown
      clear hs hsz
      generalize hr : draw k x i = r at *
      generalize rowV x i = y at *
      generalize hz : rowV x (i + 1) = z at *
      have HR := hide hr
      have HZ := hide hz
      clear hr hz
      go_wp2_with (at_len; refine wpList_len_own _ rfl _ 114 rfl 3 179 Tryz.underlying114 _ w.heap.size s D rfl hown ?_)
      refine (K.out).mono ?_
      rintro e w1 ⟨rfl, rfl⟩
      go_wp2_with (first
        | (at_mapUpdate; refine wpList_mapUpdate_own _ rfl _ _ _ 114 rfl 3 179 Tryz.lawInt Tryz.underlying114 (unitElem (H := Unit)) w.heap.size s _ rfl hown (by unfold maxLen; omega) _ _ _ rfl rfl hkey _ [] unitElem_mk ?_; intro w1 hown1 hgrow1)
        | go_in)
      go_roundg (gk - 1)
      case measure => omega
      case rel =>
        have e1 := HR.out
        have e2 := HS.out
        refine ⟨i + 1, _, by rw [HZ.out], by omega, fun j hj => ?_, HM.out.put (e2 ▸ hown1) (fun a => by rw [mem_step HX.out hk, e1]) (by rw [len_step HX.out hk, e1]), hb.grown hgrow1 hb.size (fun j hj => by cases hj; exact Nat.le_refl _)⟩
        by_cases c2 : j = i
        · subst c2; omega
        · exact HB.out j (by omega)
    · have hst := hide (stop_of HX.out hk (d := d) (i := i) (by omega) HB.out)
      have hsd : ¬ (Maps.size D : Int) < (d : Int) := by omega
      rw [← hs] at hle hown
      clear hs hsz
      generalize rowV x i = y at *
      go_wp2_with (first | (at_len; refine wpList_len_own _ rfl _ 114 rfl 3 179 Tryz.underlying114 _ w.heap.size s D rfl hown ?_) | go_in)
      go_ret2
      exact ⟨rfl, i, hst.out, ⟨D, HM.out⟩, hb⟩

theorem heap_alloc1 (w : World) (o : Obj) : (w.alloc o).heap.size = w.heap.size + 1 := by simp
/-- The numbers below j that the list l has. -/
def upTo (l : List Nat) (j : Nat) : List Nat := (List.range j).filter fun r => decide (r ∈ l)
theorem upTo_succ (l : List Nat) (j : Nat) : upTo l (j + 1) = upTo l j ++ if j ∈ l then [j] else [] := by
  unfold upTo
  rw [List.range_succ, List.filter_append]
  by_cases c : j ∈ l <;> simp [c]
theorem upTo_len (l : List Nat) (j : Nat) : (upTo l j).length ≤ j := Nat.le_trans (List.length_filter_le _ _) (by simp)

set_option maxHeartbeats 1000000 in
theorem rising_ok (k b : Nat) (l : List Nat) (D : DataW Unit) (w : World) (hk : k ≤ 16) (hl : l.length ≤ 16) (hM : MSet w b l D) :
    Calls Tryz.prog 66 #[.int .i64 k, .map (some b)] w fun e w' => ∃ v, e = .returned v ∧ w'.ownsRow w.heap.size 3 1 v (upTo l k).length ((upTo l k).map fun r : Nat => .int .i64 (r : Nat)) ∧ Below w.heap.size w w' := by
  have HM := hide hM
  have hown := hM.1
  have hsz : Maps.size D = l.length := hM.2.1
  have hs16 : Maps.size D ≤ 16 := by omega
  have hbl := hown.lt
  clear hM hsz
  obtain ⟨i0, hi, hz0, hz1, hz2⟩ := info_parts Tryz.infoInt
  go_enter Tryz.func66, Tryz.ntmps66
  go_wp2_with (first
    | (at_len; refine wpList_len_own _ rfl _ 114 rfl 3 179 Tryz.underlying114 _ b l.length D rfl hown ?_)
    | (at_make; refine wpList_make_own _ rfl _ _ 23 rfl w.heap.size 3 i0 (.int .i64 0) 1 Tryz.underlying23 hi hz0 hz1 _ _ _ (Maps.size D) rfl rfl rfl (by rw [hz2]; omega) (by unfold maxLen; omega) (Nat.le_refl _) ?_; intro w1 hmk hgrow))
  go_loopw [5, 13] (fun v i wr => ∃ j : Nat, j ≤ k ∧ i = .int .i64 j ∧ MSet wr b l D ∧ wr.ownsRow w.heap.size 3 1 v (upTo l j).length ((upTo l j).map fun r : Nat => .int .i64 (r : Nat)) ∧ Below w.heap.size w wr) (fun _ i _ => k - (intOf i).toNat)
  case atStart => exact ⟨0, Nat.zero_le _, rfl, HM.out.kept hgrow (by simp), hmk, (Below.refl _ _).grown hgrow (Nat.le_refl _) (fun j hj => by cases hj)⟩
  case round =>
    obtain ⟨j, hj, rfl, hM, hrow, hb⟩ := hrel
    have hown := hM.1
    have hul := upTo_len l j
    have hbs := hb.size
    by_cases hlt : j < k
    · have hkey : keyOf Tryz.prog 3 (.int .i64 (j : Nat)) = some (.int .i64 (j : Nat)) := keyOf_int_mk Tryz.underlying3 (WalkArith.wf_i64 (by omega))
      have hhas := hM.2.2 j
      have HU := hide (upTo_succ l j)
      have HM2 := hide hM
      clear hM
      by_cases c : j ∈ l
      · rw [decide_eq_true c] at hhas
        rw [Hid, if_pos c] at HU
        have HU2 := hide HU
        clear HU c
        go_wp2_with (first
          | (at_lookup; refine wpList_lookup_own_unit _ rfl _ _ 114 rfl 3 179 Tryz.lawInt Tryz.underlying114 (Tryz.zeroUnit _) b l.length _ rfl hown _ _ rfl hkey ?_)
          | (at_builtin; refine wpList_append_own _ rfl _ _ 23 rfl w.heap.size 3 i0 (.int .i64 0) 1 8 Tryz.underlying23 hi hz0 hz1 hz2 rfl (by decide) _ _ _ rfl ((hrow.alloc _).alloc _) ⟨wr.heap.size + 1, 0, none⟩ 1 1 [.int .i64 (j : Nat)] rfl rfl (by have h9 := cell_one_new (wr.alloc (.cells #[] 179)) (.int .i64 (j : Nat)) 3; rw [heap_alloc1] at h9; exact h9) (fun x hx => by simp at hx; subst hx; rfl) (by unfold maxLen; omega) (by omega) (by simp; omega) ?_; intro v' w2 hown' hgrow2 hnil2)
          | go_in)
        have hg2 : ((wr.alloc (.cells #[] 179)).alloc (.cells #[.int .i64 (j : Nat)] 3)).grownBy w2 u5.ownBlock := hgrow2
        refine ⟨⟨j + 1, by omega, by simp, ((HM2.out.alloc _).alloc _).kept hg2 (fun e1 => by have := (hrow.lt b e1.symm).1; omega), ?_, ((hb.alloc hbs _).alloc (by simp; omega) _).grown hg2 (by simp; omega) (fun q hq => (hrow.lt q hq).1)⟩, by simp [intOf]; omega⟩
        rw [HU2.out, List.length_append, List.map_append]
        exact hown'
      · rw [decide_eq_false c] at hhas
        rw [Hid, if_neg c, List.append_nil] at HU
        have HU2 := hide HU
        clear HU c
        go_wp2_with (first
          | (at_lookup; refine wpList_lookup_own_unit _ rfl _ _ 114 rfl 3 179 Tryz.lawInt Tryz.underlying114 (Tryz.zeroUnit _) b l.length _ rfl hown _ _ rfl hkey ?_)
          | go_in)
        refine ⟨⟨j + 1, by omega, by simp, HM2.out.alloc _, ?_, hb.alloc hbs _⟩, by simp [intOf]; omega⟩
        rw [HU2.out]
        exact hrow.alloc _
    · obtain rfl : j = k := by omega
      go_wp2
      go_ret
      exact ⟨_, rfl, hrow, hb⟩

theorem upTo_setAt (k : Nat) (x : Int) (i : Nat) : upTo (setAt k x i) k = setAt k x i := by
  unfold upTo setAt
  refine List.filter_congr fun r hr => ?_
  have h1 : r < k := List.mem_range.1 hr
  have h2 := mem_setAt (k := k) (x := x) (i := i) (r := r)
  unfold setAt at h2
  cases e : seen k x i r with
  | true => exact decide_eq_true (h2.2 ⟨h1, e⟩)
  | false => exact decide_eq_false fun h => by rw [(h2.1 h).2] at e; cases e

set_option maxHeartbeats 1000000 in
theorem set_ok (k seed : Nat) (w : World) (hk : 1 ≤ k) (hk2 : k ≤ 16) (h1 : 1 ≤ seed) (h2 : seed ≤ 10000) :
    Calls Tryz.prog 34 #[.int .i64 k, .int .i64 seed] w fun e w' => ∃ v, e = .returned (.tuple #[v, .nilIface]) ∧ Lst w' v (setL k seed) ∧ Below w.heap.size w w' := by
  have Wk := hide (within_ok k 16 w (by omega) (by omega))
  have Ws := hide (within_ok seed 10000 w (by omega) (by omega))
  by_cases hle : seed ≤ k
  · have HL := hide (setL_one hle)
    have hle' : (seed : Int) ≤ (k : Int) := by omega
    clear hle
    go_enter Tryz.func34, Tryz.ntmps34
    go_wp2_with fail
    refine (Wk.out).mono ?_
    rintro e w1 ⟨rfl, rfl⟩
    go_wp2_with fail
    refine (Ws.out).mono ?_
    rintro e w1 ⟨rfl, rfl⟩
    go_wp2
    go_ret2
    refine ⟨_, rfl, ?_, ?_⟩
    · rw [HL.out]
      refine ⟨_, _, rfl, Nat.le_refl _, by unfold maxLen; simp, fun i hi => ?_⟩
      obtain rfl : i = 0 := by simpa using hi
      have h9 := cell_one_new w (.int .i64 ((seed : Int) - 1)) 3 0 _ rfl
      have e9 : (((seed - 1 : Nat)) : Int) = (seed : Int) - 1 := by omega
      simp only [Addr.add, List.getD_cons_zero, e9] at h9 ⊢
      exact h9
    · exact (Below.refl _ _).alloc (Nat.le_refl _) _
  · have hle' : ¬ (seed : Int) ≤ (k : Int) := by omega
    have hx : Num (seed : Int) := ⟨by omega, by omega⟩
    have B := hide (below_ok seed 1000 w hx (by omega) (by omega))
    obtain ⟨n, hn, hn2⟩ : ∃ n : Nat, nxt seed % 1000 = (n : Int) ∧ n < 1000 := ⟨(nxt seed % 1000).toNat, by omega, by omega⟩
    have HD : Hid (setD k seed = deg k n) := by unfold Hid setD; rw [hn, Int.toNat_natCast]
    rw [hn] at B
    have O := hide (of_ok k n w hk hk2 hn2)
    have hd1 := deg_le k n hk
    have hd0 := deg_ge k n
    have HS : Hid (∀ i, Stop k (nxt seed) (setD k seed) i → setL k seed = setAt k (nxt seed) i) := fun i hs => setL_stop hle hs
    have D := hide (draw_ok k (deg k n) (nxt seed) w hx.nxt hk hk2 hd1)
    clear hn hx hle
    generalize nxt (seed : Int) = y at *
    generalize deg k n = d at *
    go_enter Tryz.func34, Tryz.ntmps34
    go_wp2_with fail
    refine (Wk.out).mono ?_
    rintro e w1 ⟨rfl, rfl⟩
    go_wp2_with fail
    refine (Ws.out).mono ?_
    rintro e w1 ⟨rfl, rfl⟩
    go_wp2_with fail
    refine (B.out).mono ?_
    rintro e w1 ⟨rfl, rfl⟩
    go_wp2_with fail
    refine (O.out).mono ?_
    rintro e w1 ⟨rfl, rfl⟩
    go_wp2_with fail
    refine (D.out).mono ?_
    rintro e w1 ⟨rfl, i, hst, ⟨D1, hM⟩, hb⟩
    have HI := hide hst
    have HB := hide hb
    have hl16 := setAt_len k y i
    have R := hide (rising_ok k w.heap.size (setAt k y i) D1 w1 hk2 (by omega) hM)
    clear hst hb hM
    go_wp2_with fail
    refine (R.out).mono ?_
    rintro e w2 ⟨v, rfl, hrow, hb2⟩
    have HR := hide hrow
    have HB2 := hide hb2
    clear hrow hb2
    go_wp2
    go_ret2
    refine ⟨v, rfl, ?_, below_two HB.out HB2.out⟩
    have hr := HR.out
    rw [upTo_setAt] at hr
    rw [HS.out i (HD.out ▸ HI.out)]
    exact own_lst hr (by rw [HI.out.1]; omega)
theorem set_range (k seed : Int) (w : World) (h : (k < 1 ∨ 16 < k) ∨ seed < 1 ∨ 10000 < seed) :
    Calls Tryz.prog 34 #[.int .i64 k, .int .i64 seed] w fun e w' => e = .returned (.tuple #[.slice none 0 0, .iface 61 (.int .i64 1)]) ∧ w = w' := by
  by_cases hk : k < 1 ∨ 16 < k
  · have Wk := hide (within_not k 16 w hk)
    clear h hk
    go_enter Tryz.func34, Tryz.ntmps34
    go_wp2_with fail
    refine (Wk.out).mono ?_
    rintro e w1 ⟨rfl, rfl⟩
    go_wp2
    go_ret2
    exact ⟨rfl, rfl⟩
  · have Wk := hide (within_ok k 16 w (by omega) (by omega))
    have Ws := hide (within_not seed 10000 w (by omega))
    clear h hk
    go_enter Tryz.func34, Tryz.ntmps34
    go_wp2_with fail
    refine (Wk.out).mono ?_
    rintro e w1 ⟨rfl, rfl⟩
    go_wp2_with fail
    refine (Ws.out).mono ?_
    rintro e w1 ⟨rfl, rfl⟩
    go_wp2
    go_ret2
    exact ⟨rfl, rfl⟩
end Go.Proofs.YtjhflcgphejddaaGreatDoor

namespace Go.Proofs.YtjhflcgphejddaaGreatDoor
open Go.RowKit Go.Maps
set_option linter.unusedVariables false
set_option maxRecDepth 100000

end Go.Proofs.YtjhflcgphejddaaGreatDoor
