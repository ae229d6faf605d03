/-
  Our own contract of slices.Index at ints, for the first nought; of rice.number. Lemmas for the laws above; no statement is proved here.
-/
import Derived.Test.YtjklpcabnppnaaaDoorRcSl
import Derived.Test.YtjklpcabnppnaaaDoorRcT
namespace Go.Proofs.YtjklpcabnppnaaaDoor
open Go.RowKit
set_option linter.unusedVariables false
set_option maxRecDepth 100000

/-- Where the first nought is: -1 for none. -/
def idxN (f : Nat → Int) (n : Nat) : Int := if ones f 0 n < n then (ones f 0 n : Nat) else -1

set_option maxHeartbeats 1000000 in
theorem nought_ok {w : World} {v : Value} {n : Nat} {f : Nat → Int} (h : IntsIn w v n f) (hn : n ≤ 2000) :
    Calls Tryd.prog 25 #[v, .int .i64 0] w fun e w' => e = .returned (.int .i64 (idxN f n)) ∧ w = w' := by
  rcases h with ⟨rfl, a, cap, rfl⟩ | ⟨h0, b, o, cap, rfl, hc⟩
  · have HI : Hid (idxN f 0 = -1) := by unfold Hid idxN; rw [if_neg (by omega)]
    go_enter Tryd.func25, Tryd.ntmps25
    go_wp2
    go_loop [8] (fun i => i = .int .i64 0) (fun _ => 0)
    case atStart => rfl
    case round =>
      obtain rfl := hrel
      go_wp2
      go_ret
      exact ⟨ret_int (by rw [HI.out]), rfl⟩
  · have HC := hide hc
    clear hc
    go_enter Tryd.func25, Tryd.ntmps25
    go_wp2
    go_loop [8] (fun i => ∃ j : Nat, j ≤ n ∧ i = .int .i64 j ∧ ∀ q, q < j → f q ≠ 0) (fun i => n - (intOf i).toNat)
    case atStart => exact ⟨0, Nat.zero_le _, rfl, fun q hq => absurd hq (Nat.not_lt_zero _)⟩
    case round =>
      obtain ⟨j, hj, rfl, hno⟩ := hrel
      have HN := hide hno
      clear hno
      by_cases hlt : j < n
      · have hc := HC.out j hlt
        by_cases hq : f j = 0
        · have HI : Hid (idxN f n = (j : Nat)) := by
            have e : ones f 0 n = j := ones_eq (fun q hq => by rw [Nat.zero_add]; exact HN.out q hq) (fun _ => by rw [Nat.zero_add]; exact hq) hj
            unfold Hid idxN
            rw [e, if_pos hlt]
          rw [hq] at hc
          clear hq
          go_wp2
          go_ret
          exact ⟨ret_int (by rw [HI.out]), rfl⟩
        · have HQ := hide hq
          have hq1 : ((0 : Int) == f j) = false := by rw [beq_eq_false_iff_ne]; exact fun e => hq e.symm
          generalize hx : f j = x at *
          have HX := hide hx
          clear hx hq
          go_wp2
          go_round
          case rel =>
            refine ⟨j + 1, by omega, by go_num, fun q hq => ?_⟩
            by_cases c : q = j
            · rw [c, HX.out]; exact HQ.out
            · exact HN.out q (by omega)
          case measure => simp [intOf]; omega
      · obtain rfl : j = n := by omega
        have HI : Hid (idxN f j = -1) := by
          have e : ones f 0 j = j := ones_eq (fun q hq => by rw [Nat.zero_add]; exact HN.out q hq) (fun h => absurd h (by omega)) (Nat.le_refl _)
          unfold Hid idxN
          rw [e, if_neg (by omega)]
        go_wp2
        go_ret
        exact ⟨ret_int (by rw [HI.out]), rfl⟩

theorem number_ok (v : Nat) (w : World) (h : v ≤ 510) : Calls Tryd.prog 26 #[.int .i64 (v : Nat)] w fun e w' => e = .returned (.int .i64 (uz (v : Nat))) ∧ w = w' := by
  rcases Nat.mod_two_eq_zero_or_one v with c | c
  · obtain ⟨k, rfl⟩ : ∃ k, v = 2 * k := ⟨v / 2, by omega⟩
    have HU : Hid (uz ((2 * k : Nat) : Int) = (k : Nat)) := by unfold Hid uz; rw [if_neg (by omega)]; omega
    have e1 : (((2 * k : Nat) : Int)).tmod 2 = 0 := by rw [Int.tmod_eq_emod_of_nonneg (by omega)]; omega
    have e2 : (((2 * k : Nat) : Int)).tdiv 2 = (k : Nat) := by rw [Int.tdiv_eq_ediv_of_nonneg (by omega)]; omega
    have e3 : (((2 * k : Nat) : Int)) % 2 = 0 := by omega
    have e4 : (((2 * k : Nat) : Int)) / 2 = (k : Nat) := by omega
    have hx : ((2 * k : Nat) : Int) ≤ 510 ∧ (0 : Int) ≤ ((2 * k : Nat) : Int) := by omega
    generalize ((2 * k : Nat) : Int) = x at *
    obtain ⟨h1, h2⟩ := hx
    go_enter Tryd.func26, Tryd.ntmps26
    go_wp2
    go_ret
    exact ⟨ret_int (by rw [HU.out]), rfl⟩
  · obtain ⟨k, rfl⟩ : ∃ k, v = 2 * k + 1 := ⟨v / 2, by omega⟩
    have HU : Hid (uz ((2 * k + 1 : Nat) : Int) = -((k : Nat) : Int) - 1) := by unfold Hid uz; rw [if_pos (by omega)]; omega
    have e1 : (((2 * k + 1 : Nat) : Int)).tmod 2 = 1 := by rw [Int.tmod_eq_emod_of_nonneg (by omega)]; omega
    have e3 : (((2 * k + 1 : Nat) : Int)) % 2 = 1 := by omega
    have e2 : (-(((2 * k + 1 : Nat) : Int) + 1)).tdiv 2 = -((k : Nat) : Int) - 1 := by rw [Int.neg_tdiv, Int.tdiv_eq_ediv_of_nonneg (by omega)]; omega
    have hx : ((2 * k + 1 : Nat) : Int) ≤ 510 ∧ (0 : Int) ≤ ((2 * k + 1 : Nat) : Int) := by omega
    generalize ((2 * k + 1 : Nat) : Int) = x at *
    obtain ⟨h1, h2⟩ := hx
    go_enter Tryd.func26, Tryd.ntmps26
    go_wp2
    go_ret
    exact ⟨ret_int (by rw [HU.out]), rfl⟩
end Go.Proofs.YtjklpcabnppnaaaDoor
