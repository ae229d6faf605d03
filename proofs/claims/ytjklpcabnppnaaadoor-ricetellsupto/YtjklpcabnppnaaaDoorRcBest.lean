/-
  Our own contract of rice.Best. Lemmas for the laws above; no statement is proved here.
-/
import Derived.Test.YtjklpcabnppnaaaDoorRcA
import Derived.Test.YtjklpcabnppnaaaDoorRcL
import Derived.Test.YtjklpcabnppnaaaDoorErrK
namespace Go.Proofs.YtjklpcabnppnaaaDoor
open Go.RowKit
set_option linter.unusedVariables false
set_option maxRecDepth 100000

/-- What is wrong where the best low is asked. -/
def bestE (f : Nat → Int) (n : Nat) : Nat := if numsOk f n = false then 1 else if 2000 < lenN (bestL f n) f n then 4 else 0
/-- The answer. -/
def bestA (f : Nat → Int) (n : Nat) : Nat := if bestE f n = 0 then bestL f n else 0
theorem bestI_one (D : Nat → Nat) : bestI D 1 = 0 := by
  show (if D 0 < D 0 then 0 else 0) = 0
  rw [if_neg (by omega)]

set_option maxHeartbeats 2000000 in
theorem rbest_ok {w : World} {v : Value} {n : Nat} {f : Nat → Int} (h : IntsIn w v n f) (hn : n ≤ 17592186044416) :
    Calls Tryd.prog 11 #[v] w fun e w' => e = .returned (.tuple #[.int .i64 (bestA f n : Nat), errN (bestE f n)]) ∧ w = w' := by
  have K2 := hide (arenum_ok h hn)
  cases h2 : numsOk f n with
  | false =>
    have HE : Hid (bestE f n = 1) := by unfold Hid bestE; rw [h2, if_pos rfl]
    have HA : Hid (bestA f n = 0) := by unfold Hid bestA; rw [HE.out, if_neg (by omega)]
    rw [h2] at K2
    clear h2
    go_enter Tryd.func11, Tryd.ntmps11
    go_wp2_with fail
    refine (K2.out).mono ?_
    rintro e w1 ⟨rfl, rfl⟩
    go_wp2
    go_ret2
    exact ⟨by rw [HE.out, HA.out]; rfl, rfl⟩
  | true =>
    rw [h2] at K2
    have hf := numsOk_iff.1 h2
    have HK := hide (fun low (hl : low ≤ 7) => length_ok (low := low) h hn hl hf)
    have HD := hide (fun low (hl : low ≤ 7) => lenN_le (f := f) hl hf)
    have HE : Hid (bestE f n = if 2000 < lenN (bestL f n) f n then 4 else 0) := by unfold Hid bestE; rw [h2, if_neg (by simp)]
    have HA : Hid (bestA f n = if bestE f n = 0 then bestL f n else 0) := rfl
    have HBL : Hid (bestL f n = bestI (fun low => lenN low f n) 8) := rfl
    have HBs := hide (fun i => bestI_step (D := fun low => lenN low f n) (i := i))
    have HB0 : Hid (bestI (fun low => lenN low f n) 0 = 0) := rfl
    have HBl := hide (fun i => bestI_lt (D := fun low => lenN low f n) (n := i))
    generalize hDD : (fun low => lenN low f n) = D at *
    have e0 : ∀ low, lenN low f n = D low := fun low => by rw [← hDD]
    simp only [e0] at HK HD HE HBs
    have K0 := hide (HK.out 0 (by omega))
    have d0 := HD.out 0 (by omega)
    clear h h2 hf hDD e0
    go_enter Tryd.func11, Tryd.ntmps11
    go_wp2_with fail
    refine (K2.out).mono ?_
    rintro e w1 ⟨rfl, rfl⟩
    go_wp2_with fail
    refine (K0.out).mono ?_
    rintro e w1 ⟨rfl, rfl⟩
    go_wp2
    go_loop [4, 5, 14] (fun b u i => ∃ j : Nat, j ≤ 8 ∧ i = .int .i64 j ∧ b = .int .i64 (bestI D j : Nat) ∧ u = .int .i64 (D (bestI D j) : Nat)) (fun _ _ i => 8 - (intOf i).toNat)
    case atStart => exact ⟨0, Nat.zero_le _, rfl, by rw [HB0.out]; rfl, by rw [HB0.out]⟩
    case round =>
      obtain ⟨j, hj, rfl, rfl, rfl⟩ := hrel
      have hbl := HBl.out j
      by_cases hlt : j < 8
      · have K := hide (HK.out j (by omega))
        have d1 := HD.out j (by omega)
        have HS := hide (HBs.out j)
        by_cases c : D j < D (bestI D j)
        · rw [if_pos c] at HS
          generalize D (bestI D j) = m at *
          generalize bestI D j = b at *
          generalize hDj : D j = y at *
          have HDj := hide hDj
          clear hDj
          go_wp2_with fail
          refine (K.out).mono ?_
          rintro e w1 ⟨rfl, rfl⟩
          go_wp2
          go_round
          case rel => exact ⟨j + 1, by omega, by go_num, by rw [HS.out], by rw [HS.out, HDj.out]⟩
          case measure => simp [intOf]; omega
        · rw [if_neg c] at HS
          generalize hm : D (bestI D j) = m at *
          have Hm := hide hm
          clear hm
          generalize hb : bestI D j = b at *
          generalize D j = y at *
          clear hb
          go_wp2_with fail
          refine (K.out).mono ?_
          rintro e w1 ⟨rfl, rfl⟩
          go_wp2
          go_round
          case rel => exact ⟨j + 1, by omega, by go_num, by rw [HS.out], by rw [HS.out, Hm.out]⟩
          case measure => simp [intOf]; omega
      · obtain rfl : j = 8 := by omega
        rw [← HBL.out] at hbl ⊢
        generalize bestL f n = b at *
        by_cases c : 2000 < D b
        · rw [if_pos c] at HE
          generalize D b = m at *
          go_wp2
          go_ret2
          exact ⟨by rw [HA.out, HE.out]; rfl, rfl⟩
        · rw [if_neg c] at HE
          generalize D b = m at *
          go_wp2
          go_ret2
          exact ⟨by rw [HA.out, HE.out]; rfl, rfl⟩
end Go.Proofs.YtjklpcabnppnaaaDoor
