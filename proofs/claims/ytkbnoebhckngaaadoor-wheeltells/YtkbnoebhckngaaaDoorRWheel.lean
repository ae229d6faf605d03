/-
  Our own contracts of the document's Wheel over this seat's translation. Lemmas for the laws above; no statement is proved here.
-/
import Derived.Test.YtkbnoebhckngaaaDoorWhN
namespace Go.Proofs.YtkbnoebhckngaaaDoor
open Go.RowKit
set_option linter.unusedVariables false
set_option maxRecDepth 100000

theorem rwheel_range (k e t : Int) (w : World) (h : ¬ WhOk k e ∨ t < 0 ∨ 1000 < t) :
    Calls Tryd.prog 5 #[.int .i64 k, .int .i64 e, .int .i64 t] w fun r w' => r = .returned (.tuple #[.int .i64 0, .int .i64 1]) ∧ w = w' := by
  have h' : k < 1 ∨ (1 ≤ k ∧ 16 < k) ∨ (1 ≤ k ∧ k ≤ 16 ∧ e < 0) ∨ (1 ≤ k ∧ k ≤ 16 ∧ 0 ≤ e ∧ 16 < e) ∨ (1 ≤ k ∧ k ≤ 16 ∧ 0 ≤ e ∧ e ≤ 16 ∧ t < 0) ∨ (1 ≤ k ∧ k ≤ 16 ∧ 0 ≤ e ∧ e ≤ 16 ∧ 0 ≤ t ∧ 1000 < t) := by
    unfold WhOk at h
    omega
  clear h
  rcases h' with h | ⟨h1, h⟩ | ⟨h1, h2, h⟩ | ⟨h1, h2, h3, h⟩ | ⟨h1, h2, h3, h4, h⟩ | ⟨h1, h2, h3, h4, h5, h⟩ <;>
  · go_enter Tryd.func5, Tryd.ntmps5
    go_wp2
    go_ret2
    exact ⟨rfl, rfl⟩
theorem wh_low {k e t r A j : Nat} (hA : A = r * (k + e)) (hj : j < k) (ht : A + j = t) : whAt k e t = j + 1 := by
  subst hA; subst ht
  rw [whAt_of (by omega), if_neg (by omega)]
theorem wh_high {k e t r A i : Nat} (hA : A = r * (k + e)) (hi : i < e) (ht : A + k + i = t) : whAt k e t = k + 1 + r * e + i := by
  subst hA; subst ht
  rw [Nat.add_assoc, whAt_of (by omega), if_pos (by omega)]; omega
theorem wh_next {k e r A : Nat} (hA : A = r * (k + e)) : A + k + e = (r + 1) * (k + e) ∧ k + 1 + r * e + e = k + 1 + (r + 1) * e ∧ r * e ≤ A := by
  subst hA
  rw [Nat.add_mul, Nat.add_mul, Nat.mul_add]
  omega
set_option maxHeartbeats 1000000 in
theorem rwheel_ok (k e t : Nat) (w : World) (hk : 1 ≤ k) (hk2 : k ≤ 16) (he : e ≤ 16) (ht : t ≤ 1000) :
    Calls Tryd.prog 5 #[.int .i64 k, .int .i64 e, .int .i64 t] w fun r w' => r = .returned (.tuple #[.int .i64 (whAt k e t), .int .i64 0]) ∧ w = w' := by
  generalize hX : whAt k e t = X
  have HX := hide hX
  clear hX
  go_enter Tryd.func5, Tryd.ntmps5
  go_wp2
  go_loop [8, 9] (fun n a => ∃ r A N : Nat, Hid (A = r * (k + e)) ∧ Hid (N = k + 1 + r * e) ∧ A ≤ t ∧ N ≤ 2000 ∧ n = .int .i64 N ∧ a = .int .i64 A) (fun n a => t - (intOf a).toNat)
  case atStart => exact ⟨0, 0, k + 1, hide (by omega), hide (by omega), by omega, by omega, by go_num, by go_num⟩
  case round =>
    obtain ⟨r, A, N, hA, hN, hAt, hNb, rfl, rfl⟩ := hrel
    go_wp2
    go_loop [9, 10] (fun a s => ∃ j B J : Nat, Hid (B = A + j) ∧ Hid (J = j + 1) ∧ j ≤ k ∧ J ≤ 17 ∧ B ≤ t ∧ a = .int .i64 B ∧ s = .int .i64 J) (fun a s => 18 - (intOf s).toNat)
    case atStart => exact ⟨0, A, 1, hide (by omega), hide (by omega), by omega, by omega, by omega, by go_num, by go_num⟩
    case round =>
      obtain ⟨j, B, J, hB, hJ, hjk, hJb, hBt, rfl, rfl⟩ := hrel
      by_cases hlt : j < k
      · have hJk : (J : Int) ≤ (k : Int) := by have := hJ.out; omega
        by_cases heq : B = t
        · obtain rfl : X = J := by
            have HR := wh_low (t := t) hA.out hlt (by have := hB.out; omega)
            rw [← HX.out, HR, hJ.out]
          have hq : ((B : Int) == (t : Int)) = true := by rw [beq_iff_eq]; omega
          clear heq
          go_wp2
          go_ret2
          exact ⟨rfl, rfl⟩
        · have hq : ((B : Int) == (t : Int)) = false := by rw [beq_eq_false_iff_ne]; omega
          have hlt2 : B < t := by omega
          clear heq
          go_wp2
          go_round
          case rel => exact ⟨j + 1, B + 1, J + 1, hide (by have := hB.out; omega), hide (by have := hJ.out; omega), by omega, by have := hJ.out; omega, by omega, by go_num, by go_num⟩
          case measure => simp [intOf]; omega
      · obtain rfl : j = k := by omega
        have hJk : ¬ (J : Int) ≤ (j : Int) := by have := hJ.out; omega
        go_wp2
        go_loop [8, 9, 11] (fun n a i => ∃ d B2 N2 : Nat, Hid (B2 = A + j + d) ∧ Hid (N2 = N + d) ∧ d ≤ e ∧ B2 ≤ t ∧ N2 ≤ 2020 ∧ n = .int .i64 N2 ∧ a = .int .i64 B2 ∧ i = .int .i64 d) (fun n a i => e - (intOf i).toNat)
        case atStart => exact ⟨0, B, N, hide (by have := hB.out; omega), hide (by omega), by omega, by omega, by omega, by go_num, by go_num, by go_num⟩
        case round =>
          obtain ⟨d, B2, N2, hB2, hN2, hde, hBt2, hNb2, rfl, rfl, rfl⟩ := hrel
          by_cases hlt : d < e
          · by_cases heq : B2 = t
            · obtain rfl : X = N2 := by
                have HR := wh_high (t := t) hA.out hlt (by have := hB2.out; omega)
                rw [← HX.out, HR, hN2.out, hN.out]
              have hq : ((B2 : Int) == (t : Int)) = true := by rw [beq_iff_eq]; omega
              have hNN : ¬ 10000 < (X : Int) := by omega
              clear heq
              go_wp2
              go_ret2
              exact ⟨rfl, rfl⟩
            · have hq : ((B2 : Int) == (t : Int)) = false := by rw [beq_eq_false_iff_ne]; omega
              have hlt2 : B2 < t := by omega
              have hNd : N2 ≤ 2016 := by have := hN2.out; omega
              clear heq
              go_wp2
              go_round
              case rel => exact ⟨d + 1, B2 + 1, N2 + 1, hide (by have := hB2.out; omega), hide (by have := hN2.out; omega), by omega, by omega, by omega, by go_num, by go_num, by go_num⟩
              case measure => simp [intOf]; omega
          · obtain rfl : d = e := by omega
            go_wp2
            go_round
            case rel =>
              have h3 := wh_next hA.out
              have h1 := hB2.out
              have h2 := hN2.out
              have h4 := hN.out
              have h5 := wh_next (k := j) (e := d) (r := r + 1) rfl
              exact ⟨r + 1, B2, N2, hide (by rw [h1]; exact h3.1), hide (by rw [h2, h4]; exact h3.2.1), by omega, by omega, rfl, rfl⟩
            case measure =>
              have h1 := hB2.out
              simp [intOf]; omega
end Go.Proofs.YtkbnoebhckngaaaDoor
