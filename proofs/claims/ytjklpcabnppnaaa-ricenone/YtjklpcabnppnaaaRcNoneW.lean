/-
  The walk of the law that noughts are one bit each, and the low ones. No statement is proved here.
-/
import Derived.Test.YtjklpcabnppnaaaRcPut
import Derived.Test.YtjklpcabnppnaaaRcBest
import Derived.Laws.OwnMore
namespace Go.Proofs.Ytjklpcabnppnaaa
open Go.RowKit Go.Maps
set_option linter.unusedVariables false
set_option maxRecDepth 100000

theorem made_in {w : World} {B n : Nat} {v : Value} (h : w.ownsRow B 3 1 v n (madeCells #[.int .i64 0] (n * 1)).toList) : IntsIn w v n (fun _ => 0) := by
  have e : (madeCells #[Value.int .i64 0] (n * 1)).toList = (List.range n).map fun k : Nat => Value.int .i64 ((fun _ => 0 : Nat → Int) k) := by
    rw [toList_madeCells_one, Nat.mul_one]
    apply List.ext_getElem <;> simp
  rw [e] at h
  exact own_in h

theorem rnone_out (a b : Int) (w : World) (h : a < 0 ∨ 200 < a) : Calls Try.prog 3 #[.int .i64 a, .int .i64 b] w fun e w' => e = .returned (.bool true) ∧ Below w.heap.size w w' := by
  by_cases c : a < 0
  · go_enter Try.func3, Try.ntmps3
    go_wp2
    go_ret
    exact ⟨rfl, Below.refl _ _⟩
  · have c2 : 200 < a := by omega
    go_enter Try.func3, Try.ntmps3
    go_wp2
    go_ret
    exact ⟨rfl, Below.refl _ _⟩

set_option maxHeartbeats 2000000 in
theorem rnone_bad (n : Nat) (b : Int) (w : World) (hn : n ≤ 200) (hb : lowOk b = false) : Calls Try.prog 3 #[.int .i64 n, .int .i64 b] w fun e w' => e = .returned (.bool true) ∧ Below w.heap.size w w' := by
  obtain ⟨i0, hi0, hz0, hz1, hz2⟩ := info_parts Try.infoInt
  have Hi := hide hi0
  have Hz0 := hide hz0
  have Hz1 := hide hz1
  have Hz2 := hide hz2
  have hb2 := lowOk_not.1 hb
  have HE : Hid (putE b (fun _ => 0) n = 1) := by unfold Hid putE; rw [hb, Bool.false_and, if_pos rfl]
  clear hi0 hz0 hz1 hz2 hb
  by_cases c : b < 0
  · clear hb2
    go_enter Try.func3, Try.ntmps3
    go_wp2_with (at_make; refine wpList_make_full _ rfl _ _ 22 rfl w.heap.size 3 i0 (.int .i64 0) 1 Try.underlying22 Hi.out Hz0.out Hz1.out _ _ _ _ n rfl rfl rfl rfl (by rw [Hz2.out]; omega) (by unfold maxLen; omega) (Nat.le_refl _) ?_; intro w1 hmk hgrow)
    have HB1 : Hid (Below w.heap.size w w1) := (Below.refl _ _).grown hgrow (Nat.le_refl _) (fun q hq => by cases hq)
    have K := hide (rput_bad b (made_in hmk) (by omega) (by rw [HE.out]; omega))
    rw [HE.out] at K
    clear hmk hgrow
    go_wp2_with fail
    refine (K.out).mono ?_
    rintro e w2 ⟨rfl, rfl⟩
    have he := errN_one
    rw [he]
    go_wp2
    go_ret
    exact ⟨rfl, HB1.out⟩
  · have hb3 : 7 < b := by omega
    clear hb2
    go_enter Try.func3, Try.ntmps3
    go_wp2_with (at_make; refine wpList_make_full _ rfl _ _ 22 rfl w.heap.size 3 i0 (.int .i64 0) 1 Try.underlying22 Hi.out Hz0.out Hz1.out _ _ _ _ n rfl rfl rfl rfl (by rw [Hz2.out]; omega) (by unfold maxLen; omega) (Nat.le_refl _) ?_; intro w1 hmk hgrow)
    have HB1 : Hid (Below w.heap.size w w1) := (Below.refl _ _).grown hgrow (Nat.le_refl _) (fun q hq => by cases hq)
    have K := hide (rput_bad b (made_in hmk) (by omega) (by rw [HE.out]; omega))
    rw [HE.out] at K
    clear hmk hgrow
    go_wp2_with fail
    refine (K.out).mono ?_
    rintro e w2 ⟨rfl, rfl⟩
    have he := errN_one
    rw [he]
    go_wp2
    go_ret
    exact ⟨by simp, HB1.out⟩

set_option maxHeartbeats 2000000 in
theorem rnone_ok (n low : Nat) (w : World) (hn : n ≤ 200) (hl : low ≤ 7) : Calls Try.prog 3 #[.int .i64 n, .int .i64 low] w fun e w' => e = .returned (.bool true) ∧ Below w.heap.size w w' := by
  obtain ⟨i0, hi0, hz0, hz1, hz2⟩ := info_parts Try.infoInt
  have Hi := hide hi0
  have Hz0 := hide hz0
  have Hz1 := hide hz1
  have Hz2 := hide hz2
  have hz : ∀ i, i < n → (-255 : Int) ≤ (fun _ => 0 : Nat → Int) i ∧ (fun _ => 0 : Nat → Int) i ≤ 255 := fun i _ => by show (-255 : Int) ≤ 0 ∧ (0 : Int) ≤ 255; omega
  have hlen := lenN_zero (low := low) n
  have hM : n * (low + 1) ≤ 1600 := Nat.le_trans (Nat.mul_le_mul hn (show low + 1 ≤ 8 by omega)) (by omega)
  have hprod : (n : Int) * ((low : Int) + 1) = ((n * (low + 1) : Nat) : Int) := by simp
  have HE : Hid (bestE (fun _ => 0) n = 0) := by
    unfold Hid bestE
    rw [numsOk_iff.2 hz, if_neg (by simp), bestL_zero, lenN_zero, if_neg (by omega)]
  have HA : Hid (bestA (fun _ => 0) n = 0) := by unfold Hid bestA; rw [HE.out, if_pos rfl, bestL_zero]
  have HZ := hide (rowB_zero low n)
  have HRL := hide (rowB_len low (fun _ => 0) n)
  clear hi0 hz0 hz1 hz2
  go_enter Try.func3, Try.ntmps3
  go_wp2_with (at_make; refine wpList_make_full _ rfl _ _ 22 rfl w.heap.size 3 i0 (.int .i64 0) 1 Try.underlying22 Hi.out Hz0.out Hz1.out _ _ _ _ n rfl rfl rfl rfl (by rw [Hz2.out]; omega) (by unfold maxLen; omega) (Nat.le_refl _) ?_; intro w1 hmk hgrow)
  have HB1 : Hid (Below w.heap.size w w1) := (Below.refl _ _).grown hgrow (Nat.le_refl _) (fun q hq => by cases hq)
  have K := hide (rput_ok (low := low) (made_in hmk) hl hz (by rw [hlen]; omega))
  rw [hlen] at K HRL
  generalize hMM : n * (low + 1) = M at *
  clear hmk hgrow hz hlen hMM
  go_wp2_with fail
  refine (K.out).mono ?_
  rintro e w2 ⟨ad, cp, rfl, hown, hb2⟩
  have HB2 := hide (below_two HB1.out hb2)
  have HX := hide (rowV_in hown HRL.out.symm)
  have hZ : ∀ k, k < M → (rowB low (lst (fun _ => 0) n)).getD k 0 = 0 := fun k hk => by
    have hk2 : k < (rowB low (lst (fun _ => 0) n)).length := by rw [HRL.out]; exact hk
    have e : (rowB low (lst (fun _ => 0) n)).getD k 0 = (rowB low (lst (fun _ => 0) n))[k] := by simp [List.getD, hk2]
    rw [e]
    exact HZ.out _ (List.getElem_mem hk2)
  have HX2 := hide (HX.out.congr (g := fun _ => 0) hZ)
  clear hown hb2 hZ HX HZ HRL K
  go_wp2
  go_loop [7] (fun i => ∃ j : Nat, j ≤ M ∧ i = .int .i64 j) (fun i => M - (intOf i).toNat)
  case atStart => exact ⟨0, Nat.zero_le _, rfl⟩
  case round =>
    obtain ⟨j, hj, rfl⟩ := hrel
    by_cases hlt : j < M
    · obtain ⟨bb, oo, cpv, hv, hcj⟩ : ∃ bb oo c, Value.slice ad M cp = .slice (some ⟨bb, oo, none⟩) M c ∧ w2.cell? ⟨bb, oo + j, none⟩ = some (.int .i64 0) := by
        rcases HX2.out with ⟨rfl, _⟩ | ⟨h0, b, o, cap, e, hc⟩
        · omega
        · exact ⟨b, o, cap, e, hc j hlt⟩
      obtain ⟨rfl, rfl⟩ : ad = some ⟨bb, oo, none⟩ ∧ cp = cpv := by cases hv; exact ⟨rfl, rfl⟩
      clear hv
      go_wp2
      go_round
      case rel => exact ⟨j + 1, by omega, by go_num⟩
      case measure => simp [intOf]; omega
    · obtain rfl : j = M := by omega
      go_wp2_with (at_make; refine wpList_make_full _ rfl _ _ 22 rfl w2.heap.size 3 i0 (.int .i64 0) 1 Try.underlying22 Hi.out Hz0.out Hz1.out _ _ _ _ n rfl rfl rfl rfl (by rw [Hz2.out]; omega) (by unfold maxLen; omega) (Nat.le_refl _) ?_; intro w3 hmk hgrow)
      have HB3 : Hid (Below w.heap.size w w3) := below_two HB2.out ((Below.refl _ _).grown hgrow (Nat.le_refl _) (fun q hq => by cases hq))
      have K2 := hide (rbest_ok (made_in hmk) (by omega))
      rw [HE.out, HA.out] at K2
      clear hmk hgrow
      go_wp2_with fail
      refine (K2.out).mono ?_
      rintro e w4 ⟨rfl, rfl⟩
      have he := errN_zero
      rw [he]
      go_wp2
      go_ret
      exact ⟨rfl, HB3.out⟩

theorem rnone_walk (a b : Int) (w : World) : Calls Try.prog 3 #[.int .i64 a, .int .i64 b] w fun e w' => e = .returned (.bool true) ∧ Below w.heap.size w w' := by
  by_cases h : a < 0 ∨ 200 < a
  · exact rnone_out a b w h
  · obtain ⟨n, rfl⟩ := Int.eq_ofNat_of_zero_le (show 0 ≤ a by omega)
    cases hb : lowOk b with
    | false => exact rnone_bad n b w (by omega) hb
    | true =>
      have hl := lowOk_iff.1 hb
      obtain ⟨low, rfl⟩ := Int.eq_ofNat_of_zero_le hl.1
      exact rnone_ok n low w (by omega) (by omega)
end Go.Proofs.Ytjklpcabnppnaaa
