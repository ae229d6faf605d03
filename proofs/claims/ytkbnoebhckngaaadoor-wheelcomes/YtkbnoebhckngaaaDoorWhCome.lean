/-
  Our own walks of the law that who waits a round has all, over this seat's translation. Lemmas for the law above; no statement is proved here.
-/
import Derived.Test.YtkbnoebhckngaaaDoorWhComeN
import Derived.Test.YtkbnoebhckngaaaDoorErrIs
import Derived.Test.YtkbnoebhckngaaaDoorWhRow
import Derived.Test.YtkbnoebhckngaaaDoorWhWhen
import Derived.Test.YtkbnoebhckngaaaDoorRIn
import Derived.Deep.DeepCutAuto
namespace Go.Proofs.YtkbnoebhckngaaaDoor
open Go.RowKit
set_option linter.unusedVariables false
set_option maxRecDepth 100000

theorem wrow_fact (w : World) : Calls Tryd.prog 8 #[.int .i64 2, .int .i64 1, .int .i64 0, .int .i64 6] w fun r w' =>
    r = .returned (.tuple #[.slice (some ⟨w.heap.size, 0, none⟩) 6 6, .nilIface]) ∧ w'.cell? ⟨w.heap.size, 2, none⟩ = some (.int .i64 3) ∧ w'.cell? ⟨w.heap.size, 3, none⟩ = some (.int .i64 1) ∧ w'.cell? ⟨w.heap.size, 5, none⟩ = some (.int .i64 4) ∧ Below w.heap.size w w' :=
  (wrow_ok 2 1 0 6 w (by decide) (by decide) (by decide) (by decide) (by decide)).mono fun r w' ⟨hr, hi, hb⟩ =>
    ⟨hr, (hi 2 (by decide)).1, (hi 3 (by decide)).1, (hi 5 (by decide)).1, hb⟩
theorem when_at (k e T : Nat) (w : World) (hk : 1 ≤ k) (hk2 : k ≤ 16) (he : e ≤ 16) (hT : T ≤ 1000) :
    Calls Tryd.prog 10 #[.int .i64 k, .int .i64 e, .int .i64 (whAt k e T)] w fun r w' => r = .returned (.tuple #[.int .i64 (whT k e T), .nilIface]) ∧ ∃ n, w' = w.drewN n :=
  (when_ok k e (whAt k e T) w hk hk2 he whAt_pos (by have := whAt_le (k := k) (e := e) (t := T); omega)).mono fun r w' ⟨f, t, hi, hr, hn⟩ => by
    obtain ⟨rfl, rfl⟩ := isWhen_at hk hk2 hT hi
    exact ⟨hr, hn⟩
/-- Where Row's answer is held against solve.Rank. -/
theorem wrow_rank (k e t : Nat) (w : World) (b : Nat) (hk : 1 ≤ k) (hk2 : k ≤ 16) (he : e ≤ 16) (ht : t + (k + e) ≤ 1000) (h : IRow w b (k + e) (fun i => (whAt k e (t + i) : Int))) :
    Calls Tryd.prog 11 #[.int .i64 k, .slice (some ⟨b, 0, none⟩) (k + e) (k + e)] w fun r w' => r = .returned (.tuple #[.int .i64 k, .nilIface]) ∧ Below w.heap.size w w' := by
  have hB : ∀ i, i < k + e → whAt k e (t + i) ≤ 10000 := fun i hi => by
    have := whAt_le (k := k) (e := e) (t := t + i)
    omega
  have hI : IntsAt w (.slice (some ⟨b, 0, none⟩) (k + e) (k + e)) (k + e) (fun i => (((fun i => whAt k e (t + i)) i : Nat) : Int)) :=
    Or.inr ⟨by omega, b, 0, k + e, rfl, Nat.le_refl _, by unfold maxLen; omega, fun i hi => by rw [Nat.zero_add]; exact (h i hi).1, fun i hi => WalkArith.wf_i64 (by
      show -9223372036854775808 ≤ (whAt k e (t + i) : Int) ∧ (whAt k e (t + i) : Int) ≤ 9223372036854775807
      have := hB i hi
      omega)⟩
  exact (rank_ok k _ (k + e) (fun i => whAt k e (t + i)) w hI (by omega) hk hk2 (fun j hj => ⟨whAt_pos, hB j hj⟩)).mono fun r w' ⟨x, hr, hd, hx, hb⟩ => by
    have := wh_rank hd
    obtain rfl : x = k := by omega
    exact ⟨hr, hb⟩

set_option maxHeartbeats 4000000 in
theorem wcomes_not (k e t : Int) (w : World) (hg : HasErr w) (h : ¬ WhOk k e) :
    Calls Tryd.prog 4 #[.int .i64 k, .int .i64 e, .int .i64 t] w fun r w' => r = .returned (.bool true) ∧ Below w.heap.size w w' := by
  have HG := hide hg
  have HGL := hide hg.lt
  have KF := hide (wrow_fact w)
  have KA := hide (fun w => at_range k e 0 w (Or.inl h))
  have HK : Hid (k < 1 ∨ (1 ≤ k ∧ 16 < k) ∨ (1 ≤ k ∧ k ≤ 16 ∧ e < 0) ∨ (1 ≤ k ∧ k ≤ 16 ∧ 0 ≤ e ∧ 16 < e)) := by
    unfold WhOk at h
    exact hide (by omega)
  clear hg h
  go_enter Tryd.func4, Tryd.ntmps4
  go_wp2_with fail
  refine (KF.out).mono ?_
  rintro r w1 ⟨rfl, c2, c3, c5, b1⟩
  clear KF
  go_upto_region 4 with fail
  go_cut [62] (fun t wx => t = .bool true ∧ w1 = wx)
  case first =>
    rcases HK.out with h1 | ⟨h0, h1⟩ | ⟨h0, h2, h1⟩ | ⟨h0, h2, h3, h1⟩ <;>
    · go_wp2
      go_meet
      exact ⟨by first | rfl | (simp <;> omega), rfl⟩
  case rest =>
  obtain ⟨rfl, rfl⟩ := hcut
  go_wp2_with fail
  refine (KA.out _).mono ?_
  rintro r w2 ⟨rfl, rfl⟩
  have E1 := hide (error_right 1 _ w1 (HG.out.below HGL.out b1) (Or.inr rfl))
  go_wp2_with fail
  refine (E1.out).mono ?_
  rintro r w2 ⟨rfl, b2⟩
  have b3 := below_two b1 b2
  clear E1
  go_wp2
  go_ret
  exact ⟨rfl, b3⟩
set_option maxHeartbeats 4000000 in
theorem wcomes_late (k e : Nat) (t : Int) (w : World) (hk : 1 ≤ k) (hk2 : k ≤ 16) (he : e ≤ 16) (h : ¬ SpOk t ((k : Int) + (e : Int))) :
    Calls Tryd.prog 4 #[.int .i64 k, .int .i64 e, .int .i64 t] w fun r w' => r = .returned (.bool true) ∧ Below w.heap.size w w' := by
  have KF := hide (wrow_fact w)
  have KO := hide (fun w => wrow_range k e t ((k : Int) + (e : Int)) w (Or.inr h))
  clear h
  go_enter Tryd.func4, Tryd.ntmps4
  go_wp2_with fail
  refine (KF.out).mono ?_
  rintro r w1 ⟨rfl, c2, c3, c5, b1⟩
  clear KF
  go_wp2_with fail
  refine (KO.out _).mono ?_
  rintro r w2 ⟨rfl, rfl⟩
  go_wp2
  go_ret
  exact ⟨rfl, b1⟩
set_option maxHeartbeats 8000000 in
theorem wcomes_ok (k e t : Nat) (w : World) (hk : 1 ≤ k) (hk2 : k ≤ 16) (he : e ≤ 16) (ht : t + (k + e) ≤ 1000) :
    Calls Tryd.prog 4 #[.int .i64 k, .int .i64 e, .int .i64 t] w fun r w' => r = .returned (.bool true) ∧ Below w.heap.size w w' := by
  have KF := hide (wrow_fact w)
  have KO := hide (fun w => wrow_ok k e t (k + e) w hk hk2 he (by omega) ht)
  have KR := hide (fun w b h => wrow_rank k e t w b hk hk2 he ht h)
  have KW := hide (fun T w hT => when_at k e T w hk hk2 he hT)
  have HALL := hide (fun i (h1 : 1 ≤ i) (h2 : i ≤ k) => wh_all (k := k) (e := e) (t := t) h1 h2)
  have hm : (k : Int) + (e : Int) = ((k + e : Nat) : Int) := by omega
  have hmb : k + e ≤ 32 := by omega
  have hmp : 1 ≤ k + e := by omega
  have hmk : k ≤ k + e := by omega
  generalize k + e = m at *
  go_enter Tryd.func4, Tryd.ntmps4
  go_wp2_with fail
  refine (KF.out).mono ?_
  rintro r w1 ⟨rfl, c2, c3, c5, b1⟩
  clear KF
  go_wp2_with fail
  refine (KO.out _).mono ?_
  rintro r w2 ⟨rfl, hrow, hb2⟩
  have b2 := below_two b1 hb2
  have K2 := hide (KR.out w2 w1.heap.size hrow)
  have HROW := hide hrow
  clear KO KR hrow hb2 b1
  go_wp2_with fail
  refine (K2.out).mono ?_
  rintro r w3 ⟨rfl, hb3⟩
  have HC : Hid (∀ i, i < m → w3.cell? ⟨w1.heap.size, 0 + i, none⟩ = some (.int .i64 (whAt k e (t + i) : Int))) := hide fun i hi => by
    rw [Nat.zero_add]; exact cell_below hb3 (HROW.out i hi).1
  have b3 := below_two b2 hb3
  clear K2 HROW hb3 b2
  go_wp2
  go_loop [15] (fun i => ∃ j : Nat, j ≤ k ∧ i = .int .i64 ((j : Int) + 1)) (fun i => k + 1 - (intOf i).toNat)
  case atStart => exact ⟨0, Nat.zero_le _, rfl⟩
  case round =>
    obtain ⟨j, hj, rfl⟩ := hrel
    by_cases hlt : j < k
    · have K := hide (by
        obtain ⟨q, hq, hx⟩ := HALL.out (j + 1) (by omega) (by omega)
        exact rin_yes w1.heap.size 0 m m ((j : Int) + 1) (fun i => (whAt k e (t + i) : Int)) w3 (by unfold maxLen; omega) HC.out q hq (by show ((whAt k e (t + q) : Nat) : Int) = _; rw [hx]; omega))
      have hle : (j : Int) + 1 ≤ (k : Int) := by omega
      go_wp2_with fail
      refine (K.out).mono ?_
      rintro r w4 ⟨rfl, rfl⟩
      go_wp2
      go_round
      case rel => exact ⟨j + 1, by omega, by go_num⟩
      case measure => simp [intOf]; omega
    · obtain rfl : j = k := by omega
      have hle : ¬ (j : Int) + 1 ≤ (j : Int) := by omega
      go_wp2
      go_loopw [17] (fun i wr => ∃ i' n : Nat, i' ≤ m ∧ i = .int .i64 i' ∧ wr = w3.drewN n) (fun i _ => m - (intOf i).toNat)
      case atStart => exact ⟨0, 0, Nat.zero_le _, rfl, rfl⟩
      case round =>
        obtain ⟨i, n, hi, rfl, rfl⟩ := hrel
        by_cases hlt2 : i < m
        · have hc : (w3.drewN n).cell? ⟨w1.heap.size, 0 + i, none⟩ = some (.int .i64 (whAt j e (t + i) : Int)) := HC.out i hlt2
          have K := hide (KW.out (t + i) (w3.drewN n) (by omega))
          have hTI : (t : Int) + (i : Int) = ((t + i : Nat) : Int) := by omega
          have hT : Hid ((whAt j e (t + i) ≤ j ∧ (whT j e (t + i) : Int) = (whAt j e (t + i) : Int) - 1) ∨ (j < whAt j e (t + i) ∧ whT j e (t + i) = t + i)) := hide (by
            unfold whT
            by_cases h : whAt j e (t + i) ≤ j
            · rw [if_pos h]; have := whAt_pos (k := j) (e := e) (t := t + i); exact Or.inl ⟨h, by omega⟩
            · rw [if_neg h]; exact Or.inr ⟨by omega, rfl⟩)
          have hxb : whAt j e (t + i) ≤ 10000 := by have := whAt_le (k := j) (e := e) (t := t + i); omega
          rw [Nat.zero_add] at hc
          have hc0 : w3.cell? ⟨w1.heap.size, i, none⟩ = some (.int .i64 (whAt j e (t + i) : Int)) := hc
          have hcn : ∀ q, (w3.drewN q).cell? ⟨w1.heap.size, i, none⟩ = some (.int .i64 (whAt j e (t + i) : Int)) := fun q => hc
          have hxp := whAt_pos (k := j) (e := e) (t := t + i)
          generalize whAt j e (t + i) = x at *
          generalize whT j e (t + i) = T at *
          generalize hti : t + i = y at *
          have hyb : y ≤ 1000 := by omega
          clear hti
          rcases hT.out with ⟨h1, h2⟩ | ⟨h1, h2⟩
          · have h1' : (x : Int) ≤ (j : Int) := by omega
            have h3 : (x : Int) - 1 = (T : Int) := h2.symm
            clear h1 h2 hT
            go_wp2_with fail
            refine (K.out).mono ?_
            rintro r w4 ⟨rfl, n4, rfl⟩
            go_wp2
            go_roundw
            case rel => exact ⟨i + 1, _, by omega, by go_num, rfl⟩
            case measure => simp [intOf]; omega
          · subst h2
            have h1' : ¬ (x : Int) ≤ (j : Int) := by omega
            clear h1 hT
            go_wp2_with fail
            refine (K.out).mono ?_
            rintro r w4 ⟨rfl, n4, rfl⟩
            go_wp2
            go_roundw
            case rel => exact ⟨i + 1, _, by omega, by go_num, rfl⟩
            case measure => simp [intOf]; omega
        · obtain rfl : i = m := by omega
          go_wp2
          go_ret
          exact ⟨rfl, below_drewN b3 _⟩
end Go.Proofs.YtkbnoebhckngaaaDoor
