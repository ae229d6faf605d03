/-
  Our own contract of picture.Check. Lemmas for the laws above; no statement is proved here.
-/
import Derived.Test.YtcicoblejaippaaDoorPicI
namespace Go.Proofs.YtcicoblejaippaaDoor
open Go.RowKit
set_option linter.unusedVariables false
set_option maxRecDepth 100000

set_option maxHeartbeats 1000000 in
theorem pcheck_ok {w : World} {s : Value} {n : Nat} {f : Nat → Int} (a b : Int) (h : IntsIn w s n f) :
    Calls Tryd.prog 27 #[.agg #[.int .i64 a, .int .i64 b, s]] w fun e w' => e = .returned (errN (picF a b n f)) ∧ Below w.heap.size w w' := by
  have hb0 : Below w.heap.size w (w.alloc (.cells #[.int .i64 a, .int .i64 b, s] 24)) := (Below.refl _ _).alloc (Nat.le_refl _) _
  have HB := hide hb0
  have H0 := hide (h.below hb0)
  obtain ⟨ad, cap, rfl⟩ : ∃ ad cap, s = .slice ad n cap := by
    rcases h with ⟨rfl, a, c, rfl⟩ | ⟨_, b, o, c, rfl, _⟩
    · exact ⟨_, _, rfl⟩
    · exact ⟨_, _, rfl⟩
  have S := hide (fun x w => pside_ok x w)
  have HP : Hid (picF a b n f = if (sideOk a && sideOk b) = false then 1 else if (n : Int) ≠ a * b then 3 else if pixOk n f = false then 1 else 0) := by
    unfold Hid picF; rw [sides_two]
  clear hb0 h
  cases ha : sideOk a with
  | false =>
    have S1 := hide (S.out a)
    rw [ha] at S1
    have HE : Hid (picF a b n f = 1) := by unfold Hid; rw [HP.out, ha, Bool.false_and, if_pos rfl]
    clear ha HP
    go_enter Tryd.func27, Tryd.ntmps27
    go_wp2_with fail
    refine (S1.out _).mono ?_
    rintro e w1 ⟨rfl, rfl⟩
    go_wp2
    go_ret
    exact ⟨by rw [HE.out]; rfl, HB.out⟩
  | true =>
    have S1 := hide (S.out a)
    rw [ha] at S1
    cases hb : sideOk b with
    | false =>
      have S2 := hide (S.out b)
      rw [hb] at S2
      have HE : Hid (picF a b n f = 1) := by unfold Hid; rw [HP.out, hb, Bool.and_false, if_pos rfl]
      clear ha hb HP
      go_enter Tryd.func27, Tryd.ntmps27
      go_wp2_with fail
      refine (S1.out _).mono ?_
      rintro e w1 ⟨rfl, rfl⟩
      go_wp2_with fail
      refine (S2.out _).mono ?_
      rintro e w1 ⟨rfl, rfl⟩
      go_wp2
      go_ret
      exact ⟨by rw [HE.out]; rfl, HB.out⟩
    | true =>
      have S2 := hide (S.out b)
      rw [hb] at S2
      have h1 := sideOk_iff.1 ha
      have h2 := sideOk_iff.1 hb
      have hp0 : 0 ≤ a * b := Int.mul_nonneg (by omega) (by omega)
      have hp1 : a * b ≤ 36 := by
        have e1 : a * b ≤ 6 * b := Int.mul_le_mul_of_nonneg_right (by omega) (by omega)
        omega
      rw [ha, hb, Bool.and_self, if_neg (by simp)] at HP
      clear ha hb
      by_cases hn : (n : Int) = a * b
      · have hn1 : ((n : Int) == a * b) = true := by rw [beq_iff_eq]; exact hn
        have hn2 : n ≤ 36 := by omega
        have C := hide (pcont_ok H0.out (by omega))
        rw [if_neg (by simp [hn])] at HP
        clear hn
        cases hq : pixOk n f with
        | false =>
          rw [hq] at C
          have HE : Hid (picF a b n f = 1) := by unfold Hid; rw [HP.out, hq, if_pos rfl]
          clear hq HP
          go_enter Tryd.func27, Tryd.ntmps27
          go_wp2_with fail
          refine (S1.out _).mono ?_
          rintro e w1 ⟨rfl, rfl⟩
          go_wp2_with fail
          refine (S2.out _).mono ?_
          rintro e w1 ⟨rfl, rfl⟩
          go_wp2_with fail
          refine (C.out).mono ?_
          rintro e w1 ⟨rfl, rfl⟩
          go_wp2
          go_ret
          exact ⟨by rw [HE.out]; rfl, HB.out⟩
        | true =>
          rw [hq] at C
          have HE : Hid (picF a b n f = 0) := by unfold Hid; rw [HP.out, hq, if_neg (by simp)]
          clear hq HP
          go_enter Tryd.func27, Tryd.ntmps27
          go_wp2_with fail
          refine (S1.out _).mono ?_
          rintro e w1 ⟨rfl, rfl⟩
          go_wp2_with fail
          refine (S2.out _).mono ?_
          rintro e w1 ⟨rfl, rfl⟩
          go_wp2_with fail
          refine (C.out).mono ?_
          rintro e w1 ⟨rfl, rfl⟩
          go_wp2
          go_ret
          exact ⟨by rw [HE.out]; rfl, HB.out⟩
      · have hn1 : ((n : Int) == a * b) = false := by rw [beq_eq_false_iff_ne]; exact hn
        have HE : Hid (picF a b n f = 3) := by unfold Hid; rw [HP.out, if_pos hn]
        clear hn HP
        go_enter Tryd.func27, Tryd.ntmps27
        go_wp2_with fail
        refine (S1.out _).mono ?_
        rintro e w1 ⟨rfl, rfl⟩
        go_wp2_with fail
        refine (S2.out _).mono ?_
        rintro e w1 ⟨rfl, rfl⟩
        go_wp2
        go_ret
        exact ⟨by rw [HE.out]; rfl, HB.out⟩
end Go.Proofs.YtcicoblejaippaaDoor
