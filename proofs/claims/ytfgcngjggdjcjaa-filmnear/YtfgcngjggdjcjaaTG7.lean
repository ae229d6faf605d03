/-
  Lemmas for the law above, joined into one text (IsAt, PicI, PicC). No statement is proved here.
-/
import Derived.Test.YtfgcngjggdjcjaaTG0
import Derived.Test.YtfgcngjggdjcjaaTG6
namespace Go.Proofs.Ytfgcngjggdjcjaa
open Go.RowKit
set_option linter.unusedVariables false
set_option maxRecDepth 100000

/-- Where a first one is found, or that none is. -/
def IsAt (q : Nat → Bool) (n : Nat) (i : Int) : Prop := (i = -1 ∧ ∀ j, j < n → q j = false) ∨ ∃ j : Nat, i = j ∧ j < n ∧ q j = true
end Go.Proofs.Ytfgcngjggdjcjaa

namespace Go.Proofs.Ytfgcngjggdjcjaa
open Go.RowKit
set_option linter.unusedVariables false
set_option maxRecDepth 100000

theorem pnot_ok (n : Int) (w : World) : Calls Try.prog 26 #[.int .i64 n] w fun e w' => e = .returned (.bool (!pixelOk n)) ∧ w = w' := by
  have K := hide (ppixel_ok n w)
  go_enter Try.func26, Try.ntmps26
  go_wp2_with fail
  refine (K.out).mono ?_
  rintro e w1 ⟨rfl, rfl⟩
  go_wp2
  go_ret
  exact ⟨rfl, rfl⟩

set_option maxHeartbeats 1000000 in
theorem pidx_ok {w : World} {v : Value} {n : Nat} {f : Nat → Int} (h : IntsIn w v n f) (hn : n ≤ 1000) :
    Calls Try.prog 42 #[v, .func (.func 26) #[] #[]] w fun e w' => ∃ i : Int, e = .returned (.int .i64 i) ∧ IsAt (fun j => !pixelOk (f j)) n i ∧ w = w' := by
  rcases h with ⟨rfl, a, cap, rfl⟩ | ⟨h0, b, o, cap, rfl, hc⟩
  · go_enter Try.func42, Try.ntmps42
    go_wp2
    go_loop [8] (fun i => i = .int .i64 0) (fun _ => 0)
    case atStart => rfl
    case round =>
      obtain rfl := hrel
      go_wp2
      go_ret
      exact ⟨_, rfl, Or.inl ⟨rfl, fun j hj => absurd hj (Nat.not_lt_zero _)⟩, rfl⟩
  · have HC := hide hc
    clear hc
    go_enter Try.func42, Try.ntmps42
    go_wp2
    go_loop [5, 8] (fun _ i => ∃ j : Nat, j ≤ n ∧ i = .int .i64 j ∧ ∀ q, q < j → pixelOk (f q) = true) (fun _ i => n - (intOf i).toNat)
    case atStart => exact ⟨0, Nat.zero_le _, rfl, fun q hq => absurd hq (Nat.not_lt_zero _)⟩
    case round =>
      obtain ⟨j, hj, rfl, hno⟩ := hrel
      have HN := hide hno
      clear hno
      by_cases hlt : j < n
      · have hc := HC.out j hlt
        have K := hide (pnot_ok (f j) w)
        generalize hx : f j = x at *
        have HX := hide hx
        clear hx
        cases hq : pixelOk x with
        | false =>
          have HQ := hide hq
          rw [hq] at K
          clear hq
          go_wp2_with (go_at_call 26; refine (K.out).mono ?_; rintro e w1 ⟨rfl, rfl⟩)
          go_ret
          exact ⟨_, rfl, Or.inr ⟨j, rfl, hlt, by show (!pixelOk (f j)) = true; rw [HX.out, HQ.out]; rfl⟩, rfl⟩
        | true =>
          have HQ := hide hq
          rw [hq] at K
          clear hq
          go_wp2_with (go_at_call 26; refine (K.out).mono ?_; rintro e w1 ⟨rfl, rfl⟩)
          go_round
          case rel =>
            refine ⟨j + 1, by omega, by go_num, fun q hq => ?_⟩
            by_cases c : q = j
            · rw [c, HX.out]; exact HQ.out
            · exact HN.out q (by omega)
          case measure => simp [intOf]; omega
      · obtain rfl : j = n := by omega
        go_wp2
        go_ret
        exact ⟨_, rfl, Or.inl ⟨rfl, fun q hq => by show (!pixelOk (f q)) = false; rw [HN.out q hq]; rfl⟩, rfl⟩

theorem pcont_ok {w : World} {v : Value} {n : Nat} {f : Nat → Int} (h : IntsIn w v n f) (hn : n ≤ 1000) :
    Calls Try.prog 25 #[v, .func (.func 26) #[] #[]] w fun e w' => e = .returned (.bool (!pixOk n f)) ∧ w = w' := by
  have K := hide (pidx_ok h hn)
  clear h
  go_enter Try.func25, Try.ntmps25
  go_wp2_with fail
  refine (K.out).mono ?_
  rintro e w1 ⟨i, rfl, hi, rfl⟩
  rcases hi with ⟨rfl, ha⟩ | ⟨j, rfl, hj, hq⟩
  · have e : pixOk n f = true := pixOk_iff.2 fun i hi => pixelOk_iff.1 (by have := ha i hi; simpa using this)
    have HE := hide e
    clear e ha
    go_wp2
    go_ret
    exact ⟨ret_bool (by rw [HE.out]; rfl), rfl⟩
  · have e : pixOk n f = false := by
      rw [← Bool.not_eq_true, pixOk_iff]
      intro hall
      have h9 := pixelOk_iff.2 (hall j hj)
      simp [h9] at hq
    have HE := hide e
    clear e hq
    go_wp2
    go_ret
    exact ⟨ret_bool (by rw [HE.out]; rfl), rfl⟩
end Go.Proofs.Ytfgcngjggdjcjaa

namespace Go.Proofs.Ytfgcngjggdjcjaa
open Go.RowKit
set_option linter.unusedVariables false
set_option maxRecDepth 100000

set_option maxHeartbeats 1000000 in
theorem pcheck_ok {w : World} {s : Value} {n : Nat} {f : Nat → Int} (a b : Int) (h : IntsIn w s n f) :
    Calls Try.prog 18 #[.agg #[.int .i64 a, .int .i64 b, s]] w fun e w' => e = .returned (errN (picF a b n f)) ∧ Below w.heap.size w w' := by
  have hb0 : Below w.heap.size w (w.alloc (.cells #[.int .i64 a, .int .i64 b, s] 25)) := (Below.refl _ _).alloc (Nat.le_refl _) _
  have HB := hide hb0
  have H0 := hide (h.below hb0)
  obtain ⟨ad, cap, rfl⟩ : ∃ ad cap, s = .slice ad n cap := by
    rcases h with ⟨rfl, a, c, rfl⟩ | ⟨_, b, o, c, rfl, _⟩
    · exact ⟨_, _, rfl⟩
    · exact ⟨_, _, rfl⟩
  have S := hide (fun x w => pside_ok x w)
  have HP : Hid (picF a b n f = if (sideOk a && sideOk b) = false then 1 else if (n : Int) ≠ a * b then 3 else if pixOk n f = false then 1 else 0) := by
    unfold Hid picF; rw [sides_two]
  clear hb0 h
  cases ha : sideOk a with
  | false =>
    have S1 := hide (S.out a)
    rw [ha] at S1
    have HE : Hid (picF a b n f = 1) := by unfold Hid; rw [HP.out, ha, Bool.false_and, if_pos rfl]
    clear ha HP
    go_enter Try.func18, Try.ntmps18
    go_wp2_with fail
    refine (S1.out _).mono ?_
    rintro e w1 ⟨rfl, rfl⟩
    go_wp2
    go_ret
    exact ⟨by rw [HE.out]; rfl, HB.out⟩
  | true =>
    have S1 := hide (S.out a)
    rw [ha] at S1
    cases hb : sideOk b with
    | false =>
      have S2 := hide (S.out b)
      rw [hb] at S2
      have HE : Hid (picF a b n f = 1) := by unfold Hid; rw [HP.out, hb, Bool.and_false, if_pos rfl]
      clear ha hb HP
      go_enter Try.func18, Try.ntmps18
      go_wp2_with fail
      refine (S1.out _).mono ?_
      rintro e w1 ⟨rfl, rfl⟩
      go_wp2_with fail
      refine (S2.out _).mono ?_
      rintro e w1 ⟨rfl, rfl⟩
      go_wp2
      go_ret
      exact ⟨by rw [HE.out]; rfl, HB.out⟩
    | true =>
      have S2 := hide (S.out b)
      rw [hb] at S2
      have h1 := sideOk_iff.1 ha
      have h2 := sideOk_iff.1 hb
      have hp0 : 0 ≤ a * b := Int.mul_nonneg (by omega) (by omega)
      have hp1 : a * b ≤ 36 := by
        have e1 : a * b ≤ 6 * b := Int.mul_le_mul_of_nonneg_right (by omega) (by omega)
        omega
      rw [ha, hb, Bool.and_self, if_neg (by simp)] at HP
      clear ha hb
      by_cases hn : (n : Int) = a * b
      · have hn1 : ((n : Int) == a * b) = true := by rw [beq_iff_eq]; exact hn
        have hn2 : n ≤ 36 := by omega
        have C := hide (pcont_ok H0.out (by omega))
        rw [if_neg (by simp [hn])] at HP
        clear hn
        cases hq : pixOk n f with
        | false =>
          rw [hq] at C
          have HE : Hid (picF a b n f = 1) := by unfold Hid; rw [HP.out, hq, if_pos rfl]
          clear hq HP
          go_enter Try.func18, Try.ntmps18
          go_wp2_with fail
          refine (S1.out _).mono ?_
          rintro e w1 ⟨rfl, rfl⟩
          go_wp2_with fail
          refine (S2.out _).mono ?_
          rintro e w1 ⟨rfl, rfl⟩
          go_wp2_with fail
          refine (C.out).mono ?_
          rintro e w1 ⟨rfl, rfl⟩
          go_wp2
          go_ret
          exact ⟨by rw [HE.out]; rfl, HB.out⟩
        | true =>
          rw [hq] at C
          have HE : Hid (picF a b n f = 0) := by unfold Hid; rw [HP.out, hq, if_neg (by simp)]
          clear hq HP
          go_enter Try.func18, Try.ntmps18
          go_wp2_with fail
          refine (S1.out _).mono ?_
          rintro e w1 ⟨rfl, rfl⟩
          go_wp2_with fail
          refine (S2.out _).mono ?_
          rintro e w1 ⟨rfl, rfl⟩
          go_wp2_with fail
          refine (C.out).mono ?_
          rintro e w1 ⟨rfl, rfl⟩
          go_wp2
          go_ret
          exact ⟨by rw [HE.out]; rfl, HB.out⟩
      · have hn1 : ((n : Int) == a * b) = false := by rw [beq_eq_false_iff_ne]; exact hn
        have HE : Hid (picF a b n f = 3) := by unfold Hid; rw [HP.out, if_pos hn]
        clear hn HP
        go_enter Try.func18, Try.ntmps18
        go_wp2_with fail
        refine (S1.out _).mono ?_
        rintro e w1 ⟨rfl, rfl⟩
        go_wp2_with fail
        refine (S2.out _).mono ?_
        rintro e w1 ⟨rfl, rfl⟩
        go_wp2
        go_ret
        exact ⟨by rw [HE.out]; rfl, HB.out⟩
end Go.Proofs.Ytfgcngjggdjcjaa
