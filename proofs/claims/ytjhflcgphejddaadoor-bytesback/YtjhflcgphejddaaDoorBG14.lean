/-
  Lemmas for the law above, joined into one text (AlR, IsAt, PicI). No statement is proved here.
-/
import Derived.Test.YtjhflcgphejddaaDoorBG2
import Derived.Test.YtjhflcgphejddaaDoorBG13
import Derived.Test.YtjhflcgphejddaaDoorBG0
namespace Go.Proofs.YtjhflcgphejddaaDoor
open Go.RowKit
set_option linter.unusedVariables false
set_option maxRecDepth 100000

def rndV (n s : Int) : Int := if rndF n s = 0 then rnd n s else 0
theorem around_any (n s : Int) (w : World) :
    Calls Tryd.prog 78 #[.int .i64 n, .int .i64 s] w fun e w' => e = .returned (.tuple #[.int .i64 (rndV n s), errN (rndF n s)]) ∧ w = w' := by
  have S1 := hide (astep_ok s w)
  have S2 := hide (aapart_ok n w)
  cases h1 : stepOk s with
  | false =>
    have HE : Hid (rndF n s = 1) := by unfold Hid rndF; rw [h1, if_neg (by simp)]
    have HV : Hid (rndV n s = 0) := by unfold Hid rndV; rw [HE.out, if_neg (by decide)]
    rw [h1] at S1
    clear h1
    go_enter Tryd.func78, Tryd.ntmps78
    go_wp2_with fail
    refine (S1.out).mono ?_
    rintro e w1 ⟨rfl, rfl⟩
    go_wp2
    go_ret2
    exact ⟨by rw [HE.out, HV.out]; rfl, rfl⟩
  | true =>
    rw [h1] at S1
    cases h2 : restOk n with
    | false =>
      have HE : Hid (rndF n s = 1) := by unfold Hid rndF; rw [h2, if_neg (by simp)]
      have HV : Hid (rndV n s = 0) := by unfold Hid rndV; rw [HE.out, if_neg (by decide)]
      rw [h2] at S2
      clear h1 h2
      go_enter Tryd.func78, Tryd.ntmps78
      go_wp2_with fail
      refine (S1.out).mono ?_
      rintro e w1 ⟨rfl, rfl⟩
      go_wp2_with fail
      refine (S2.out).mono ?_
      rintro e w1 ⟨rfl, rfl⟩
      go_wp2
      go_ret2
      exact ⟨by rw [HE.out, HV.out]; rfl, rfl⟩
    | true =>
      rw [h2] at S2
      have HE : Hid (rndF n s = 0) := by unfold Hid rndF; rw [h1, h2, if_pos ⟨rfl, rfl⟩]
      have q1 := stepOk_iff.1 h1
      have q2 := restOk_iff.1 h2
      have K := hide (asteps_ok n s w q2.1 q2.2 q1.1 q1.2)
      have HV : Hid (rndV n s = rnd n s) := by unfold Hid rndV; rw [HE.out, if_pos rfl]
      clear h1 h2 q1 q2
      generalize hr : rnd n s = r at *
      go_enter Tryd.func78, Tryd.ntmps78
      go_wp2_with fail
      refine (S1.out).mono ?_
      rintro e w1 ⟨rfl, rfl⟩
      go_wp2_with fail
      refine (S2.out).mono ?_
      rintro e w1 ⟨rfl, rfl⟩
      go_wp2_with fail
      refine (K.out).mono ?_
      rintro e w1 ⟨rfl, rfl⟩
      go_wp2
      go_ret2
      exact ⟨by rw [HE.out, HV.out]; rfl, rfl⟩
end Go.Proofs.YtjhflcgphejddaaDoor

namespace Go.Proofs.YtjhflcgphejddaaDoor
open Go.RowKit
set_option linter.unusedVariables false
set_option maxRecDepth 100000

/-- Where a first one is found, or that none is. -/
def IsAt (q : Nat → Bool) (n : Nat) (i : Int) : Prop := (i = -1 ∧ ∀ j, j < n → q j = false) ∨ ∃ j : Nat, i = j ∧ j < n ∧ q j = true
end Go.Proofs.YtjhflcgphejddaaDoor

namespace Go.Proofs.YtjhflcgphejddaaDoor
open Go.RowKit
set_option linter.unusedVariables false
set_option maxRecDepth 100000

theorem pnot_ok (n : Int) (w : World) : Calls Tryd.prog 76 #[.int .i64 n] w fun e w' => e = .returned (.bool (!pixelOk n)) ∧ w = w' := by
  have K := hide (ppixel_ok n w)
  go_enter Tryd.func76, Tryd.ntmps76
  go_wp2_with fail
  refine (K.out).mono ?_
  rintro e w1 ⟨rfl, rfl⟩
  go_wp2
  go_ret
  exact ⟨rfl, rfl⟩

set_option maxHeartbeats 1000000 in
theorem pidx_ok {w : World} {v : Value} {n : Nat} {f : Nat → Int} (h : IntsIn w v n f) (hn : n ≤ 1000) :
    Calls Tryd.prog 80 #[v, .func (.func 76) #[] #[]] w fun e w' => ∃ i : Int, e = .returned (.int .i64 i) ∧ IsAt (fun j => !pixelOk (f j)) n i ∧ w = w' := by
  rcases h with ⟨rfl, a, cap, rfl⟩ | ⟨h0, b, o, cap, rfl, hc⟩
  · go_enter Tryd.func80, Tryd.ntmps80
    go_wp2
    go_loop [8] (fun i => i = .int .i64 0) (fun _ => 0)
    case atStart => rfl
    case round =>
      obtain rfl := hrel
      go_wp2
      go_ret
      exact ⟨_, rfl, Or.inl ⟨rfl, fun j hj => absurd hj (Nat.not_lt_zero _)⟩, rfl⟩
  · have HC := hide hc
    clear hc
    go_enter Tryd.func80, Tryd.ntmps80
    go_wp2
    go_loop [5, 8] (fun _ i => ∃ j : Nat, j ≤ n ∧ i = .int .i64 j ∧ ∀ q, q < j → pixelOk (f q) = true) (fun _ i => n - (intOf i).toNat)
    case atStart => exact ⟨0, Nat.zero_le _, rfl, fun q hq => absurd hq (Nat.not_lt_zero _)⟩
    case round =>
      obtain ⟨j, hj, rfl, hno⟩ := hrel
      have HN := hide hno
      clear hno
      by_cases hlt : j < n
      · have hc := HC.out j hlt
        have K := hide (pnot_ok (f j) w)
        generalize hx : f j = x at *
        have HX := hide hx
        clear hx
        cases hq : pixelOk x with
        | false =>
          have HQ := hide hq
          rw [hq] at K
          clear hq
          go_wp2_with (go_at_call 76; refine (K.out).mono ?_; rintro e w1 ⟨rfl, rfl⟩)
          go_ret
          exact ⟨_, rfl, Or.inr ⟨j, rfl, hlt, by show (!pixelOk (f j)) = true; rw [HX.out, HQ.out]; rfl⟩, rfl⟩
        | true =>
          have HQ := hide hq
          rw [hq] at K
          clear hq
          go_wp2_with (go_at_call 76; refine (K.out).mono ?_; rintro e w1 ⟨rfl, rfl⟩)
          go_round
          case rel =>
            refine ⟨j + 1, by omega, by go_num, fun q hq => ?_⟩
            by_cases c : q = j
            · rw [c, HX.out]; exact HQ.out
            · exact HN.out q (by omega)
          case measure => simp [intOf]; omega
      · obtain rfl : j = n := by omega
        go_wp2
        go_ret
        exact ⟨_, rfl, Or.inl ⟨rfl, fun q hq => by show (!pixelOk (f q)) = false; rw [HN.out q hq]; rfl⟩, rfl⟩

theorem pcont_ok {w : World} {v : Value} {n : Nat} {f : Nat → Int} (h : IntsIn w v n f) (hn : n ≤ 1000) :
    Calls Tryd.prog 57 #[v, .func (.func 76) #[] #[]] w fun e w' => e = .returned (.bool (!pixOk n f)) ∧ w = w' := by
  have K := hide (pidx_ok h hn)
  clear h
  go_enter Tryd.func57, Tryd.ntmps57
  go_wp2_with fail
  refine (K.out).mono ?_
  rintro e w1 ⟨i, rfl, hi, rfl⟩
  rcases hi with ⟨rfl, ha⟩ | ⟨j, rfl, hj, hq⟩
  · have e : pixOk n f = true := pixOk_iff.2 fun i hi => pixelOk_iff.1 (by have := ha i hi; simpa using this)
    have HE := hide e
    clear e ha
    go_wp2
    go_ret
    exact ⟨ret_bool (by rw [HE.out]; rfl), rfl⟩
  · have e : pixOk n f = false := by
      rw [← Bool.not_eq_true, pixOk_iff]
      intro hall
      have h9 := pixelOk_iff.2 (hall j hj)
      simp [h9] at hq
    have HE := hide e
    clear e hq
    go_wp2
    go_ret
    exact ⟨ret_bool (by rw [HE.out]; rfl), rfl⟩
end Go.Proofs.YtjhflcgphejddaaDoor
