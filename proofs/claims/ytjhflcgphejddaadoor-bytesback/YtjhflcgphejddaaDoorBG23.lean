/-
  Lemmas for the law above, joined into one text (RcT, RcA, RcL). No statement is proved here.
-/
import Derived.Test.YtjhflcgphejddaaDoorBG5
import Derived.Test.YtjhflcgphejddaaDoorBG0
import Derived.Test.YtjhflcgphejddaaDoorBG14
import Derived.Test.YtjhflcgphejddaaDoorBG9
namespace Go.Proofs.YtjhflcgphejddaaDoor
open Go.RowKit
set_option linter.unusedVariables false
set_option maxRecDepth 100000

def lowOk (n : Int) : Bool := decide (0 ≤ n) && decide (n ≤ 7)
def numOk (n : Int) : Bool := decide (-255 ≤ n) && decide (n ≤ 255)
theorem lowOk_iff {n : Int} : lowOk n = true ↔ 0 ≤ n ∧ n ≤ 7 := by simp [lowOk]
theorem lowOk_not {n : Int} : lowOk n = false ↔ n < 0 ∨ 7 < n := by rw [← Bool.not_eq_true, lowOk_iff]; omega
theorem numOk_iff {n : Int} : numOk n = true ↔ -255 ≤ n ∧ n ≤ 255 := by simp [numOk]
theorem numOk_not {n : Int} : numOk n = false ↔ n < -255 ∨ 255 < n := by rw [← Bool.not_eq_true, numOk_iff]; omega
/-- Whether each of the first is a number that may be. -/
def numsOk (f : Nat → Int) : Nat → Bool
  | 0 => true
  | n + 1 => numsOk f n && numOk (f n)
theorem numsOk_iff {f : Nat → Int} : ∀ {n}, numsOk f n = true ↔ ∀ i, i < n → -255 ≤ f i ∧ f i ≤ 255
  | 0 => ⟨fun _ i hi => absurd hi (Nat.not_lt_zero _), fun _ => rfl⟩
  | n + 1 => by
    show (numsOk f n && numOk (f n)) = true ↔ _
    rw [Bool.and_eq_true, numsOk_iff, numOk_iff]
    constructor
    · intro h i hi
      by_cases c : i = n
      · subst c; exact h.2
      · exact h.1 i (by omega)
    · intro h
      exact ⟨fun i hi => h i (by omega), h n (by omega)⟩
theorem numsOk_not {f : Nat → Int} {n i : Nat} (hi : i < n) (h : numOk (f i) = false) : numsOk f n = false := by
  rw [← Bool.not_eq_true, numsOk_iff]
  intro hall
  have := numOk_not.1 h
  have := hall i hi
  omega

theorem told_ok (n : Int) (w : World) (h : -255 ≤ n ∧ n ≤ 255) : Calls Tryd.prog 41 #[.int .i64 n] w fun e w' => e = .returned (.int .i64 (zz n : Nat)) ∧ w = w' := by
  obtain ⟨h1, h2⟩ := h
  by_cases c : n < 0
  · have HZ : Hid (((zz n : Nat) : Int) = -2 * n - 1) := by unfold Hid zz; rw [if_pos c]; omega
    go_enter Tryd.func41, Tryd.ntmps41
    go_wp2
    go_ret
    exact ⟨ret_int (by rw [HZ.out]), rfl⟩
  · have HZ : Hid (((zz n : Nat) : Int) = 2 * n) := by unfold Hid zz; rw [if_neg c]; omega
    go_enter Tryd.func41, Tryd.ntmps41
    go_wp2
    go_ret
    exact ⟨ret_int (by rw [HZ.out]), rfl⟩

theorem islow_ok (n : Int) (w : World) : Calls Tryd.prog 37 #[.int .i64 n] w fun e w' => e = .returned (.bool (lowOk n)) ∧ w = w' := by
  by_cases c : n < 0
  · have HZ : Hid (lowOk n = false) := lowOk_not.2 (Or.inl c)
    go_enter Tryd.func37, Tryd.ntmps37
    go_wp2
    go_ret
    exact ⟨ret_bool (by rw [HZ.out]), rfl⟩
  · by_cases c2 : 7 < n
    · have HZ : Hid (lowOk n = false) := lowOk_not.2 (Or.inr c2)
      go_enter Tryd.func37, Tryd.ntmps37
      go_wp2
      go_ret
      exact ⟨ret_bool (by first | (rw [HZ.out]; done) | (rw [HZ.out]; simp; done) | (rw [HZ.out]; simp; omega)), rfl⟩
    · have HZ : Hid (lowOk n = true) := lowOk_iff.2 (by omega)
      go_enter Tryd.func37, Tryd.ntmps37
      go_wp2
      go_ret
      exact ⟨ret_bool (by first | (rw [HZ.out]; done) | (rw [HZ.out]; simp; done) | (rw [HZ.out]; simp; omega)), rfl⟩

theorem nnum_ok (n : Int) (w : World) : Calls Tryd.prog 58 #[.int .i64 n] w fun e w' => e = .returned (.bool (!numOk n)) ∧ w = w' := by
  by_cases c : n < -255
  · have HZ : Hid (numOk n = false) := numOk_not.2 (Or.inl c)
    go_enter Tryd.func58, Tryd.ntmps58
    go_wp2
    go_ret
    exact ⟨ret_bool (by rw [HZ.out]; rfl), rfl⟩
  · by_cases c2 : 255 < n
    · have HZ : Hid (numOk n = false) := numOk_not.2 (Or.inr c2)
      go_enter Tryd.func58, Tryd.ntmps58
      go_wp2
      go_ret
      exact ⟨ret_bool (by first | (rw [HZ.out]; done) | (rw [HZ.out]; simp; done) | (rw [HZ.out]; simp; omega)), rfl⟩
    · have HZ : Hid (numOk n = true) := numOk_iff.2 (by omega)
      go_enter Tryd.func58, Tryd.ntmps58
      go_wp2
      go_ret
      exact ⟨ret_bool (by first | (rw [HZ.out]; done) | (rw [HZ.out]; simp; done) | (rw [HZ.out]; simp; omega)), rfl⟩
end Go.Proofs.YtjhflcgphejddaaDoor

namespace Go.Proofs.YtjhflcgphejddaaDoor
open Go.RowKit
set_option linter.unusedVariables false
set_option maxRecDepth 100000

set_option maxHeartbeats 1000000 in
theorem nidx_ok {w : World} {v : Value} {n : Nat} {f : Nat → Int} (h : IntsIn w v n f) (hn : n ≤ 17592186044416) :
    Calls Tryd.prog 80 #[v, .func (.func 58) #[] #[]] w fun e w' => ∃ i : Int, e = .returned (.int .i64 i) ∧ IsAt (fun j => !numOk (f j)) n i ∧ w = w' := by
  rcases h with ⟨rfl, a, cap, rfl⟩ | ⟨h0, b, o, cap, rfl, hc⟩
  · go_enter Tryd.func80, Tryd.ntmps80
    go_wp2
    go_loop [8] (fun i => i = .int .i64 0) (fun _ => 0)
    case atStart => rfl
    case round =>
      obtain rfl := hrel
      go_wp2
      go_ret
      exact ⟨_, rfl, Or.inl ⟨rfl, fun j hj => absurd hj (Nat.not_lt_zero _)⟩, rfl⟩
  · have HC := hide hc
    clear hc
    go_enter Tryd.func80, Tryd.ntmps80
    go_wp2
    go_loop [5, 8] (fun _ i => ∃ j : Nat, j ≤ n ∧ i = .int .i64 j ∧ ∀ q, q < j → numOk (f q) = true) (fun _ i => n - (intOf i).toNat)
    case atStart => exact ⟨0, Nat.zero_le _, rfl, fun q hq => absurd hq (Nat.not_lt_zero _)⟩
    case round =>
      obtain ⟨j, hj, rfl, hno⟩ := hrel
      have HN := hide hno
      clear hno
      by_cases hlt : j < n
      · have hc := HC.out j hlt
        have K := hide (nnum_ok (f j) w)
        generalize hx : f j = x at *
        have HX := hide hx
        clear hx
        cases hq : numOk x with
        | false =>
          have HQ := hide hq
          rw [hq] at K
          clear hq
          go_wp2_with (go_at_call 58; refine (K.out).mono ?_; rintro e w1 ⟨rfl, rfl⟩)
          go_ret
          exact ⟨_, rfl, Or.inr ⟨j, rfl, hlt, by show (!numOk (f j)) = true; rw [HX.out, HQ.out]; rfl⟩, rfl⟩
        | true =>
          have HQ := hide hq
          rw [hq] at K
          clear hq
          go_wp2_with (go_at_call 58; refine (K.out).mono ?_; rintro e w1 ⟨rfl, rfl⟩)
          go_round
          case rel =>
            refine ⟨j + 1, by omega, by go_num, fun q hq => ?_⟩
            by_cases c : q = j
            · rw [c, HX.out]; exact HQ.out
            · exact HN.out q (by omega)
          case measure => simp [intOf]; omega
      · obtain rfl : j = n := by omega
        go_wp2
        go_ret
        exact ⟨_, rfl, Or.inl ⟨rfl, fun q hq => by show (!numOk (f q)) = false; rw [HN.out q hq]; rfl⟩, rfl⟩

theorem ncont_ok {w : World} {v : Value} {n : Nat} {f : Nat → Int} (h : IntsIn w v n f) (hn : n ≤ 17592186044416) :
    Calls Tryd.prog 57 #[v, .func (.func 58) #[] #[]] w fun e w' => e = .returned (.bool (!numsOk f n)) ∧ w = w' := by
  have K := hide (nidx_ok h hn)
  clear h
  go_enter Tryd.func57, Tryd.ntmps57
  go_wp2_with fail
  refine (K.out).mono ?_
  rintro e w1 ⟨i, rfl, hi, rfl⟩
  rcases hi with ⟨rfl, ha⟩ | ⟨j, rfl, hj, hq⟩
  · have e : numsOk f n = true := numsOk_iff.2 fun i hi => numOk_iff.1 (by have := ha i hi; simpa using this)
    have HE := hide e
    clear e ha
    go_wp2
    go_ret
    exact ⟨ret_bool (by rw [HE.out]; rfl), rfl⟩
  · have e : numsOk f n = false := by
      rw [← Bool.not_eq_true, numsOk_iff]
      intro hall
      have h9 := numOk_iff.2 (hall j hj)
      simp [h9] at hq
    have HE := hide e
    clear e hq
    go_wp2
    go_ret
    exact ⟨ret_bool (by rw [HE.out]; rfl), rfl⟩

theorem arenum_ok {w : World} {v : Value} {n : Nat} {f : Nat → Int} (h : IntsIn w v n f) (hn : n ≤ 17592186044416) :
    Calls Tryd.prog 38 #[v] w fun e w' => e = .returned (.bool (numsOk f n)) ∧ w = w' := by
  have K := hide (ncont_ok h hn)
  clear h
  generalize numsOk f n = r at *
  go_enter Tryd.func38, Tryd.ntmps38
  go_wp2_with fail
  refine (K.out).mono ?_
  rintro e w1 ⟨rfl, rfl⟩
  cases r <;>
  · go_wp2
    go_ret
    exact ⟨rfl, rfl⟩
end Go.Proofs.YtjhflcgphejddaaDoor

namespace Go.Proofs.YtjhflcgphejddaaDoor
open Go.RowKit
set_option linter.unusedVariables false
set_option maxRecDepth 100000

set_option maxHeartbeats 1000000 in
theorem length_ok {w : World} {v : Value} {n low : Nat} {f : Nat → Int} (h : IntsIn w v n f) (hn : n ≤ 17592186044416) (hl : low ≤ 7) (hf : ∀ i, i < n → -255 ≤ f i ∧ f i ≤ 255) :
    Calls Tryd.prog 39 #[v, .int .i64 low] w fun e w' => e = .returned (.int .i64 (lenN low f n : Nat)) ∧ w = w' := by
  rcases h with ⟨rfl, a, cap, rfl⟩ | ⟨h0, b, o, cap, rfl, hc⟩
  · clear hf
    go_enter Tryd.func39, Tryd.ntmps39
    go_wp2
    go_loop [5, 10] (fun u i => u = .int .i64 0 ∧ i = .int .i64 0) (fun _ _ => 0)
    case atStart => exact ⟨rfl, rfl⟩
    case round =>
      obtain ⟨rfl, rfl⟩ := hrel
      go_wp2
      go_ret
      exact ⟨rfl, rfl⟩
  · have HC := hide hc
    have HF := hide hf
    clear hc hf
    go_enter Tryd.func39, Tryd.ntmps39
    go_wp2
    go_loop [5, 10] (fun u i => ∃ j : Nat, j ≤ n ∧ i = .int .i64 j ∧ u = .int .i64 (lenN low f j : Nat)) (fun _ i => n - (intOf i).toNat)
    case atStart => exact ⟨0, Nat.zero_le _, rfl, rfl⟩
    case round =>
      obtain ⟨j, hj, rfl, rfl⟩ := hrel
      by_cases hlt : j < n
      · have hcj := HC.out j hlt
        have K := hide (told_ok (f j) w (HF.out j hlt))
        have hz := zz_le (HF.out j hlt)
        have hm := lenN_le (f := f) hl (n := j) (fun i hi => HF.out i (by omega))
        have HS := hide (lenN_succ low f j)
        have e1 := shr_nat (zz (f j)) low
        have e2 := shr_nat' (zz (f j)) low
        have hq := Nat.div_le_self (zz (f j)) (2 ^ low)
        generalize lenN low f j = m at *
        generalize f j = x at *
        generalize zz x = y at *
        generalize y / 2 ^ low = q at *
        go_wp2_with fail
        refine (K.out).mono ?_
        rintro e w1 ⟨rfl, rfl⟩
        go_wp2
        go_round
        case rel =>
          refine ⟨j + 1, by omega, by go_num, ?_⟩
          rw [HS.out]
          first | (simp; done) | (simp; omega) | (congr 1; omega)
        case measure => simp [intOf]; omega
      · obtain rfl : j = n := by omega
        go_wp2
        go_ret
        exact ⟨rfl, rfl⟩
end Go.Proofs.YtjhflcgphejddaaDoor
