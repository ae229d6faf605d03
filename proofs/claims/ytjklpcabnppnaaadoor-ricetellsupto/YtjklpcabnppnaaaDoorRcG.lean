/-
  Our own contract of slices.ContainsFunc at rice's own test of a bit. Lemmas for the laws above; no statement is proved here.
-/
import Derived.Test.YtjklpcabnppnaaaDoorRcT
import Derived.Test.YtjklpcabnppnaaaDoorIntsD
import Derived.Test.YtjklpcabnppnaaaDoorIsAt
namespace Go.Proofs.YtjklpcabnppnaaaDoor
open Go.RowKit
set_option linter.unusedVariables false
set_option maxRecDepth 100000

def bitOk (n : Int) : Bool := decide (n = 0) || decide (n = 1)
theorem bitOk_iff {n : Int} : bitOk n = true ↔ n = 0 ∨ n = 1 := by simp [bitOk]
theorem bitOk_not {n : Int} : bitOk n = false ↔ n ≠ 0 ∧ n ≠ 1 := by rw [← Bool.not_eq_true, bitOk_iff]; omega
/-- Whether each of the first is a bit. -/
def bitsOk (f : Nat → Int) : Nat → Bool
  | 0 => true
  | n + 1 => bitsOk f n && bitOk (f n)
theorem bitsOk_iff {f : Nat → Int} : ∀ {n}, bitsOk f n = true ↔ ∀ i, i < n → f i = 0 ∨ f i = 1
  | 0 => ⟨fun _ i hi => absurd hi (Nat.not_lt_zero _), fun _ => rfl⟩
  | n + 1 => by
    show (bitsOk f n && bitOk (f n)) = true ↔ _
    rw [Bool.and_eq_true, bitsOk_iff, bitOk_iff]
    constructor
    · intro h i hi
      by_cases c : i = n
      · subst c; exact h.2
      · exact h.1 i (by omega)
    · intro h
      exact ⟨fun i hi => h i (by omega), h n (by omega)⟩

theorem nbit_ok (n : Int) (w : World) : Calls Tryd.prog 20 #[.int .i64 n] w fun e w' => e = .returned (.bool (!bitOk n)) ∧ w = w' := by
  by_cases c : n = 0
  · subst c
    go_enter Tryd.func20, Tryd.ntmps20
    go_wp2
    go_ret
    exact ⟨rfl, rfl⟩
  · by_cases c2 : n = 1
    · subst c2
      clear c
      go_enter Tryd.func20, Tryd.ntmps20
      go_wp2
      go_ret
      exact ⟨rfl, rfl⟩
    · have HZ : Hid (bitOk n = false) := bitOk_not.2 ⟨c, c2⟩
      have h1 : (n != 0) = true := by simp [bne, c]
      have h2 : (n != 1) = true := by simp [bne, c2]
      have h3 : (n == 0) = false := by rw [beq_eq_false_iff_ne]; exact c
      have h4 : (n == 1) = false := by rw [beq_eq_false_iff_ne]; exact c2
      clear c c2
      go_enter Tryd.func20, Tryd.ntmps20
      go_wp2
      go_ret
      exact ⟨ret_bool (by rw [HZ.out]; rfl), rfl⟩

set_option maxHeartbeats 1000000 in
theorem bidx_ok {w : World} {v : Value} {n : Nat} {f : Nat → Int} (h : IntsIn w v n f) (hn : n ≤ 2000) :
    Calls Tryd.prog 24 #[v, .func (.func 20) #[] #[]] w fun e w' => ∃ i : Int, e = .returned (.int .i64 i) ∧ IsAt (fun j => !bitOk (f j)) n i ∧ w = w' := by
  rcases h with ⟨rfl, a, cap, rfl⟩ | ⟨h0, b, o, cap, rfl, hc⟩
  · go_enter Tryd.func24, Tryd.ntmps24
    go_wp2
    go_loop [8] (fun i => i = .int .i64 0) (fun _ => 0)
    case atStart => rfl
    case round =>
      obtain rfl := hrel
      go_wp2
      go_ret
      exact ⟨_, rfl, Or.inl ⟨rfl, fun j hj => absurd hj (Nat.not_lt_zero _)⟩, rfl⟩
  · have HC := hide hc
    clear hc
    go_enter Tryd.func24, Tryd.ntmps24
    go_wp2
    go_loop [5, 8] (fun _ i => ∃ j : Nat, j ≤ n ∧ i = .int .i64 j ∧ ∀ q, q < j → bitOk (f q) = true) (fun _ i => n - (intOf i).toNat)
    case atStart => exact ⟨0, Nat.zero_le _, rfl, fun q hq => absurd hq (Nat.not_lt_zero _)⟩
    case round =>
      obtain ⟨j, hj, rfl, hno⟩ := hrel
      have HN := hide hno
      clear hno
      by_cases hlt : j < n
      · have hc := HC.out j hlt
        have K := hide (nbit_ok (f j) w)
        generalize hx : f j = x at *
        have HX := hide hx
        clear hx
        cases hq : bitOk x with
        | false =>
          have HQ := hide hq
          rw [hq] at K
          clear hq
          go_wp2_with (go_at_call 20; refine (K.out).mono ?_; rintro e w1 ⟨rfl, rfl⟩)
          go_ret
          exact ⟨_, rfl, Or.inr ⟨j, rfl, hlt, by show (!bitOk (f j)) = true; rw [HX.out, HQ.out]; rfl⟩, rfl⟩
        | true =>
          have HQ := hide hq
          rw [hq] at K
          clear hq
          go_wp2_with (go_at_call 20; refine (K.out).mono ?_; rintro e w1 ⟨rfl, rfl⟩)
          go_round
          case rel =>
            refine ⟨j + 1, by omega, by go_num, fun q hq => ?_⟩
            by_cases c : q = j
            · rw [c, HX.out]; exact HQ.out
            · exact HN.out q (by omega)
          case measure => simp [intOf]; omega
      · obtain rfl : j = n := by omega
        go_wp2
        go_ret
        exact ⟨_, rfl, Or.inl ⟨rfl, fun q hq => by show (!bitOk (f q)) = false; rw [HN.out q hq]; rfl⟩, rfl⟩

theorem bcont_ok {w : World} {v : Value} {n : Nat} {f : Nat → Int} (h : IntsIn w v n f) (hn : n ≤ 2000) :
    Calls Tryd.prog 19 #[v, .func (.func 20) #[] #[]] w fun e w' => e = .returned (.bool (!bitsOk f n)) ∧ w = w' := by
  have K := hide (bidx_ok h hn)
  clear h
  go_enter Tryd.func19, Tryd.ntmps19
  go_wp2_with fail
  refine (K.out).mono ?_
  rintro e w1 ⟨i, rfl, hi, rfl⟩
  rcases hi with ⟨rfl, ha⟩ | ⟨j, rfl, hj, hq⟩
  · have e : bitsOk f n = true := bitsOk_iff.2 fun i hi => bitOk_iff.1 (by have := ha i hi; simpa using this)
    have HE := hide e
    clear e ha
    go_wp2
    go_ret
    exact ⟨ret_bool (by rw [HE.out]; rfl), rfl⟩
  · have e : bitsOk f n = false := by
      rw [← Bool.not_eq_true, bitsOk_iff]
      intro hall
      have h9 := bitOk_iff.2 (hall j hj)
      simp [h9] at hq
    have HE := hide e
    clear e hq
    go_wp2
    go_ret
    exact ⟨ret_bool (by rw [HE.out]; rfl), rfl⟩
end Go.Proofs.YtjklpcabnppnaaaDoor
