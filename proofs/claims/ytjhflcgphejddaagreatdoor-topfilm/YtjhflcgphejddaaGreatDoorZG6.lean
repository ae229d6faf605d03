/-
  Lemmas for the law above, joined into one text (AlS0, AlR, IsAt, PicI, AlE, AlI, AlS). No statement is proved here.
-/
import Derived.Test.YtjhflcgphejddaaGreatDoorZG5
import Derived.Test.YtjhflcgphejddaaGreatDoorZG0
namespace Go.Proofs.YtjhflcgphejddaaGreatDoor
open Go.RowKit
set_option linter.unusedVariables false
set_option maxRecDepth 100000

set_option maxHeartbeats 1000000 in
theorem asteps_up (n s : Int) (w : World) (h0 : 0 ≤ n) (h1 : n ≤ 255) (s1 : 1 ≤ s) (s2 : s ≤ 64) :
    Calls Tryz.prog 95 #[.int .i64 n, .int .i64 s] w fun e w' => e = .returned (.int .i64 (rnd n s)) ∧ w = w' := by
  have HR : Hid (rnd n s = (n + s / 2) / s) := rnd_pos h0
  have hq1 := rnd_up s1 h0
  rw [HR.out] at hq1
  have g1 : s.tdiv 2 = s / 2 := Int.tdiv_eq_ediv_of_nonneg (by omega)
  have g2 : (n + s / 2).tdiv s = (n + s / 2) / s := Int.tdiv_eq_ediv_of_nonneg (by omega)
  have b1 : 0 ≤ s / 2 ∧ s / 2 ≤ 32 := by omega
  generalize hq : (n + s / 2) / s = q at *
  clear hq
  generalize hh : s / 2 = t at *
  clear hh
  obtain ⟨b1, b2⟩ := b1
  obtain ⟨q1, q2⟩ := hq1
  go_enter Tryz.func95, Tryz.ntmps95
  go_wp2
  go_ret
  exact ⟨ret_int (by rw [HR.out]), rfl⟩

theorem asteps_ok (n s : Int) (w : World) (h0 : -255 ≤ n) (h1 : n ≤ 255) (s1 : 1 ≤ s) (s2 : s ≤ 64) :
    Calls Tryz.prog 95 #[.int .i64 n, .int .i64 s] w fun e w' => e = .returned (.int .i64 (rnd n s)) ∧ w = w' := by
  by_cases h : 0 ≤ n
  · exact asteps_up n s w h h1 s1 s2
  · have K := hide (asteps_up (-n) s w (by omega) (by omega) s1 s2)
    have HR : Hid (rnd n s = -rnd (-n) s) := rnd_neg (by omega)
    have hq := rnd_up s1 (show 0 ≤ -n by omega)
    generalize rnd (-n) s = q at *
    obtain ⟨q1, q2⟩ := hq
    go_enter Tryz.func95, Tryz.ntmps95
    go_wp2_with fail
    refine (K.out).mono ?_
    rintro e w1 ⟨rfl, rfl⟩
    go_wp2
    go_ret
    exact ⟨ret_int (by rw [HR.out]), rfl⟩
end Go.Proofs.YtjhflcgphejddaaGreatDoor

namespace Go.Proofs.YtjhflcgphejddaaGreatDoor
open Go.RowKit
set_option linter.unusedVariables false
set_option maxRecDepth 100000

def rndV (n s : Int) : Int := if rndF n s = 0 then rnd n s else 0
theorem around_any (n s : Int) (w : World) :
    Calls Tryz.prog 92 #[.int .i64 n, .int .i64 s] w fun e w' => e = .returned (.tuple #[.int .i64 (rndV n s), errN (rndF n s)]) ∧ w = w' := by
  have S1 := hide (astep_ok s w)
  have S2 := hide (aapart_ok n w)
  cases h1 : stepOk s with
  | false =>
    have HE : Hid (rndF n s = 1) := by unfold Hid rndF; rw [h1, if_neg (by simp)]
    have HV : Hid (rndV n s = 0) := by unfold Hid rndV; rw [HE.out, if_neg (by decide)]
    rw [h1] at S1
    clear h1
    go_enter Tryz.func92, Tryz.ntmps92
    go_wp2_with fail
    refine (S1.out).mono ?_
    rintro e w1 ⟨rfl, rfl⟩
    go_wp2
    go_ret2
    exact ⟨by rw [HE.out, HV.out]; rfl, rfl⟩
  | true =>
    rw [h1] at S1
    cases h2 : restOk n with
    | false =>
      have HE : Hid (rndF n s = 1) := by unfold Hid rndF; rw [h2, if_neg (by simp)]
      have HV : Hid (rndV n s = 0) := by unfold Hid rndV; rw [HE.out, if_neg (by decide)]
      rw [h2] at S2
      clear h1 h2
      go_enter Tryz.func92, Tryz.ntmps92
      go_wp2_with fail
      refine (S1.out).mono ?_
      rintro e w1 ⟨rfl, rfl⟩
      go_wp2_with fail
      refine (S2.out).mono ?_
      rintro e w1 ⟨rfl, rfl⟩
      go_wp2
      go_ret2
      exact ⟨by rw [HE.out, HV.out]; rfl, rfl⟩
    | true =>
      rw [h2] at S2
      have HE : Hid (rndF n s = 0) := by unfold Hid rndF; rw [h1, h2, if_pos ⟨rfl, rfl⟩]
      have q1 := stepOk_iff.1 h1
      have q2 := restOk_iff.1 h2
      have K := hide (asteps_ok n s w q2.1 q2.2 q1.1 q1.2)
      have HV : Hid (rndV n s = rnd n s) := by unfold Hid rndV; rw [HE.out, if_pos rfl]
      clear h1 h2 q1 q2
      generalize hr : rnd n s = r at *
      go_enter Tryz.func92, Tryz.ntmps92
      go_wp2_with fail
      refine (S1.out).mono ?_
      rintro e w1 ⟨rfl, rfl⟩
      go_wp2_with fail
      refine (S2.out).mono ?_
      rintro e w1 ⟨rfl, rfl⟩
      go_wp2_with fail
      refine (K.out).mono ?_
      rintro e w1 ⟨rfl, rfl⟩
      go_wp2
      go_ret2
      exact ⟨by rw [HE.out, HV.out]; rfl, rfl⟩
end Go.Proofs.YtjhflcgphejddaaGreatDoor

namespace Go.Proofs.YtjhflcgphejddaaGreatDoor
open Go.RowKit
set_option linter.unusedVariables false
set_option maxRecDepth 100000

/-- Where a first one is found, or that none is. -/
def IsAt (q : Nat → Bool) (n : Nat) (i : Int) : Prop := (i = -1 ∧ ∀ j, j < n → q j = false) ∨ ∃ j : Nat, i = j ∧ j < n ∧ q j = true
end Go.Proofs.YtjhflcgphejddaaGreatDoor

namespace Go.Proofs.YtjhflcgphejddaaGreatDoor
open Go.RowKit
set_option linter.unusedVariables false
set_option maxRecDepth 100000

theorem pnot_ok (n : Int) (w : World) : Calls Tryz.prog 86 #[.int .i64 n] w fun e w' => e = .returned (.bool (!pixelOk n)) ∧ w = w' := by
  have K := hide (ppixel_ok n w)
  go_enter Tryz.func86, Tryz.ntmps86
  go_wp2_with fail
  refine (K.out).mono ?_
  rintro e w1 ⟨rfl, rfl⟩
  go_wp2
  go_ret
  exact ⟨rfl, rfl⟩

set_option maxHeartbeats 1000000 in
theorem pidx_ok {w : World} {v : Value} {n : Nat} {f : Nat → Int} (h : IntsIn w v n f) (hn : n ≤ 1000) :
    Calls Tryz.prog 131 #[v, .func (.func 86) #[] #[]] w fun e w' => ∃ i : Int, e = .returned (.int .i64 i) ∧ IsAt (fun j => !pixelOk (f j)) n i ∧ w = w' := by
  rcases h with ⟨rfl, a, cap, rfl⟩ | ⟨h0, b, o, cap, rfl, hc⟩
  · go_enter Tryz.func131, Tryz.ntmps131
    go_wp2
    go_loop [8] (fun i => i = .int .i64 0) (fun _ => 0)
    case atStart => rfl
    case round =>
      obtain rfl := hrel
      go_wp2
      go_ret
      exact ⟨_, rfl, Or.inl ⟨rfl, fun j hj => absurd hj (Nat.not_lt_zero _)⟩, rfl⟩
  · have HC := hide hc
    clear hc
    go_enter Tryz.func131, Tryz.ntmps131
    go_wp2
    go_loop [5, 8] (fun _ i => ∃ j : Nat, j ≤ n ∧ i = .int .i64 j ∧ ∀ q, q < j → pixelOk (f q) = true) (fun _ i => n - (intOf i).toNat)
    case atStart => exact ⟨0, Nat.zero_le _, rfl, fun q hq => absurd hq (Nat.not_lt_zero _)⟩
    case round =>
      obtain ⟨j, hj, rfl, hno⟩ := hrel
      have HN := hide hno
      clear hno
      by_cases hlt : j < n
      · have hc := HC.out j hlt
        have K := hide (pnot_ok (f j) w)
        generalize hx : f j = x at *
        have HX := hide hx
        clear hx
        cases hq : pixelOk x with
        | false =>
          have HQ := hide hq
          rw [hq] at K
          clear hq
          go_wp2_with (go_at_call 86; refine (K.out).mono ?_; rintro e w1 ⟨rfl, rfl⟩)
          go_ret
          exact ⟨_, rfl, Or.inr ⟨j, rfl, hlt, by show (!pixelOk (f j)) = true; rw [HX.out, HQ.out]; rfl⟩, rfl⟩
        | true =>
          have HQ := hide hq
          rw [hq] at K
          clear hq
          go_wp2_with (go_at_call 86; refine (K.out).mono ?_; rintro e w1 ⟨rfl, rfl⟩)
          go_round
          case rel =>
            refine ⟨j + 1, by omega, by go_num, fun q hq => ?_⟩
            by_cases c : q = j
            · rw [c, HX.out]; exact HQ.out
            · exact HN.out q (by omega)
          case measure => simp [intOf]; omega
      · obtain rfl : j = n := by omega
        go_wp2
        go_ret
        exact ⟨_, rfl, Or.inl ⟨rfl, fun q hq => by show (!pixelOk (f q)) = false; rw [HN.out q hq]; rfl⟩, rfl⟩

theorem pcont_ok {w : World} {v : Value} {n : Nat} {f : Nat → Int} (h : IntsIn w v n f) (hn : n ≤ 1000) :
    Calls Tryz.prog 85 #[v, .func (.func 86) #[] #[]] w fun e w' => e = .returned (.bool (!pixOk n f)) ∧ w = w' := by
  have K := hide (pidx_ok h hn)
  clear h
  go_enter Tryz.func85, Tryz.ntmps85
  go_wp2_with fail
  refine (K.out).mono ?_
  rintro e w1 ⟨i, rfl, hi, rfl⟩
  rcases hi with ⟨rfl, ha⟩ | ⟨j, rfl, hj, hq⟩
  · have e : pixOk n f = true := pixOk_iff.2 fun i hi => pixelOk_iff.1 (by have := ha i hi; simpa using this)
    have HE := hide e
    clear e ha
    go_wp2
    go_ret
    exact ⟨ret_bool (by rw [HE.out]; rfl), rfl⟩
  · have e : pixOk n f = false := by
      rw [← Bool.not_eq_true, pixOk_iff]
      intro hall
      have h9 := pixelOk_iff.2 (hall j hj)
      simp [h9] at hq
    have HE := hide e
    clear e hq
    go_wp2
    go_ret
    exact ⟨ret_bool (by rw [HE.out]; rfl), rfl⟩
end Go.Proofs.YtjhflcgphejddaaGreatDoor

namespace Go.Proofs.YtjhflcgphejddaaGreatDoor
open Go.RowKit
set_option linter.unusedVariables false
set_option maxRecDepth 100000

theorem aside_ok (n : Int) (w : World) : Calls Tryz.prog 99 #[.int .i64 n] w fun e w' => e = .returned (.bool (sideOk n)) ∧ w = w' := by
  rcases Int.lt_or_le n 1 with h | h
  · go_enter Tryz.func99, Tryz.ntmps99
    go_wp2
    go_ret
    exact ⟨ret_bool (sideOk_not.2 (Or.inl h)).symm, rfl⟩
  · rcases Int.lt_or_le 6 n with k | k
    · go_enter Tryz.func99, Tryz.ntmps99
      go_wp2
      go_ret
      exact ⟨ret_bool (by first | exact (sideOk_not.2 (Or.inr k)).symm | (rw [Bool.eq_iff_iff, sideOk_iff, decide_eq_true_iff]; omega)), rfl⟩
    · go_enter Tryz.func99, Tryz.ntmps99
      go_wp2
      go_ret
      exact ⟨ret_bool (sideOk_iff.2 ⟨h, k⟩).symm, rfl⟩
end Go.Proofs.YtjhflcgphejddaaGreatDoor

namespace Go.Proofs.YtjhflcgphejddaaGreatDoor
open Go.RowKit
set_option linter.unusedVariables false
set_option maxRecDepth 100000

theorem anot_ok (n : Int) (w : World) : Calls Tryz.prog 100 #[.int .i64 n] w fun e w' => e = .returned (.bool (!restOk n)) ∧ w = w' := by
  have K := hide (aapart_ok n w)
  go_enter Tryz.func100, Tryz.ntmps100
  go_wp2_with fail
  refine (K.out).mono ?_
  rintro e w1 ⟨rfl, rfl⟩
  go_wp2
  go_ret
  exact ⟨rfl, rfl⟩

set_option maxHeartbeats 1000000 in
theorem aidx_ok {w : World} {v : Value} {n : Nat} {f : Nat → Int} (h : IntsIn w v n f) (hn : n ≤ 1000) :
    Calls Tryz.prog 131 #[v, .func (.func 100) #[] #[]] w fun e w' => ∃ i : Int, e = .returned (.int .i64 i) ∧ IsAt (fun j => !restOk (f j)) n i ∧ w = w' := by
  rcases h with ⟨rfl, a, cap, rfl⟩ | ⟨h0, b, o, cap, rfl, hc⟩
  · go_enter Tryz.func131, Tryz.ntmps131
    go_wp2
    go_loop [8] (fun i => i = .int .i64 0) (fun _ => 0)
    case atStart => rfl
    case round =>
      obtain rfl := hrel
      go_wp2
      go_ret
      exact ⟨_, rfl, Or.inl ⟨rfl, fun j hj => absurd hj (Nat.not_lt_zero _)⟩, rfl⟩
  · have HC := hide hc
    clear hc
    go_enter Tryz.func131, Tryz.ntmps131
    go_wp2
    go_loop [5, 8] (fun _ i => ∃ j : Nat, j ≤ n ∧ i = .int .i64 j ∧ ∀ q, q < j → restOk (f q) = true) (fun _ i => n - (intOf i).toNat)
    case atStart => exact ⟨0, Nat.zero_le _, rfl, fun q hq => absurd hq (Nat.not_lt_zero _)⟩
    case round =>
      obtain ⟨j, hj, rfl, hno⟩ := hrel
      have HN := hide hno
      clear hno
      by_cases hlt : j < n
      · have hc := HC.out j hlt
        have K := hide (anot_ok (f j) w)
        generalize hx : f j = x at *
        have HX := hide hx
        clear hx
        cases hq : restOk x with
        | false =>
          have HQ := hide hq
          rw [hq] at K
          clear hq
          go_wp2_with (go_at_call 100; refine (K.out).mono ?_; rintro e w1 ⟨rfl, rfl⟩)
          go_ret
          exact ⟨_, rfl, Or.inr ⟨j, rfl, hlt, by show (!restOk (f j)) = true; rw [HX.out, HQ.out]; rfl⟩, rfl⟩
        | true =>
          have HQ := hide hq
          rw [hq] at K
          clear hq
          go_wp2_with (go_at_call 100; refine (K.out).mono ?_; rintro e w1 ⟨rfl, rfl⟩)
          go_round
          case rel =>
            refine ⟨j + 1, by omega, by go_num, fun q hq => ?_⟩
            by_cases c : q = j
            · rw [c, HX.out]; exact HQ.out
            · exact HN.out q (by omega)
          case measure => simp [intOf]; omega
      · obtain rfl : j = n := by omega
        go_wp2
        go_ret
        exact ⟨_, rfl, Or.inl ⟨rfl, fun q hq => by show (!restOk (f q)) = false; rw [HN.out q hq]; rfl⟩, rfl⟩

theorem acont_ok {w : World} {v : Value} {n : Nat} {f : Nat → Int} (h : IntsIn w v n f) (hn : n ≤ 1000) :
    Calls Tryz.prog 85 #[v, .func (.func 100) #[] #[]] w fun e w' => e = .returned (.bool (!restsOk n f)) ∧ w = w' := by
  have K := hide (aidx_ok h hn)
  clear h
  go_enter Tryz.func85, Tryz.ntmps85
  go_wp2_with fail
  refine (K.out).mono ?_
  rintro e w1 ⟨i, rfl, hi, rfl⟩
  rcases hi with ⟨rfl, ha⟩ | ⟨j, rfl, hj, hq⟩
  · have e : restsOk n f = true := restsOk_iff.2 fun i hi => restOk_iff.1 (by have := ha i hi; simpa using this)
    have HE := hide e
    clear e ha
    go_wp2
    go_ret
    exact ⟨ret_bool (by rw [HE.out]; rfl), rfl⟩
  · have e : restsOk n f = false := by
      rw [← Bool.not_eq_true, restsOk_iff]
      intro hall
      have h9 := restOk_iff.2 (hall j hj)
      simp [h9] at hq
    have HE := hide e
    clear e hq
    go_wp2
    go_ret
    exact ⟨ret_bool (by rw [HE.out]; rfl), rfl⟩
end Go.Proofs.YtjhflcgphejddaaGreatDoor

namespace Go.Proofs.YtjhflcgphejddaaGreatDoor
open Go.RowKit
set_option linter.unusedVariables false
set_option maxRecDepth 100000

set_option maxHeartbeats 1000000 in
theorem atell_ok (g r s : Int) (w : World) (g0 : 0 ≤ g) (g1 : g ≤ 255) (r0 : -255 ≤ r) (r1 : r ≤ 255) (s1 : 1 ≤ s) (s2 : s ≤ 64) :
    Calls Tryz.prog 96 #[.int .i64 g, .int .i64 r, .int .i64 s] w fun e w' => e = .returned (.int .i64 (clamp (g + r * s))) ∧ w = w' := by
  have p0 : -255 * s ≤ r * s := Int.mul_le_mul_of_nonneg_right r0 (by omega)
  have p1 : r * s ≤ 255 * s := Int.mul_le_mul_of_nonneg_right r1 (by omega)
  have p2 : -16320 ≤ r * s := by omega
  have p3 : r * s ≤ 16320 := by omega
  clear p0 p1
  unfold clamp
  by_cases h : g + r * s < 0
  · rw [show min (max (g + r * s) 0) 255 = 0 by omega]
    go_enter Tryz.func96, Tryz.ntmps96
    go_wp2
    go_ret
    exact ⟨ret_int (by first | rfl | omega | ((repeat' split) <;> omega)), rfl⟩
  · by_cases h2 : 255 < g + r * s
    · rw [show min (max (g + r * s) 0) 255 = 255 by omega]
      go_enter Tryz.func96, Tryz.ntmps96
      go_wp2
      go_ret
      exact ⟨ret_int (by first | rfl | omega | ((repeat' split) <;> omega)), rfl⟩
    · rw [show min (max (g + r * s) 0) 255 = g + r * s by omega]
      go_enter Tryz.func96, Tryz.ntmps96
      go_wp2
      go_ret
      exact ⟨ret_int (by first | rfl | omega | ((repeat' split) <;> omega)), rfl⟩

set_option maxHeartbeats 1000000 in
theorem aguess_ok {w : World} {v : Value} {i : Nat} {T : Nat → Int} {A : Nat} (h : IntsIn w v i T) (hA : 1 ≤ A) (hA6 : A ≤ 6) (hi : i ≤ 1000) :
    Calls Tryz.prog 94 #[v, .int .i64 A] w fun e w' => e = .returned (.int .i64 (gsN A T i)) ∧ w = w' := by
  have HG : Hid (gsN A T i = if i = 0 then 128 else if i % A = 0 then T (i - A) else T (i - 1)) := rfl
  rcases h with ⟨rfl, a, cap, rfl⟩ | ⟨h0, b, o, cap, rfl, hc⟩
  · go_enter Tryz.func94, Tryz.ntmps94
    go_wp2
    go_ret
    exact ⟨rfl, rfl⟩
  · have hA0 : ¬ A = 0 := by omega
    have e2 : (i : Int) % (A : Int) = ((i % A : Nat) : Int) := (Int.natCast_emod i A).symm
    have e4 : (i : Int).tmod (A : Int) = ((i % A : Nat) : Int) := by rw [Int.tmod_eq_emod_of_nonneg (by omega)]; exact e2
    have hz : ((i : Int) == 0) = false := by rw [beq_eq_false_iff_ne]; omega
    by_cases hm : i % A = 0
    · have hle : A ≤ i := Nat.le_of_dvd h0 (Nat.dvd_of_mod_eq_zero hm)
      have hcj := hc (i - A) (by omega)
      have e5 : ((i - A : Nat) : Int) = (i : Int) - (A : Int) := by omega
      have hE : Hid (gsN A T i = T (i - A)) := by unfold Hid; rw [HG.out, if_neg (by omega), if_pos hm]
      rw [hm] at e2 e4
      generalize hx : T (i - A) = x at *
      clear hx hm HG hc
      go_enter Tryz.func94, Tryz.ntmps94
      go_wp2
      go_ret
      exact ⟨ret_int hE.out.symm, rfl⟩
    · have hcj := hc (i - 1) (by omega)
      have hE : Hid (gsN A T i = T (i - 1)) := by unfold Hid; rw [HG.out, if_neg (by omega), if_neg hm]
      have hm1 : (((i % A : Nat) : Int) == 0) = false := by rw [beq_eq_false_iff_ne]; omega
      have hlt : i % A < A := Nat.mod_lt _ (by omega)
      generalize i % A = m at *
      generalize hx : T (i - 1) = x at *
      clear hx HG hc
      go_enter Tryz.func94, Tryz.ntmps94
      go_wp2
      go_ret
      exact ⟨ret_int hE.out.symm, rfl⟩
end Go.Proofs.YtjhflcgphejddaaGreatDoor
