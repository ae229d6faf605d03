/-
  Our own contracts of alone's steps, tell, guess. Lemmas for the laws above; no statement is proved here.
-/
import Derived.Test.YtckjbecfhgheiaaDoorAlE
namespace Go.Proofs.YtckjbecfhgheiaaDoor
open Go.RowKit
set_option linter.unusedVariables false
set_option maxRecDepth 100000

set_option maxHeartbeats 1000000 in
theorem asteps_up (n s : Int) (w : World) (h0 : 0 ≤ n) (h1 : n ≤ 255) (s1 : 1 ≤ s) (s2 : s ≤ 64) :
    Calls Tryd.prog 19 #[.int .i64 n, .int .i64 s] w fun e w' => e = .returned (.int .i64 (rnd n s)) ∧ w = w' := by
  have HR : Hid (rnd n s = (n + s / 2) / s) := rnd_pos h0
  have hq1 := rnd_up s1 h0
  rw [HR.out] at hq1
  have g1 : s.tdiv 2 = s / 2 := Int.tdiv_eq_ediv_of_nonneg (by omega)
  have g2 : (n + s / 2).tdiv s = (n + s / 2) / s := Int.tdiv_eq_ediv_of_nonneg (by omega)
  have b1 : 0 ≤ s / 2 ∧ s / 2 ≤ 32 := by omega
  generalize hq : (n + s / 2) / s = q at *
  clear hq
  generalize hh : s / 2 = t at *
  clear hh
  obtain ⟨b1, b2⟩ := b1
  obtain ⟨q1, q2⟩ := hq1
  go_enter Tryd.func19, Tryd.ntmps19
  go_wp2
  go_ret
  exact ⟨ret_int (by rw [HR.out]), rfl⟩

theorem asteps_ok (n s : Int) (w : World) (h0 : -255 ≤ n) (h1 : n ≤ 255) (s1 : 1 ≤ s) (s2 : s ≤ 64) :
    Calls Tryd.prog 19 #[.int .i64 n, .int .i64 s] w fun e w' => e = .returned (.int .i64 (rnd n s)) ∧ w = w' := by
  by_cases h : 0 ≤ n
  · exact asteps_up n s w h h1 s1 s2
  · have K := hide (asteps_up (-n) s w (by omega) (by omega) s1 s2)
    have HR : Hid (rnd n s = -rnd (-n) s) := rnd_neg (by omega)
    have hq := rnd_up s1 (show 0 ≤ -n by omega)
    generalize rnd (-n) s = q at *
    obtain ⟨q1, q2⟩ := hq
    go_enter Tryd.func19, Tryd.ntmps19
    go_wp2_with fail
    refine (K.out).mono ?_
    rintro e w1 ⟨rfl, rfl⟩
    go_wp2
    go_ret
    exact ⟨ret_int (by rw [HR.out]), rfl⟩

set_option maxHeartbeats 1000000 in
theorem atell_ok (g r s : Int) (w : World) (g0 : 0 ≤ g) (g1 : g ≤ 255) (r0 : -255 ≤ r) (r1 : r ≤ 255) (s1 : 1 ≤ s) (s2 : s ≤ 64) :
    Calls Tryd.prog 20 #[.int .i64 g, .int .i64 r, .int .i64 s] w fun e w' => e = .returned (.int .i64 (clamp (g + r * s))) ∧ w = w' := by
  have p0 : -255 * s ≤ r * s := Int.mul_le_mul_of_nonneg_right r0 (by omega)
  have p1 : r * s ≤ 255 * s := Int.mul_le_mul_of_nonneg_right r1 (by omega)
  have p2 : -16320 ≤ r * s := by omega
  have p3 : r * s ≤ 16320 := by omega
  clear p0 p1
  unfold clamp
  by_cases h : g + r * s < 0
  · rw [show min (max (g + r * s) 0) 255 = 0 by omega]
    go_enter Tryd.func20, Tryd.ntmps20
    go_wp2
    go_ret
    exact ⟨ret_int (by first | rfl | omega | ((repeat' split) <;> omega)), rfl⟩
  · by_cases h2 : 255 < g + r * s
    · rw [show min (max (g + r * s) 0) 255 = 255 by omega]
      go_enter Tryd.func20, Tryd.ntmps20
      go_wp2
      go_ret
      exact ⟨ret_int (by first | rfl | omega | ((repeat' split) <;> omega)), rfl⟩
    · rw [show min (max (g + r * s) 0) 255 = g + r * s by omega]
      go_enter Tryd.func20, Tryd.ntmps20
      go_wp2
      go_ret
      exact ⟨ret_int (by first | rfl | omega | ((repeat' split) <;> omega)), rfl⟩

set_option maxHeartbeats 1000000 in
theorem aguess_ok {w : World} {v : Value} {i : Nat} {T : Nat → Int} {A : Nat} (h : IntsIn w v i T) (hA : 1 ≤ A) (hA6 : A ≤ 6) (hi : i ≤ 1000) :
    Calls Tryd.prog 18 #[v, .int .i64 A] w fun e w' => e = .returned (.int .i64 (gsN A T i)) ∧ w = w' := by
  have HG : Hid (gsN A T i = if i = 0 then 128 else if i % A = 0 then T (i - A) else T (i - 1)) := rfl
  rcases h with ⟨rfl, a, cap, rfl⟩ | ⟨h0, b, o, cap, rfl, hc⟩
  · go_enter Tryd.func18, Tryd.ntmps18
    go_wp2
    go_ret
    exact ⟨rfl, rfl⟩
  · have hA0 : ¬ A = 0 := by omega
    have e2 : (i : Int) % (A : Int) = ((i % A : Nat) : Int) := (Int.natCast_emod i A).symm
    have e4 : (i : Int).tmod (A : Int) = ((i % A : Nat) : Int) := by rw [Int.tmod_eq_emod_of_nonneg (by omega)]; exact e2
    have hz : ((i : Int) == 0) = false := by rw [beq_eq_false_iff_ne]; omega
    by_cases hm : i % A = 0
    · have hle : A ≤ i := Nat.le_of_dvd h0 (Nat.dvd_of_mod_eq_zero hm)
      have hcj := hc (i - A) (by omega)
      have e5 : ((i - A : Nat) : Int) = (i : Int) - (A : Int) := by omega
      have hE : Hid (gsN A T i = T (i - A)) := by unfold Hid; rw [HG.out, if_neg (by omega), if_pos hm]
      rw [hm] at e2 e4
      generalize hx : T (i - A) = x at *
      clear hx hm HG hc
      go_enter Tryd.func18, Tryd.ntmps18
      go_wp2
      go_ret
      exact ⟨ret_int hE.out.symm, rfl⟩
    · have hcj := hc (i - 1) (by omega)
      have hE : Hid (gsN A T i = T (i - 1)) := by unfold Hid; rw [HG.out, if_neg (by omega), if_neg hm]
      have hm1 : (((i % A : Nat) : Int) == 0) = false := by rw [beq_eq_false_iff_ne]; omega
      have hlt : i % A < A := Nat.mod_lt _ (by omega)
      generalize i % A = m at *
      generalize hx : T (i - 1) = x at *
      clear hx HG hc
      go_enter Tryd.func18, Tryd.ntmps18
      go_wp2
      go_ret
      exact ⟨ret_int hE.out.symm, rfl⟩
end Go.Proofs.YtckjbecfhgheiaaDoor
