/-
  Our own contracts of dropref2's Round, Guess, within (of a pixel), Rests. Lemmas for the laws above; no statement is proved here.
-/
import Derived.Test.YtckjbecfhgheiaaDoorAlF
import Derived.Test.YtckjbecfhgheiaaDoorPicX
namespace Go.Proofs.YtckjbecfhgheiaaDoor
open Go.RowKit
set_option linter.unusedVariables false
set_option maxRecDepth 100000

set_option maxHeartbeats 1000000 in
theorem rround_up (n s : Int) (w : World) (h0 : 0 ≤ n) (h1 : n ≤ 255) (s1 : 1 ≤ s) (s2 : s ≤ 64) :
    Calls Tryd.prog 12 #[.int .i64 n, .int .i64 s] w fun e w' => e = .returned (.int .i64 (rnd n s)) ∧ w = w' := by
  have HR : Hid (rnd n s = (n + s / 2) / s) := rnd_pos h0
  have hq1 := rnd_up s1 h0
  rw [HR.out] at hq1
  obtain ⟨r, r0, r1, er⟩ := div_parts (n + s / 2) s s1
  have g1 : s.tdiv 2 = s / 2 := Int.tdiv_eq_ediv_of_nonneg (by omega)
  have b1 : 0 ≤ s / 2 ∧ s / 2 ≤ 32 := by omega
  generalize hq : (n + s / 2) / s = q at *
  clear hq
  generalize hh : s / 2 = t at *
  clear hh
  obtain ⟨b1, b2⟩ := b1
  obtain ⟨q1, q2⟩ := hq1
  obtain ⟨Q, rfl⟩ := Int.eq_ofNat_of_zero_le q1
  have HE := hide er
  clear er
  go_enter Tryd.func12, Tryd.ntmps12
  go_wp2
  go_loop [5] (fun k => ∃ j : Nat, j ≤ Q ∧ k = .int .i64 j) (fun k => Q - (intOf k).toNat)
  case atStart => exact ⟨0, Nat.zero_le _, rfl⟩
  case round =>
    obtain ⟨j, hj, rfl⟩ := hrel
    have p0 : 0 ≤ ((j : Int) + 1) * s := Int.mul_nonneg (by omega) (by omega)
    by_cases hlt : j < Q
    · have p1 : ((j : Int) + 1) * s ≤ (Q : Int) * s := Int.mul_le_mul_of_nonneg_right (by omega) (by omega)
      have p2 : ((j : Int) + 1) * s ≤ n + t := by have := HE.out; omega
      clear p1
      go_wp2
      go_round
      case rel => exact ⟨j + 1, by omega, by go_num⟩
      case measure => simp [intOf]; omega
    · obtain rfl : j = Q := by omega
      have e : ((j : Int) + 1) * s = (j : Int) * s + s := by rw [Int.add_mul, Int.one_mul]
      have p2 : n + t < ((j : Int) + 1) * s := by have := HE.out; omega
      have p3 : ((j : Int) + 1) * s ≤ 400 := by have := HE.out; omega
      clear e
      go_wp2
      go_ret
      exact ⟨ret_int (by rw [HR.out]), rfl⟩

theorem rround_ok (n s : Int) (w : World) (h0 : -255 ≤ n) (h1 : n ≤ 255) (s1 : 1 ≤ s) (s2 : s ≤ 64) :
    Calls Tryd.prog 12 #[.int .i64 n, .int .i64 s] w fun e w' => e = .returned (.int .i64 (rnd n s)) ∧ w = w' := by
  by_cases h : 0 ≤ n
  · exact rround_up n s w h h1 s1 s2
  · have K := hide (rround_up (-n) s w (by omega) (by omega) s1 s2)
    have HR : Hid (rnd n s = -rnd (-n) s) := rnd_neg (by omega)
    have hq := rnd_up s1 (show 0 ≤ -n by omega)
    generalize rnd (-n) s = q at *
    obtain ⟨q1, q2⟩ := hq
    go_enter Tryd.func12, Tryd.ntmps12
    go_wp2_with fail
    refine (K.out).mono ?_
    rintro e w1 ⟨rfl, rfl⟩
    go_wp2
    go_ret
    exact ⟨ret_int (by rw [HR.out]), rfl⟩

theorem rclamp_ok (x : Int) (w : World) :
    Calls Tryd.prog 15 #[.int .i64 x, .int .i64 255] w fun e w' => e = .returned (.int .i64 (clamp x)) ∧ w = w' := by
  unfold clamp
  by_cases h : x < 0
  · rw [show min (max x 0) 255 = 0 by omega]
    go_enter Tryd.func15, Tryd.ntmps15
    go_wp2
    go_ret
    exact ⟨rfl, rfl⟩
  · by_cases h2 : 255 < x
    · rw [show min (max x 0) 255 = 255 by omega]
      go_enter Tryd.func15, Tryd.ntmps15
      go_wp2
      go_ret
      exact ⟨rfl, rfl⟩
    · rw [show min (max x 0) 255 = x by omega]
      go_enter Tryd.func15, Tryd.ntmps15
      go_wp2
      go_ret
      exact ⟨rfl, rfl⟩

set_option maxHeartbeats 1000000 in
theorem rguess_ok {w : World} {v : Value} {i : Nat} {T : Nat → Int} {A : Nat} (h : IntsIn w v i T) (hA : 1 ≤ A) (hA6 : A ≤ 6) (hi : i ≤ 1000) :
    Calls Tryd.prog 14 #[v, .int .i64 A] w fun e w' => e = .returned (.int .i64 (gsN A T i)) ∧ w = w' := by
  have HG : Hid (gsN A T i = if i = 0 then 128 else if i % A = 0 then T (i - A) else T (i - 1)) := rfl
  rcases h with ⟨rfl, a, cap, rfl⟩ | ⟨h0, b, o, cap, rfl, hc⟩
  · go_enter Tryd.func14, Tryd.ntmps14
    go_wp2
    go_ret
    exact ⟨rfl, rfl⟩
  · have hA0 : ¬ A = 0 := by omega
    have e2 : (i : Int) % (A : Int) = ((i % A : Nat) : Int) := (Int.natCast_emod i A).symm
    have e4 : (i : Int).tmod (A : Int) = ((i % A : Nat) : Int) := by rw [Int.tmod_eq_emod_of_nonneg (by omega)]; exact e2
    have hz : ((i : Int) == 0) = false := by rw [beq_eq_false_iff_ne]; omega
    by_cases hm : i % A = 0
    · have hle : A ≤ i := Nat.le_of_dvd h0 (Nat.dvd_of_mod_eq_zero hm)
      have hcj := hc (i - A) (by omega)
      have e5 : ((i - A : Nat) : Int) = (i : Int) - (A : Int) := by omega
      have hE : Hid (gsN A T i = T (i - A)) := by unfold Hid; rw [HG.out, if_neg (by omega), if_pos hm]
      rw [hm] at e2 e4
      generalize hx : T (i - A) = x at *
      clear hx hm HG hc
      go_enter Tryd.func14, Tryd.ntmps14
      go_wp2
      go_ret
      exact ⟨ret_int hE.out.symm, rfl⟩
    · have hcj := hc (i - 1) (by omega)
      have hE : Hid (gsN A T i = T (i - 1)) := by unfold Hid; rw [HG.out, if_neg (by omega), if_neg hm]
      have hm1 : (((i % A : Nat) : Int) == 0) = false := by rw [beq_eq_false_iff_ne]; omega
      have hlt : i % A < A := Nat.mod_lt _ (by omega)
      generalize i % A = m at *
      generalize hx : T (i - 1) = x at *
      clear hx HG hc
      go_enter Tryd.func14, Tryd.ntmps14
      go_wp2
      go_ret
      exact ⟨ret_int hE.out.symm, rfl⟩

set_option maxHeartbeats 1000000 in
theorem rrests_ok {w : World} {v : Value} {n : Nat} {f : Nat → Int} (m : Int) (h : IntsIn w v n f) (hn : n ≤ 1000 ∨ (n : Int) ≠ m) :
    Calls Tryd.prog 22 #[v, .int .i64 m] w fun e w' => e = .returned (.int .i64 (restsF n f m : Nat)) ∧ w = w' := by
  have HD : Hid (restsF n f m = if (n : Int) ≠ m then 3 else if restsOk n f = false then 1 else 0) := rfl
  by_cases hne : (n : Int) = m
  · subst hne
    have hn : n ≤ 1000 := by omega
    rw [if_neg (by simp)] at HD
    rcases h with ⟨rfl, a, cap, rfl⟩ | ⟨h0, b, o, cap, rfl, hc⟩
    · have HE : Hid (restsF 0 f 0 = 0) := by unfold Hid restsF; simp [restsOk]
      clear HD
      go_enter Tryd.func22, Tryd.ntmps22
      go_wp2
      go_loop [5] (fun k => k = .int .i64 0) (fun _ => 0)
      case atStart => rfl
      case round =>
        obtain rfl := hrel
        go_wp2
        go_ret
        exact ⟨ret_int (by rw [HE.out]; rfl), rfl⟩
    · have HC := hide hc
      clear hc
      go_enter Tryd.func22, Tryd.ntmps22
      go_wp2
      go_loop [5] (fun i => ∃ j : Nat, j ≤ n ∧ i = .int .i64 j ∧ ∀ q, q < j → -255 ≤ f q ∧ f q ≤ 255) (fun i => n - (intOf i).toNat)
      case atStart => exact ⟨0, Nat.zero_le _, rfl, fun q hq => absurd hq (Nat.not_lt_zero _)⟩
      case round =>
        obtain ⟨j, hj, rfl, hno⟩ := hrel
        have HN := hide hno
        clear hno
        by_cases hlt : j < n
        · have hcj := HC.out j hlt
          by_cases hx : -255 ≤ f j ∧ f j ≤ 255
          · have HX := hide hx
            obtain ⟨x0, x1⟩ := hx
            generalize hz : f j = z at *
            have HZ := hide hz
            clear hz
            go_wp2
            go_round
            case rel =>
              refine ⟨j + 1, by omega, by go_num, fun q hq => ?_⟩
              by_cases c : q = j
              · rw [c, HZ.out]; exact HX.out
              · exact HN.out q (by omega)
            case measure => simp [intOf]; omega
          · have HE : Hid (restsF n f n = 1) := by
              unfold Hid
              rw [HD.out, if_pos]
              rw [← Bool.not_eq_true, restsOk_iff]
              exact fun h => hx (h j hlt)
            have hx' : f j < -255 ∨ (-255 ≤ f j ∧ 255 < f j) := by omega
            clear hx
            generalize f j = z at *
            rcases hx' with x0 | ⟨x0, x1⟩
            · go_wp2
              go_ret
              exact ⟨ret_int (by rw [HE.out]; rfl), rfl⟩
            · go_wp2
              go_ret
              exact ⟨ret_int (by rw [HE.out]; rfl), rfl⟩
        · obtain rfl : j = n := by omega
          have HE : Hid (restsF j f j = 0) := by
            unfold Hid
            rw [HD.out, if_neg]
            rw [restsOk_iff.2 HN.out]; simp
          go_wp2
          go_ret
          exact ⟨ret_int (by rw [HE.out]; rfl), rfl⟩
  · have hn1 : ((n : Int) == m) = false := by rw [beq_eq_false_iff_ne]; exact hne
    have hn3 : ((n : Int) != m) = true := by simp [bne, hn1]
    have HE : Hid (restsF n f m = 3) := by unfold Hid; rw [HD.out, if_pos hne]
    obtain ⟨ad, cap, rfl⟩ := slice_shape h
    clear hne HD h hn
    go_enter Tryd.func22, Tryd.ntmps22
    go_wp2
    go_ret
    exact ⟨ret_int (by rw [HE.out]; rfl), rfl⟩
end Go.Proofs.YtckjbecfhgheiaaDoor
