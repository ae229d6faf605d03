/-
  Lemmas for the law above, joined into one text (AlF, RAlR). No statement is proved here.
-/
import Derived.Test.YtcicoblejaippaaDoorTG8
import Derived.Test.YtcicoblejaippaaDoorTG2
namespace Go.Proofs.YtcicoblejaippaaDoor
set_option linter.unusedVariables false
set_option maxRecDepth 100000

/-- What is wrong with a number, and a step. -/
def rndF (n s : Int) : Nat := if stepOk s = true ∧ restOk n = true then 0 else 1
theorem rndF_zero {n s : Int} : rndF n s = 0 ↔ (1 ≤ s ∧ s ≤ 64) ∧ -255 ≤ n ∧ n ≤ 255 := by
  unfold rndF
  split
  · rename_i h; exact ⟨fun _ => ⟨stepOk_iff.1 h.1, restOk_iff.1 h.2⟩, fun _ => rfl⟩
  · rename_i h; exact ⟨fun e => absurd e (by decide), fun e => absurd ⟨stepOk_iff.2 e.1, restOk_iff.2 e.2⟩ h⟩
/-- What is wrong with a picture, and a step. -/
def encF (a b : Int) (n : Nat) (f : Nat → Int) (s : Int) : Nat := if picF a b n f ≠ 0 then picF a b n f else if stepOk s = true then 0 else 1
theorem encF_zero {a b : Int} {n : Nat} {f : Nat → Int} {s : Int} : encF a b n f s = 0 ↔ (∃ A B, PicOk a b n f A B) ∧ 1 ≤ s ∧ s ≤ 64 := by
  unfold encF
  constructor
  · intro h
    split at h
    · rename_i c; exact absurd h c
    · rename_i c
      split at h
      · rename_i c2; exact ⟨picF_zero.1 (by omega), stepOk_iff.1 c2⟩
      · cases h
  · rintro ⟨h1, h2⟩
    rw [if_neg (by rw [picF_zero.2 h1]; decide), if_pos (stepOk_iff.2 h2)]
/-- What is wrong with rests. -/
def restsF (n : Nat) (f : Nat → Int) (m : Int) : Nat := if (n : Int) ≠ m then 3 else if restsOk n f = false then 1 else 0
/-- What is wrong with sides, a step, and rests. -/
def decF (a b s : Int) (n : Nat) (f : Nat → Int) : Nat := if (sidesOk a b && stepOk s) = false then 1 else restsF n f (a * b)
/-- Rests that tell a picture. -/
structure DecOk (a b s : Int) (n : Nat) (f : Nat → Int) (A B : Nat) : Prop where
  wide : a = A
  high : b = B
  w1 : 1 ≤ A
  w6 : A ≤ 6
  h1 : 1 ≤ B
  h6 : B ≤ 6
  s1 : 1 ≤ s
  s2 : s ≤ 64
  many : n = A * B
  rest : ∀ i, i < n → -255 ≤ f i ∧ f i ≤ 255
theorem DecOk.le {a b s : Int} {n : Nat} {f : Nat → Int} {A B : Nat} (h : DecOk a b s n f A B) : n ≤ 36 := by
  have := Nat.mul_le_mul h.w6 h.h6
  rw [h.many]; omega
theorem DecOk.pos {a b s : Int} {n : Nat} {f : Nat → Int} {A B : Nat} (h : DecOk a b s n f A B) : 0 < n := by
  have := Nat.mul_le_mul h.w1 h.h1
  rw [h.many]; omega
theorem decF_zero {a b s : Int} {n : Nat} {f : Nat → Int} : decF a b s n f = 0 ↔ ∃ A B, DecOk a b s n f A B := by
  unfold decF restsF
  constructor
  · intro h
    split at h
    · cases h
    · rename_i h1
      rw [Bool.not_eq_false, Bool.and_eq_true, sidesOk_iff, stepOk_iff] at h1
      split at h
      · cases h
      · rename_i h2
        split at h
        · cases h
        · rename_i h3
          rw [Bool.not_eq_false, restsOk_iff] at h3
          obtain ⟨A, rfl⟩ := Int.eq_ofNat_of_zero_le (show 0 ≤ a by omega)
          obtain ⟨B, rfl⟩ := Int.eq_ofNat_of_zero_le (show 0 ≤ b by omega)
          refine ⟨A, B, rfl, rfl, by omega, by omega, by omega, by omega, by omega, by omega, ?_, h3⟩
          have : (n : Int) = (A : Int) * B := by omega
          rw [← Int.natCast_mul] at this
          exact Int.ofNat.inj this
  · rintro ⟨A, B, h⟩
    have h1 : sidesOk a b = true := sidesOk_iff.2 (by have := h.wide; have := h.high; have := h.w1; have := h.w6; have := h.h1; have := h.h6; omega)
    have h0 : stepOk s = true := stepOk_iff.2 ⟨h.s1, h.s2⟩
    have h2 : (n : Int) = a * b := by rw [h.wide, h.high, h.many, Int.natCast_mul]
    have h3 : restsOk n f = true := restsOk_iff.2 h.rest
    rw [h1, h0, h3, if_neg (by simp), if_neg (by simp [h2]), if_neg (by simp)]
/-- What Encode makes of a picture that is right, Decode may be handed. -/
theorem enc_dec {a b s : Int} {n : Nat} {f : Nat → Int} {A B : Nat} (h : PicOk a b n f A B) (s1 : 1 ≤ s) (s2 : s ≤ 64) : DecOk a b s n (restF A s (byPix s f)) A B :=
  ⟨h.wide, h.high, h.w1, h.w6, h.h1, h.h6, s1, s2, h.many, fun i hi => restF_in h.w1 s1 (h.pix i hi)⟩
/-- What is told is a picture that is right. -/
theorem DecOk.told {a b s : Int} {n : Nat} {f : Nat → Int} {A B : Nat} (h : DecOk a b s n f A B) (r : Nat → Int → Int) : PicOk a b n (tellF A s r) A B :=
  ⟨h.wide, h.high, h.w1, h.w6, h.h1, h.h6, h.many, fun i _ => tellF_in h.w1 s r i⟩
end Go.Proofs.YtcicoblejaippaaDoor

namespace Go.Proofs.YtcicoblejaippaaDoor
open Go.RowKit
set_option linter.unusedVariables false
set_option maxRecDepth 100000

set_option maxHeartbeats 1000000 in
theorem rround_up (n s : Int) (w : World) (h0 : 0 ≤ n) (h1 : n ≤ 255) (s1 : 1 ≤ s) (s2 : s ≤ 64) :
    Calls Tryd.prog 22 #[.int .i64 n, .int .i64 s] w fun e w' => e = .returned (.int .i64 (rnd n s)) ∧ w = w' := by
  have HR : Hid (rnd n s = (n + s / 2) / s) := rnd_pos h0
  have hq1 := rnd_up s1 h0
  rw [HR.out] at hq1
  obtain ⟨r, r0, r1, er⟩ := div_parts (n + s / 2) s s1
  have g1 : s.tdiv 2 = s / 2 := Int.tdiv_eq_ediv_of_nonneg (by omega)
  have b1 : 0 ≤ s / 2 ∧ s / 2 ≤ 32 := by omega
  generalize hq : (n + s / 2) / s = q at *
  clear hq
  generalize hh : s / 2 = t at *
  clear hh
  obtain ⟨b1, b2⟩ := b1
  obtain ⟨q1, q2⟩ := hq1
  obtain ⟨Q, rfl⟩ := Int.eq_ofNat_of_zero_le q1
  have HE := hide er
  clear er
  go_enter Tryd.func22, Tryd.ntmps22
  go_wp2
  go_loop [5] (fun k => ∃ j : Nat, j ≤ Q ∧ k = .int .i64 j) (fun k => Q - (intOf k).toNat)
  case atStart => exact ⟨0, Nat.zero_le _, rfl⟩
  case round =>
    obtain ⟨j, hj, rfl⟩ := hrel
    have p0 : 0 ≤ ((j : Int) + 1) * s := Int.mul_nonneg (by omega) (by omega)
    by_cases hlt : j < Q
    · have p1 : ((j : Int) + 1) * s ≤ (Q : Int) * s := Int.mul_le_mul_of_nonneg_right (by omega) (by omega)
      have p2 : ((j : Int) + 1) * s ≤ n + t := by have := HE.out; omega
      clear p1
      go_wp2
      go_round
      case rel => exact ⟨j + 1, by omega, by go_num⟩
      case measure => simp [intOf]; omega
    · obtain rfl : j = Q := by omega
      have e : ((j : Int) + 1) * s = (j : Int) * s + s := by rw [Int.add_mul, Int.one_mul]
      have p2 : n + t < ((j : Int) + 1) * s := by have := HE.out; omega
      have p3 : ((j : Int) + 1) * s ≤ 400 := by have := HE.out; omega
      clear e
      go_wp2
      go_ret
      exact ⟨ret_int (by rw [HR.out]), rfl⟩

theorem rround_ok (n s : Int) (w : World) (h0 : -255 ≤ n) (h1 : n ≤ 255) (s1 : 1 ≤ s) (s2 : s ≤ 64) :
    Calls Tryd.prog 22 #[.int .i64 n, .int .i64 s] w fun e w' => e = .returned (.int .i64 (rnd n s)) ∧ w = w' := by
  by_cases h : 0 ≤ n
  · exact rround_up n s w h h1 s1 s2
  · have K := hide (rround_up (-n) s w (by omega) (by omega) s1 s2)
    have HR : Hid (rnd n s = -rnd (-n) s) := rnd_neg (by omega)
    have hq := rnd_up s1 (show 0 ≤ -n by omega)
    generalize rnd (-n) s = q at *
    obtain ⟨q1, q2⟩ := hq
    go_enter Tryd.func22, Tryd.ntmps22
    go_wp2_with fail
    refine (K.out).mono ?_
    rintro e w1 ⟨rfl, rfl⟩
    go_wp2
    go_ret
    exact ⟨ret_int (by rw [HR.out]), rfl⟩

theorem rclamp_ok (x : Int) (w : World) :
    Calls Tryd.prog 26 #[.int .i64 x, .int .i64 255] w fun e w' => e = .returned (.int .i64 (clamp x)) ∧ w = w' := by
  unfold clamp
  by_cases h : x < 0
  · rw [show min (max x 0) 255 = 0 by omega]
    go_enter Tryd.func26, Tryd.ntmps26
    go_wp2
    go_ret
    exact ⟨rfl, rfl⟩
  · by_cases h2 : 255 < x
    · rw [show min (max x 0) 255 = 255 by omega]
      go_enter Tryd.func26, Tryd.ntmps26
      go_wp2
      go_ret
      exact ⟨rfl, rfl⟩
    · rw [show min (max x 0) 255 = x by omega]
      go_enter Tryd.func26, Tryd.ntmps26
      go_wp2
      go_ret
      exact ⟨rfl, rfl⟩

set_option maxHeartbeats 1000000 in
theorem rrests_ok {w : World} {v : Value} {n : Nat} {f : Nat → Int} (m : Int) (h : IntsIn w v n f) (hn : n ≤ 1000 ∨ (n : Int) ≠ m) :
    Calls Tryd.prog 25 #[v, .int .i64 m] w fun e w' => e = .returned (.int .i64 (restsF n f m : Nat)) ∧ w = w' := by
  have HD : Hid (restsF n f m = if (n : Int) ≠ m then 3 else if restsOk n f = false then 1 else 0) := rfl
  by_cases hne : (n : Int) = m
  · subst hne
    have hn : n ≤ 1000 := by omega
    rw [if_neg (by simp)] at HD
    rcases h with ⟨rfl, a, cap, rfl⟩ | ⟨h0, b, o, cap, rfl, hc⟩
    · have HE : Hid (restsF 0 f 0 = 0) := by unfold Hid restsF; simp [restsOk]
      clear HD
      go_enter Tryd.func25, Tryd.ntmps25
      go_wp2
      go_loop [5] (fun k => k = .int .i64 0) (fun _ => 0)
      case atStart => rfl
      case round =>
        obtain rfl := hrel
        go_wp2
        go_ret
        exact ⟨ret_int (by rw [HE.out]; rfl), rfl⟩
    · have HC := hide hc
      clear hc
      go_enter Tryd.func25, Tryd.ntmps25
      go_wp2
      go_loop [5] (fun i => ∃ j : Nat, j ≤ n ∧ i = .int .i64 j ∧ ∀ q, q < j → -255 ≤ f q ∧ f q ≤ 255) (fun i => n - (intOf i).toNat)
      case atStart => exact ⟨0, Nat.zero_le _, rfl, fun q hq => absurd hq (Nat.not_lt_zero _)⟩
      case round =>
        obtain ⟨j, hj, rfl, hno⟩ := hrel
        have HN := hide hno
        clear hno
        by_cases hlt : j < n
        · have hcj := HC.out j hlt
          by_cases hx : -255 ≤ f j ∧ f j ≤ 255
          · have HX := hide hx
            obtain ⟨x0, x1⟩ := hx
            generalize hz : f j = z at *
            have HZ := hide hz
            clear hz
            go_wp2
            go_round
            case rel =>
              refine ⟨j + 1, by omega, by go_num, fun q hq => ?_⟩
              by_cases c : q = j
              · rw [c, HZ.out]; exact HX.out
              · exact HN.out q (by omega)
            case measure => simp [intOf]; omega
          · have HE : Hid (restsF n f n = 1) := by
              unfold Hid
              rw [HD.out, if_pos]
              rw [← Bool.not_eq_true, restsOk_iff]
              exact fun h => hx (h j hlt)
            have hx' : f j < -255 ∨ (-255 ≤ f j ∧ 255 < f j) := by omega
            clear hx
            generalize f j = z at *
            rcases hx' with x0 | ⟨x0, x1⟩
            · go_wp2
              go_ret
              exact ⟨ret_int (by rw [HE.out]; rfl), rfl⟩
            · go_wp2
              go_ret
              exact ⟨ret_int (by rw [HE.out]; rfl), rfl⟩
        · obtain rfl : j = n := by omega
          have HE : Hid (restsF j f j = 0) := by
            unfold Hid
            rw [HD.out, if_neg]
            rw [restsOk_iff.2 HN.out]; simp
          go_wp2
          go_ret
          exact ⟨ret_int (by rw [HE.out]; rfl), rfl⟩
  · have hn1 : ((n : Int) == m) = false := by rw [beq_eq_false_iff_ne]; exact hne
    have hn3 : ((n : Int) != m) = true := by simp [bne, hn1]
    have HE : Hid (restsF n f m = 3) := by unfold Hid; rw [HD.out, if_pos hne]
    obtain ⟨ad, cap, rfl⟩ := slice_shape h
    clear hne HD h hn
    go_enter Tryd.func25, Tryd.ntmps25
    go_wp2
    go_ret
    exact ⟨ret_int (by rw [HE.out]; rfl), rfl⟩
end Go.Proofs.YtcicoblejaippaaDoor
