/-
  Lemmas for the law above, joined into one text (ErrK, FlC, FlDb). No statement is proved here.
-/
import Derived.Test.YtjhflcgphejddaaDoorBG0
import Derived.Test.YtjhflcgphejddaaDoorBG4
import Derived.Test.YtjhflcgphejddaaDoorBG8
import Derived.Deep.DeepCutAuto
namespace Go.Proofs.YtjhflcgphejddaaDoor
open Go.RowKit
set_option linter.unusedVariables false
set_option maxRecDepth 100000

/-- The error that stands for a number: nil for 0. -/
def errN (f : Nat) : Value := if f = 0 then .nilIface else .iface 60 (.int .i64 f)
theorem errN_pos {k : Nat} (h : k ≠ 0) : errN k = .iface 60 (.int .i64 k) := by unfold errN; rw [if_neg h]
theorem errN_zero : errN 0 = .nilIface := rfl
theorem errN_one : errN 1 = .iface 60 (.int .i64 1) := rfl
theorem errN_three : errN 3 = .iface 60 (.int .i64 3) := rfl
end Go.Proofs.YtjhflcgphejddaaDoor

namespace Go.Proofs.YtjhflcgphejddaaDoor
open Go.RowKit
set_option linter.unusedVariables false
set_option maxRecDepth 100000

theorem fcount_ok (n : Nat) (w : World) : Calls Tryd.prog 26 #[.int .i64 n] w fun e w' => e = .returned (errN (cntF n)) ∧ w = w' := by
  by_cases h0 : n = 0
  · subst h0
    go_enter Tryd.func26, Tryd.ntmps26
    go_wp2
    go_ret
    exact ⟨rfl, rfl⟩
  · have hne : ((n : Int) == 0) = false := by rw [beq_eq_false_iff_ne]; omega
    by_cases h6 : 6 < n
    · have HE : Hid (cntF n = 4) := by unfold Hid cntF; rw [if_neg h0, if_pos h6]
      go_enter Tryd.func26, Tryd.ntmps26
      go_wp2
      go_ret
      exact ⟨by rw [HE.out]; rfl, rfl⟩
    · have HE : Hid (cntF n = 0) := by unfold Hid cntF; rw [if_neg h0, if_neg h6]
      go_enter Tryd.func26, Tryd.ntmps26
      go_wp2
      go_ret
      exact ⟨by rw [HE.out]; rfl, rfl⟩
def inOk (n m : Int) : Bool := decide (1 ≤ n) && decide (n ≤ m)
theorem inOk_iff {n m : Int} : inOk n m = true ↔ 1 ≤ n ∧ n ≤ m := by simp [inOk]
theorem inOk_not {n m : Int} : inOk n m = false ↔ n < 1 ∨ m < n := by rw [← Bool.not_eq_true, inOk_iff]; omega
theorem fwithin_ok (n m : Int) (w : World) : Calls Tryd.prog 27 #[.int .i64 n, .int .i64 m] w fun e w' => e = .returned (.bool (inOk n m)) ∧ w = w' := by
  rcases Int.lt_or_le n 1 with h | h
  · go_enter Tryd.func27, Tryd.ntmps27
    go_wp2
    go_ret
    exact ⟨ret_bool (inOk_not.2 (Or.inl h)).symm, rfl⟩
  · rcases Int.lt_or_le m n with k | k
    · go_enter Tryd.func27, Tryd.ntmps27
      go_wp2
      go_ret
      exact ⟨ret_bool (by first | exact (inOk_not.2 (Or.inr k)).symm | (rw [Bool.eq_iff_iff, inOk_iff, decide_eq_true_iff]; omega)), rfl⟩
    · go_enter Tryd.func27, Tryd.ntmps27
      go_wp2
      go_ret
      exact ⟨ret_bool (by first | exact (inOk_iff.2 ⟨h, k⟩).symm | (rw [Bool.eq_iff_iff, inOk_iff, decide_eq_true_iff]; omega)), rfl⟩
theorem funseen_ok (a b : Int) (w : World) : Calls Tryd.prog 28 #[.int .i64 a, .int .i64 b] w fun e w' => e = .returned (.agg #[.int .i64 a, .int .i64 b, .slice none 0 0]) ∧ Below w.heap.size w w' := by
  have p1 := picIn_new w 0 0 (.slice none 0 0)
  have HB : Hid (Below w.heap.size w (w.alloc (.cells #[.int .i64 0, .int .i64 0, .slice none 0 0] 46))) := (Below.refl _ _).alloc (Nat.le_refl _) _
  obtain ⟨⟨c0, g0⟩, ⟨c1, g1⟩, c2, g2⟩ := p1
  go_enter Tryd.func28, Tryd.ntmps28
  go_wp2
  refine bodyPost_ret (v := .agg #[.int .i64 a, .int .i64 b, .slice none 0 0]) (by simp [results, Tryd.results28, go_sem]) rfl ⟨rfl, ?_⟩
  first
    | exact (((HB.out.setCell (Nat.le_refl _) _).setCell (Nat.le_refl _) _).setCell (Nat.le_refl _) _)
    | exact HB.out
    | exact (Below.refl _ _).alloc (Nat.le_refl _) _
end Go.Proofs.YtjhflcgphejddaaDoor

namespace Go.Proofs.YtjhflcgphejddaaDoor
open Go.RowKit
set_option linter.unusedVariables false
set_option maxRecDepth 100000

theorem seeF_cnt {a b s : Int} {N : Nat} {C : Nat → Cd} (h : cntF N ≠ 0) : seeF a b s N C = cntF N := by
  unfold cntF at h ⊢
  unfold seeF
  by_cases h0 : N = 0
  · rw [if_pos h0, if_pos h0]
  · by_cases h6 : 6 < N
    · rw [if_neg h0, if_pos h6, if_neg h0, if_pos h6]
    · rw [if_neg h0, if_neg h6] at h; exact absurd rfl h
theorem sidF_in {a b s : Int} : sidF a b s = if ((inOk a 6 && inOk b 6) && inOk s 64) = true then 0 else 1 := by
  unfold sidF
  by_cases h : ((inOk a 6 && inOk b 6) && inOk s 64) = true
  · rw [if_pos h]
    rw [Bool.and_eq_true, Bool.and_eq_true, inOk_iff, inOk_iff, inOk_iff] at h
    rw [if_pos ⟨h.1.1.1, h.1.1.2, h.1.2.1, h.1.2.2, h.2.1, h.2.2⟩]
  · rw [if_neg h, if_neg]
    intro h2
    apply h
    rw [Bool.and_eq_true, Bool.and_eq_true, inOk_iff, inOk_iff, inOk_iff]
    exact ⟨⟨⟨h2.1, h2.2.1⟩, ⟨h2.2.2.1, h2.2.2.2.1⟩⟩, h2.2.2.2.2⟩
theorem seeF_sid {a b s : Int} {N : Nat} {C : Nat → Cd} (h1 : 1 ≤ N) (h6 : N ≤ 6) (h : sidF a b s ≠ 0) : seeF a b s N C = 1 := by
  unfold seeF
  rw [if_neg (by omega), if_neg (by omega), if_pos h]
theorem seeF_al {a b s : Int} {N : Nat} {C : Nat → Cd} (h1 : 1 ≤ N) (h6 : N ≤ 6) (h : sidF a b s = 0) (ha : (C 0).al = false) : seeF a b s N C = 3 := by
  unfold seeF
  rw [if_neg (by omega), if_neg (by omega), if_neg (by omega), if_pos ha]
theorem seeF_see {a b s : Int} {N : Nat} {C : Nat → Cd} (h1 : 1 ≤ N) (h6 : N ≤ 6) (h : sidF a b s = 0) (ha : (C 0).al = true) : seeF a b s N C = (seeS a b s C N).1 := by
  unfold seeF
  rw [if_neg (by omega), if_neg (by omega), if_neg (by omega), if_neg (by rw [ha]; simp)]

set_option maxHeartbeats 2000000 in
theorem fdec_bad {w : World} {v : Value} {N : Nat} {C : Nat → Cd} (a b st : Int) (h : CodsIn w v N C) (hx : cntF N ≠ 0 ∨ sidF a b st ≠ 0 ∨ (C 0).al = false) :
    Calls Tryd.prog 12 #[.int .i64 a, .int .i64 b, .int .i64 st, v] w fun e w' => e = .returned (.tuple #[.slice none 0 0, errN (seeF a b st N C)]) ∧ Below w.heap.size w w' := by
  have K := hide (fun w => fcount_ok N w)
  obtain ⟨ad, cap, rfl, _, _, h3⟩ := h
  by_cases hc : cntF N = 0
  · obtain ⟨h1, h6⟩ := cntF_zero.1 hc
    obtain ⟨bb, o, rfl, hcs⟩ := h3 (by omega)
    obtain ⟨s0, hs0⟩ := hcs 0 (by omega)
    rw [show o + 0 * 4 = o by omega] at hs0
    obtain ⟨c0, _, _, _, _⟩ := hs0
    rw [hc] at K
    have hx2 := hx.resolve_left (by omega)
    clear hcs h3 hx hc
    have K1 := hide (fun w => fwithin_ok a 6 w)
    have K2 := hide (fun w => fwithin_ok b 6 w)
    have K3 := hide (fun w => fwithin_ok st 64 w)
    cases q1 : inOk a 6 with
    | false =>
      have HE := hide (seeF_sid (C := C) h1 h6 (by rw [sidF_in (a := a) (b := b) (s := st), q1]; simp))
      rw [q1] at K1
      clear hx2 q1 K2 K3
      go_enter Tryd.func12, Tryd.ntmps12
      go_wp2_with fail
      refine (K.out _).mono ?_
      rintro e w1 ⟨rfl, rfl⟩
      rw [errN_zero]
      go_wp2_with fail
      refine (K1.out _).mono ?_
      rintro e w2 ⟨rfl, rfl⟩
      go_wp2
      go_ret2
      exact ⟨by rw [HE.out]; rfl, Below.refl _ _⟩
    | true =>
      rw [q1] at K1
      cases q2 : inOk b 6 with
      | false =>
        have HE := hide (seeF_sid (C := C) h1 h6 (by rw [sidF_in (a := a) (b := b) (s := st), q1, q2]; simp))
        rw [q2] at K2
        clear hx2 q1 q2 K3
        go_enter Tryd.func12, Tryd.ntmps12
        go_wp2_with fail
        refine (K.out _).mono ?_
        rintro e w1 ⟨rfl, rfl⟩
        rw [errN_zero]
        go_wp2_with fail
        refine (K1.out _).mono ?_
        rintro e w2 ⟨rfl, rfl⟩
        go_wp2_with fail
        refine (K2.out _).mono ?_
        rintro e w2 ⟨rfl, rfl⟩
        go_wp2
        go_ret2
        exact ⟨by rw [HE.out]; rfl, Below.refl _ _⟩
      | true =>
        rw [q2] at K2
        cases q3 : inOk st 64 with
        | false =>
          have HE := hide (seeF_sid (C := C) h1 h6 (by rw [sidF_in (a := a) (b := b) (s := st), q1, q2, q3]; simp))
          rw [q3] at K3
          clear hx2 q1 q2 q3
          go_enter Tryd.func12, Tryd.ntmps12
          go_wp2_with fail
          refine (K.out _).mono ?_
          rintro e w1 ⟨rfl, rfl⟩
          rw [errN_zero]
          go_wp2_with fail
          refine (K1.out _).mono ?_
          rintro e w2 ⟨rfl, rfl⟩
          go_wp2_with fail
          refine (K2.out _).mono ?_
          rintro e w2 ⟨rfl, rfl⟩
          go_wp2_with fail
          refine (K3.out _).mono ?_
          rintro e w2 ⟨rfl, rfl⟩
          go_wp2
          go_ret2
          exact ⟨by rw [HE.out]; rfl, Below.refl _ _⟩
        | true =>
          have hs : sidF a b st = 0 := by rw [sidF_in, q1, q2, q3]; rfl
          have ha := hx2.resolve_left (by omega)
          have HE := hide (seeF_al (C := C) h1 h6 hs ha)
          rw [ha] at c0
          rw [q3] at K3
          clear hx2 q1 q2 q3 hs ha
          go_enter Tryd.func12, Tryd.ntmps12
          go_wp2_with fail
          refine (K.out _).mono ?_
          rintro e w1 ⟨rfl, rfl⟩
          rw [errN_zero]
          go_wp2_with fail
          refine (K1.out _).mono ?_
          rintro e w2 ⟨rfl, rfl⟩
          go_wp2_with fail
          refine (K2.out _).mono ?_
          rintro e w2 ⟨rfl, rfl⟩
          go_wp2_with fail
          refine (K3.out _).mono ?_
          rintro e w2 ⟨rfl, rfl⟩
          go_wp2
          go_ret2
          exact ⟨by rw [HE.out]; rfl, Below.refl _ _⟩
  · have HE := hide (seeF_cnt (a := a) (b := b) (s := st) (C := C) hc)
    have HN := hide (errN_pos hc)
    clear h3 hx
    generalize cntF N = k at *
    clear hc
    go_enter Tryd.func12, Tryd.ntmps12
    go_wp2_with fail
    refine (K.out _).mono ?_
    rintro e w1 ⟨rfl, rfl⟩
    rw [HN.out]
    go_wp2
    go_ret2
    exact ⟨by rw [HE.out, HN.out]; rfl, Below.refl _ _⟩
end Go.Proofs.YtjhflcgphejddaaDoor
