/-
  Lemmas for the law above, joined into one text (RWith, RPic). No statement is proved here.
-/
import Derived.Test.YtcicoblejaippaaDoorTG4
namespace Go.Proofs.YtcicoblejaippaaDoor
open Go.RowKit
set_option linter.unusedVariables false
set_option maxRecDepth 100000

theorem rwithin_ok (x : Int) (m : Nat) (w : World) (hm : 1 ≤ m) :
    Calls Tryd.prog 26 #[.int .i64 x, .int .i64 ((m : Int) - 1)] w fun e w' => e = .returned (.int .i64 (near x m : Nat)) ∧ w = w' := by
  rw [near_int x hm]
  by_cases h : x < 0
  · have e : min (max x 0) ((m : Int) - 1) = 0 := by omega
    rw [e]
    clear e
    go_enter Tryd.func26, Tryd.ntmps26
    go_wp2
    go_ret
    exact ⟨rfl, rfl⟩
  · by_cases h2 : (m : Int) - 1 < x
    · have e : min (max x 0) ((m : Int) - 1) = (m : Int) - 1 := by omega
      rw [e]
      clear e
      go_enter Tryd.func26, Tryd.ntmps26
      go_wp2
      go_ret
      exact ⟨rfl, rfl⟩
    · have e : min (max x 0) ((m : Int) - 1) = x := by omega
      rw [e]
      clear e
      go_enter Tryd.func26, Tryd.ntmps26
      go_wp2
      go_ret
      exact ⟨rfl, rfl⟩
end Go.Proofs.YtcicoblejaippaaDoor

namespace Go.Proofs.YtcicoblejaippaaDoor
open Go.RowKit
set_option linter.unusedVariables false
set_option maxRecDepth 100000

set_option maxHeartbeats 1000000 in
theorem rtwo_ok {w : World} {s s' : Value} {n n' : Nat} {f f' : Nat → Int} (a b a' b' : Int) (h : IntsIn w s n f) (h' : IntsIn w s' n' f') :
    Calls Tryd.prog 5 #[.agg #[.int .i64 a, .int .i64 b, s], .agg #[.int .i64 a', .int .i64 b', s']] w fun e w' => e = .returned (.int .i64 (twoF a b n f a' b' n' f' : Nat)) ∧ Below w.heap.size w w' := by
  obtain ⟨W1, hW1⟩ : ∃ W1, W1 = w.alloc (.cells #[.int .i64 a, .int .i64 b, s] 24) := ⟨_, rfl⟩
  obtain ⟨W2, hW2⟩ : ∃ W2, W2 = W1.alloc (.cells #[.int .i64 a', .int .i64 b', s'] 24) := ⟨_, rfl⟩
  have b1 : Below w.heap.size w W1 := hW1 ▸ (Below.refl _ _).alloc (Nat.le_refl _) _
  have b2' : Below W1.heap.size W1 W2 := hW2 ▸ (Below.refl _ _).alloc (Nat.le_refl _) _
  have b2 := below_two b1 b2'
  have p1 : PicIn W2 w.heap.size a b s := PicIn.below (hW1 ▸ picIn_new w a b s) b2'
  have p2 : PicIn W2 (w.heap.size + 1) a' b' s' := by
    have := picIn_new W1 a' b' s'
    rw [← hW2] at this
    rwa [show W1.heap.size = w.heap.size + 1 by rw [hW1]; simp] at this
  have C := hide (rpic_ok a b (h.below b2))
  have C' := hide (fun w1 (hb : Below W2.heap.size W2 w1) => rpic_ok a' b' ((h'.below b2).below hb))
  have B2 := hide b2
  have P1 := hide p1
  have P2 := hide p2
  subst hW2
  subst hW1
  clear h h' b1 b2' b2 p1 p2
  by_cases hp : picF a b n f = 0
  · rw [hp] at C
    by_cases hq : picF a' b' n' f' = 0
    · rw [hq] at C'
      have hway : (a = a' ∧ b = b') ∨ (a = a' ∧ b ≠ b') ∨ a ≠ a' := by omega
      have HE : Hid (twoF a b n f a' b' n' f' = if a = a' ∧ b = b' then 0 else 3) := by unfold Hid twoF; rw [if_neg (by omega), if_neg (by omega)]
      clear hp hq
      rcases hway with ⟨ha, hb⟩ | ⟨ha, hb⟩ | ha
      · rw [if_pos ⟨ha, hb⟩] at HE
        have e1 : (a == a') = true := by rw [beq_iff_eq]; exact ha
        have e2 : (a != a') = false := by simp [bne, e1]
        have e3 : (b == b') = true := by rw [beq_iff_eq]; exact hb
        have e4 : (b != b') = false := by simp [bne, e3]
        clear ha hb
        go_enter Tryd.func5, Tryd.ntmps5
        go_wp2_with fail
        refine (C.out).mono ?_
        rintro e w1 ⟨rfl, hb1⟩
        have C2 := hide (C'.out w1 hb1)
        have q1 := P1.out.below hb1
        have q2 := P2.out.below hb1
        have B1 := hide (below_two B2.out hb1)
        have Q1 := hide q1
        have Q2 := hide q2
        clear hb1 C'
        obtain ⟨⟨c0, _⟩, ⟨c1, _⟩, c2, _⟩ := q1
        obtain ⟨⟨c3, _⟩, ⟨c4, _⟩, c5, _⟩ := q2
        go_wp2_with fail
        refine (C2.out).mono ?_
        rintro e w2 ⟨rfl, hb2⟩
        obtain ⟨⟨d0, _⟩, ⟨d1, _⟩, d2, _⟩ := Q1.out.below hb2
        obtain ⟨⟨d3, _⟩, ⟨d4, _⟩, d5, _⟩ := Q2.out.below hb2
        have B3 := hide (below_two B1.out hb2)
        clear hb2
        go_wp2
        go_ret
        exact ⟨ret_int (by rw [HE.out] <;> rfl), B3.out⟩
      · rw [if_neg (fun h => hb h.2)] at HE
        have e1 : (a == a') = true := by rw [beq_iff_eq]; exact ha
        have e2 : (a != a') = false := by simp [bne, e1]
        have e3 : (b == b') = false := by rw [beq_eq_false_iff_ne]; exact hb
        have e4 : (b != b') = true := by simp [bne, e3]
        clear ha hb
        go_enter Tryd.func5, Tryd.ntmps5
        go_wp2_with fail
        refine (C.out).mono ?_
        rintro e w1 ⟨rfl, hb1⟩
        have C2 := hide (C'.out w1 hb1)
        have q1 := P1.out.below hb1
        have q2 := P2.out.below hb1
        have B1 := hide (below_two B2.out hb1)
        have Q1 := hide q1
        have Q2 := hide q2
        clear hb1 C'
        obtain ⟨⟨c0, _⟩, ⟨c1, _⟩, c2, _⟩ := q1
        obtain ⟨⟨c3, _⟩, ⟨c4, _⟩, c5, _⟩ := q2
        go_wp2_with fail
        refine (C2.out).mono ?_
        rintro e w2 ⟨rfl, hb2⟩
        obtain ⟨⟨d0, _⟩, ⟨d1, _⟩, d2, _⟩ := Q1.out.below hb2
        obtain ⟨⟨d3, _⟩, ⟨d4, _⟩, d5, _⟩ := Q2.out.below hb2
        have B3 := hide (below_two B1.out hb2)
        clear hb2
        go_wp2
        go_ret
        exact ⟨ret_int (by rw [HE.out] <;> rfl), B3.out⟩
      · rw [if_neg (fun h => ha h.1)] at HE
        have e1 : (a == a') = false := by rw [beq_eq_false_iff_ne]; exact ha
        have e2 : (a != a') = true := by simp [bne, e1]
        clear ha
        go_enter Tryd.func5, Tryd.ntmps5
        go_wp2_with fail
        refine (C.out).mono ?_
        rintro e w1 ⟨rfl, hb1⟩
        have C2 := hide (C'.out w1 hb1)
        have q1 := P1.out.below hb1
        have q2 := P2.out.below hb1
        have B1 := hide (below_two B2.out hb1)
        have Q1 := hide q1
        have Q2 := hide q2
        clear hb1 C'
        obtain ⟨⟨c0, _⟩, ⟨c1, _⟩, c2, _⟩ := q1
        obtain ⟨⟨c3, _⟩, ⟨c4, _⟩, c5, _⟩ := q2
        go_wp2_with fail
        refine (C2.out).mono ?_
        rintro e w2 ⟨rfl, hb2⟩
        obtain ⟨⟨d0, _⟩, ⟨d1, _⟩, d2, _⟩ := Q1.out.below hb2
        obtain ⟨⟨d3, _⟩, ⟨d4, _⟩, d5, _⟩ := Q2.out.below hb2
        have B3 := hide (below_two B1.out hb2)
        clear hb2
        go_wp2
        go_ret
        exact ⟨ret_int (by rw [HE.out] <;> rfl), B3.out⟩
    · have HE : Hid (twoF a b n f a' b' n' f' = picF a' b' n' f') := by unfold Hid twoF; rw [if_neg (by omega), if_pos hq]
      have e0 : ((picF a' b' n' f' : Int) == 0) = false := by rw [beq_eq_false_iff_ne]; omega
      clear hp hq
      generalize picF a' b' n' f' = fl at *
      go_enter Tryd.func5, Tryd.ntmps5
      go_wp2_with fail
      refine (C.out).mono ?_
      rintro e w1 ⟨rfl, hb1⟩
      have C2 := hide (C'.out w1 hb1)
      have q1 := P1.out.below hb1
      have q2 := P2.out.below hb1
      have B1 := hide (below_two B2.out hb1)
      have Q1 := hide q1
      have Q2 := hide q2
      clear hb1 C'
      obtain ⟨⟨c0, _⟩, ⟨c1, _⟩, c2, _⟩ := q1
      obtain ⟨⟨c3, _⟩, ⟨c4, _⟩, c5, _⟩ := q2
      go_wp2_with fail
      refine (C2.out).mono ?_
      rintro e w2 ⟨rfl, hb2⟩
      obtain ⟨⟨d0, _⟩, ⟨d1, _⟩, d2, _⟩ := Q1.out.below hb2
      obtain ⟨⟨d3, _⟩, ⟨d4, _⟩, d5, _⟩ := Q2.out.below hb2
      have B3 := hide (below_two B1.out hb2)
      clear hb2
      go_wp2
      go_ret
      exact ⟨ret_int (by rw [HE.out] <;> rfl), B3.out⟩
  · have HE : Hid (twoF a b n f a' b' n' f' = picF a b n f) := by unfold Hid twoF; rw [if_pos hp]
    have e0 : ((picF a b n f : Int) == 0) = false := by rw [beq_eq_false_iff_ne]; omega
    clear hp C'
    generalize picF a b n f = fl at *
    go_enter Tryd.func5, Tryd.ntmps5
    go_wp2_with fail
    refine (C.out).mono ?_
    rintro e w1 ⟨rfl, hb1⟩
    have B1 := hide (below_two B2.out hb1)
    clear hb1
    go_wp2
    go_ret
    exact ⟨ret_int (by rw [HE.out]), B1.out⟩

theorem rapart_ok (x y : Int) (w : World) (hx : 0 ≤ x ∧ x ≤ 255) (hy : 0 ≤ y ∧ y ≤ 255) :
    Calls Tryd.prog 17 #[.int .i64 x, .int .i64 y] w fun e w' => e = .returned (.int .i64 ((x - y).natAbs : Nat)) ∧ w = w' := by
  obtain ⟨x0, x1⟩ := hx
  obtain ⟨y0, y1⟩ := hy
  by_cases h : x < y
  · have e : (((x - y).natAbs : Nat) : Int) = y - x := by omega
    rw [e]
    clear e
    go_enter Tryd.func17, Tryd.ntmps17
    go_wp2
    go_ret
    exact ⟨rfl, rfl⟩
  · have e : (((x - y).natAbs : Nat) : Int) = x - y := by omega
    rw [e]
    clear e
    go_enter Tryd.func17, Tryd.ntmps17
    go_wp2
    go_ret
    exact ⟨rfl, rfl⟩
end Go.Proofs.YtcicoblejaippaaDoor
