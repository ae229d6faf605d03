/-
  Our own contracts of dropref2's Picture, Two, Apart and within. Lemmas for the laws above; no statement is proved here.
-/
import Derived.Test.YtikkpppkjfploaaDoorPicE
import Derived.Test.YtikkpppkjfploaaDoorPicB
namespace Go.Proofs.YtikkpppkjfploaaDoor
open Go.RowKit
set_option linter.unusedVariables false
set_option maxRecDepth 100000

set_option maxHeartbeats 1000000 in
theorem rpic_ok {w : World} {s : Value} {n : Nat} {f : Nat → Int} (a b : Int) (h : IntsIn w s n f) :
    Calls Tryd.prog 4 #[.agg #[.int .i64 a, .int .i64 b, s]] w fun e w' => e = .returned (.int .i64 (picF a b n f : Nat)) ∧ Below w.heap.size w w' := by
  have hb0 : Below w.heap.size w (w.alloc (.cells #[.int .i64 a, .int .i64 b, s] 24)) := (Below.refl _ _).alloc (Nat.le_refl _) _
  have HB := hide hb0
  have H0 := hide (h.below hb0)
  obtain ⟨⟨c0, _⟩, ⟨c1, _⟩, c2, _⟩ := picIn_new w a b s
  obtain ⟨ad, cap, rfl⟩ : ∃ ad cap, s = .slice ad n cap := by
    rcases h with ⟨rfl, a, c, rfl⟩ | ⟨_, b, o, c, rfl, _⟩
    · exact ⟨_, _, rfl⟩
    · exact ⟨_, _, rfl⟩
  have HP : Hid (picF a b n f = if sidesOk a b = false then 1 else if (n : Int) ≠ a * b then 3 else if pixOk n f = false then 1 else 0) := rfl
  clear hb0 h
  by_cases hs : 1 ≤ a ∧ a ≤ 6 ∧ 1 ≤ b ∧ b ≤ 6
  · have hsid := sidesOk_iff.2 hs
    obtain ⟨s1, s2, s3, s4⟩ := hs
    have hp0 : 0 ≤ a * b := Int.mul_nonneg (by omega) (by omega)
    have hp1 : a * b ≤ 36 := by
      have e1 : a * b ≤ 6 * b := Int.mul_le_mul_of_nonneg_right (by omega) (by omega)
      omega
    rw [hsid, if_neg (by simp)] at HP
    clear hsid
    by_cases hn : (n : Int) = a * b
    · have hn1 : ((n : Int) == a * b) = true := by rw [beq_iff_eq]; exact hn
      have hn3 : ((n : Int) != a * b) = false := by simp [bne, hn1]
      have hn2 : n ≤ 36 := by omega
      have hn0 : 0 < n := by
        have e1 : 1 * b ≤ a * b := Int.mul_le_mul_of_nonneg_right (by omega) (by omega)
        omega
      rw [if_neg (by simp [hn])] at HP
      clear hn
      obtain ⟨bb, oo, rfl, hc⟩ : ∃ bb oo, ad = some ⟨bb, oo, none⟩ ∧ ∀ i, i < n → (w.alloc (.cells #[.int .i64 a, .int .i64 b, .slice ad n cap] 24)).cell? ⟨bb, oo + i, none⟩ = some (.int .i64 (f i)) := by
        rcases H0.out with ⟨h, _⟩ | ⟨_, b', o', c', e, hc⟩
        · omega
        · cases e
          exact ⟨_, _, rfl, hc⟩
      have HC := hide hc
      clear H0 hc
      go_enter Tryd.func4, Tryd.ntmps4
      go_wp2
      go_loop [3] (fun i => ∃ j : Nat, j ≤ n ∧ i = .int .i64 j ∧ ∀ q, q < j → 0 ≤ f q ∧ f q ≤ 255) (fun i => n - (intOf i).toNat)
      case atStart => exact ⟨0, Nat.zero_le _, rfl, fun q hq => absurd hq (Nat.not_lt_zero _)⟩
      case round =>
        obtain ⟨j, hj, rfl, hno⟩ := hrel
        have HN := hide hno
        clear hno
        by_cases hlt : j < n
        · have hcj := HC.out j hlt
          by_cases hx : 0 ≤ f j ∧ f j ≤ 255
          · have HX := hide hx
            obtain ⟨x0, x1⟩ := hx
            generalize hz : f j = z at *
            have HZ := hide hz
            clear hz
            go_wp2
            go_round
            case rel =>
              refine ⟨j + 1, by omega, by go_num, fun q hq => ?_⟩
              by_cases c : q = j
              · rw [c, HZ.out]; exact HX.out
              · exact HN.out q (by omega)
            case measure => simp [intOf]; omega
          · have HE : Hid (picF a b n f = 1) := by
              unfold Hid
              rw [HP.out, if_pos]
              rw [← Bool.not_eq_true, pixOk_iff]
              exact fun h => hx (h j hlt)
            have hx' : f j < 0 ∨ (0 ≤ f j ∧ 255 < f j) := by omega
            clear hx
            generalize f j = z at *
            rcases hx' with x0 | ⟨x0, x1⟩
            · go_wp2
              go_ret
              exact ⟨by rw [HE.out]; rfl, HB.out⟩
            · go_wp2
              go_ret
              exact ⟨by rw [HE.out]; rfl, HB.out⟩
        · obtain rfl : j = n := by omega
          have HE : Hid (picF a b j f = 0) := by
            unfold Hid
            rw [HP.out, if_neg]
            rw [pixOk_iff.2 HN.out]; simp
          go_wp2
          go_ret
          exact ⟨by rw [HE.out]; rfl, HB.out⟩
    · have hn1 : ((n : Int) == a * b) = false := by rw [beq_eq_false_iff_ne]; exact hn
      have hn3 : ((n : Int) != a * b) = true := by simp [bne, hn1]
      have HE : Hid (picF a b n f = 3) := by unfold Hid; rw [HP.out, if_pos hn]
      clear hn HP H0
      go_enter Tryd.func4, Tryd.ntmps4
      go_wp2
      go_ret
      exact ⟨by rw [HE.out]; rfl, HB.out⟩
  · have HE : Hid (picF a b n f = 1) := by
      unfold Hid
      rw [HP.out, if_pos]
      rw [← Bool.not_eq_true, sidesOk_iff]; exact hs
    have h' : a < 1 ∨ (1 ≤ a ∧ 6 < a) ∨ (1 ≤ a ∧ a ≤ 6 ∧ b < 1) ∨ (1 ≤ a ∧ a ≤ 6 ∧ 1 ≤ b ∧ 6 < b) := by omega
    clear hs HP H0
    rcases h' with h | ⟨h1, h⟩ | ⟨h1, h2, h⟩ | ⟨h1, h2, h3, h⟩ <;>
    · go_enter Tryd.func4, Tryd.ntmps4
      go_wp2
      go_ret
      exact ⟨by rw [HE.out]; rfl, HB.out⟩

set_option maxHeartbeats 1000000 in
theorem rtwo_ok {w : World} {s s' : Value} {n n' : Nat} {f f' : Nat → Int} (a b a' b' : Int) (h : IntsIn w s n f) (h' : IntsIn w s' n' f') :
    Calls Tryd.prog 10 #[.agg #[.int .i64 a, .int .i64 b, s], .agg #[.int .i64 a', .int .i64 b', s']] w fun e w' => e = .returned (.int .i64 (twoF a b n f a' b' n' f' : Nat)) ∧ Below w.heap.size w w' := by
  obtain ⟨W1, hW1⟩ : ∃ W1, W1 = w.alloc (.cells #[.int .i64 a, .int .i64 b, s] 24) := ⟨_, rfl⟩
  obtain ⟨W2, hW2⟩ : ∃ W2, W2 = W1.alloc (.cells #[.int .i64 a', .int .i64 b', s'] 24) := ⟨_, rfl⟩
  have b1 : Below w.heap.size w W1 := hW1 ▸ (Below.refl _ _).alloc (Nat.le_refl _) _
  have b2' : Below W1.heap.size W1 W2 := hW2 ▸ (Below.refl _ _).alloc (Nat.le_refl _) _
  have b2 := below_two b1 b2'
  have p1 : PicIn W2 w.heap.size a b s := PicIn.below (hW1 ▸ picIn_new w a b s) b2'
  have p2 : PicIn W2 (w.heap.size + 1) a' b' s' := by
    have := picIn_new W1 a' b' s'
    rw [← hW2] at this
    rwa [show W1.heap.size = w.heap.size + 1 by rw [hW1]; simp] at this
  have C := hide (rpic_ok a b (h.below b2))
  have C' := hide (fun w1 (hb : Below W2.heap.size W2 w1) => rpic_ok a' b' ((h'.below b2).below hb))
  have B2 := hide b2
  have P1 := hide p1
  have P2 := hide p2
  subst hW2
  subst hW1
  clear h h' b1 b2' b2 p1 p2
  by_cases hp : picF a b n f = 0
  · rw [hp] at C
    by_cases hq : picF a' b' n' f' = 0
    · rw [hq] at C'
      have hway : (a = a' ∧ b = b') ∨ (a = a' ∧ b ≠ b') ∨ a ≠ a' := by omega
      have HE : Hid (twoF a b n f a' b' n' f' = if a = a' ∧ b = b' then 0 else 3) := by unfold Hid twoF; rw [if_neg (by omega), if_neg (by omega)]
      clear hp hq
      rcases hway with ⟨ha, hb⟩ | ⟨ha, hb⟩ | ha
      · rw [if_pos ⟨ha, hb⟩] at HE
        have e1 : (a == a') = true := by rw [beq_iff_eq]; exact ha
        have e2 : (a != a') = false := by simp [bne, e1]
        have e3 : (b == b') = true := by rw [beq_iff_eq]; exact hb
        have e4 : (b != b') = false := by simp [bne, e3]
        clear ha hb
        go_enter Tryd.func10, Tryd.ntmps10
        go_wp2_with fail
        refine (C.out).mono ?_
        rintro e w1 ⟨rfl, hb1⟩
        have C2 := hide (C'.out w1 hb1)
        have q1 := P1.out.below hb1
        have q2 := P2.out.below hb1
        have B1 := hide (below_two B2.out hb1)
        have Q1 := hide q1
        have Q2 := hide q2
        clear hb1 C'
        obtain ⟨⟨c0, _⟩, ⟨c1, _⟩, c2, _⟩ := q1
        obtain ⟨⟨c3, _⟩, ⟨c4, _⟩, c5, _⟩ := q2
        go_wp2_with fail
        refine (C2.out).mono ?_
        rintro e w2 ⟨rfl, hb2⟩
        obtain ⟨⟨d0, _⟩, ⟨d1, _⟩, d2, _⟩ := Q1.out.below hb2
        obtain ⟨⟨d3, _⟩, ⟨d4, _⟩, d5, _⟩ := Q2.out.below hb2
        have B3 := hide (below_two B1.out hb2)
        clear hb2
        go_wp2
        go_ret
        exact ⟨ret_int (by rw [HE.out] <;> rfl), B3.out⟩
      · rw [if_neg (fun h => hb h.2)] at HE
        have e1 : (a == a') = true := by rw [beq_iff_eq]; exact ha
        have e2 : (a != a') = false := by simp [bne, e1]
        have e3 : (b == b') = false := by rw [beq_eq_false_iff_ne]; exact hb
        have e4 : (b != b') = true := by simp [bne, e3]
        clear ha hb
        go_enter Tryd.func10, Tryd.ntmps10
        go_wp2_with fail
        refine (C.out).mono ?_
        rintro e w1 ⟨rfl, hb1⟩
        have C2 := hide (C'.out w1 hb1)
        have q1 := P1.out.below hb1
        have q2 := P2.out.below hb1
        have B1 := hide (below_two B2.out hb1)
        have Q1 := hide q1
        have Q2 := hide q2
        clear hb1 C'
        obtain ⟨⟨c0, _⟩, ⟨c1, _⟩, c2, _⟩ := q1
        obtain ⟨⟨c3, _⟩, ⟨c4, _⟩, c5, _⟩ := q2
        go_wp2_with fail
        refine (C2.out).mono ?_
        rintro e w2 ⟨rfl, hb2⟩
        obtain ⟨⟨d0, _⟩, ⟨d1, _⟩, d2, _⟩ := Q1.out.below hb2
        obtain ⟨⟨d3, _⟩, ⟨d4, _⟩, d5, _⟩ := Q2.out.below hb2
        have B3 := hide (below_two B1.out hb2)
        clear hb2
        go_wp2
        go_ret
        exact ⟨ret_int (by rw [HE.out] <;> rfl), B3.out⟩
      · rw [if_neg (fun h => ha h.1)] at HE
        have e1 : (a == a') = false := by rw [beq_eq_false_iff_ne]; exact ha
        have e2 : (a != a') = true := by simp [bne, e1]
        clear ha
        go_enter Tryd.func10, Tryd.ntmps10
        go_wp2_with fail
        refine (C.out).mono ?_
        rintro e w1 ⟨rfl, hb1⟩
        have C2 := hide (C'.out w1 hb1)
        have q1 := P1.out.below hb1
        have q2 := P2.out.below hb1
        have B1 := hide (below_two B2.out hb1)
        have Q1 := hide q1
        have Q2 := hide q2
        clear hb1 C'
        obtain ⟨⟨c0, _⟩, ⟨c1, _⟩, c2, _⟩ := q1
        obtain ⟨⟨c3, _⟩, ⟨c4, _⟩, c5, _⟩ := q2
        go_wp2_with fail
        refine (C2.out).mono ?_
        rintro e w2 ⟨rfl, hb2⟩
        obtain ⟨⟨d0, _⟩, ⟨d1, _⟩, d2, _⟩ := Q1.out.below hb2
        obtain ⟨⟨d3, _⟩, ⟨d4, _⟩, d5, _⟩ := Q2.out.below hb2
        have B3 := hide (below_two B1.out hb2)
        clear hb2
        go_wp2
        go_ret
        exact ⟨ret_int (by rw [HE.out] <;> rfl), B3.out⟩
    · have HE : Hid (twoF a b n f a' b' n' f' = picF a' b' n' f') := by unfold Hid twoF; rw [if_neg (by omega), if_pos hq]
      have e0 : ((picF a' b' n' f' : Int) == 0) = false := by rw [beq_eq_false_iff_ne]; omega
      clear hp hq
      generalize picF a' b' n' f' = fl at *
      go_enter Tryd.func10, Tryd.ntmps10
      go_wp2_with fail
      refine (C.out).mono ?_
      rintro e w1 ⟨rfl, hb1⟩
      have C2 := hide (C'.out w1 hb1)
      have q1 := P1.out.below hb1
      have q2 := P2.out.below hb1
      have B1 := hide (below_two B2.out hb1)
      have Q1 := hide q1
      have Q2 := hide q2
      clear hb1 C'
      obtain ⟨⟨c0, _⟩, ⟨c1, _⟩, c2, _⟩ := q1
      obtain ⟨⟨c3, _⟩, ⟨c4, _⟩, c5, _⟩ := q2
      go_wp2_with fail
      refine (C2.out).mono ?_
      rintro e w2 ⟨rfl, hb2⟩
      obtain ⟨⟨d0, _⟩, ⟨d1, _⟩, d2, _⟩ := Q1.out.below hb2
      obtain ⟨⟨d3, _⟩, ⟨d4, _⟩, d5, _⟩ := Q2.out.below hb2
      have B3 := hide (below_two B1.out hb2)
      clear hb2
      go_wp2
      go_ret
      exact ⟨ret_int (by rw [HE.out] <;> rfl), B3.out⟩
  · have HE : Hid (twoF a b n f a' b' n' f' = picF a b n f) := by unfold Hid twoF; rw [if_pos hp]
    have e0 : ((picF a b n f : Int) == 0) = false := by rw [beq_eq_false_iff_ne]; omega
    clear hp C'
    generalize picF a b n f = fl at *
    go_enter Tryd.func10, Tryd.ntmps10
    go_wp2_with fail
    refine (C.out).mono ?_
    rintro e w1 ⟨rfl, hb1⟩
    have B1 := hide (below_two B2.out hb1)
    clear hb1
    go_wp2
    go_ret
    exact ⟨ret_int (by rw [HE.out]), B1.out⟩

theorem rapart_ok (x y : Int) (w : World) (hx : 0 ≤ x ∧ x ≤ 255) (hy : 0 ≤ y ∧ y ≤ 255) :
    Calls Tryd.prog 11 #[.int .i64 x, .int .i64 y] w fun e w' => e = .returned (.int .i64 ((x - y).natAbs : Nat)) ∧ w = w' := by
  obtain ⟨x0, x1⟩ := hx
  obtain ⟨y0, y1⟩ := hy
  by_cases h : x < y
  · have e : (((x - y).natAbs : Nat) : Int) = y - x := by omega
    rw [e]
    clear e
    go_enter Tryd.func11, Tryd.ntmps11
    go_wp2
    go_ret
    exact ⟨rfl, rfl⟩
  · have e : (((x - y).natAbs : Nat) : Int) = x - y := by omega
    rw [e]
    clear e
    go_enter Tryd.func11, Tryd.ntmps11
    go_wp2
    go_ret
    exact ⟨rfl, rfl⟩
theorem rwithin_ok (x : Int) (m : Nat) (w : World) (hm : 1 ≤ m) :
    Calls Tryd.prog 19 #[.int .i64 x, .int .i64 ((m : Int) - 1)] w fun e w' => e = .returned (.int .i64 (near x m : Nat)) ∧ w = w' := by
  rw [near_int x hm]
  by_cases h : x < 0
  · have e : min (max x 0) ((m : Int) - 1) = 0 := by omega
    rw [e]
    clear e
    go_enter Tryd.func19, Tryd.ntmps19
    go_wp2
    go_ret
    exact ⟨rfl, rfl⟩
  · by_cases h2 : (m : Int) - 1 < x
    · have e : min (max x 0) ((m : Int) - 1) = (m : Int) - 1 := by omega
      rw [e]
      clear e
      go_enter Tryd.func19, Tryd.ntmps19
      go_wp2
      go_ret
      exact ⟨rfl, rfl⟩
    · have e : min (max x 0) ((m : Int) - 1) = x := by omega
      rw [e]
      clear e
      go_enter Tryd.func19, Tryd.ntmps19
      go_wp2
      go_ret
      exact ⟨rfl, rfl⟩
end Go.Proofs.YtikkpppkjfploaaDoor
