/-
  Lemmas for the law above, joined into one text (PicM, PicC, PicU). No statement is proved here.
-/
import Derived.Test.YtjhflcgphejddaaDoorBG13
import Derived.Test.YtjhflcgphejddaaDoorBG8
import Derived.Deep.DeepCutAuto
import Derived.Test.YtjhflcgphejddaaDoorBG14
import Derived.Deep.QuietTactic
import Derived.BigQuiet
namespace Go.Proofs.YtjhflcgphejddaaDoor
open Go.RowKit
set_option linter.unusedVariables false
set_option maxRecDepth 100000

set_option maxHeartbeats 1000000 in
theorem pnear_ok {w : World} {s : Value} {n : Nat} {f : Nat → Int} {a b : Int} {A B : Nat} (x y : Int) (h : IntsIn w s n f) (o : PicOk a b n f A B) :
    Calls Tryd.prog 90 #[.agg #[.int .i64 a, .int .i64 b, s], .int .i64 x, .int .i64 y] w fun e w' => e = .returned (.int .i64 (f (near y B * A + near x A))) ∧ Below w.heap.size w w' := by
  have hl := o.le
  have h0 := o.pos
  obtain ⟨ad, oo, cap, rfl, hc⟩ : ∃ ad oo cap, s = .slice (some ⟨ad, oo, none⟩) n cap ∧ ∀ i, i < n → w.cell? ⟨ad, oo + i, none⟩ = some (.int .i64 (f i)) := by
    rcases h with ⟨h, _⟩ | ⟨_, b, o, c, rfl, hc⟩
    · omega
    · exact ⟨_, _, _, rfl, hc⟩
  have b1 : Below w.heap.size w (w.alloc (.cells #[.int .i64 a, .int .i64 b, .slice (some ⟨ad, oo, none⟩) n cap] 46)) := (Below.refl _ _).alloc (Nat.le_refl _) _
  have p1 := picIn_new w a b (.slice (some ⟨ad, oo, none⟩) n cap)
  obtain ⟨⟨c0, _⟩, ⟨c1, _⟩, c2, _⟩ := p1
  have HB := hide b1
  have ea := o.wide
  have eb := o.high
  subst ea
  subst eb
  have a1 := o.w1
  have a6 := o.w6
  have b1' := o.h1
  have b6 := o.h6
  have nx := near_lt x o.w1
  have ny := near_lt y o.h1
  have hq : near y B * A + near x A < n := by
    have h3 : (near y B + 1) * A ≤ B * A := Nat.mul_le_mul_right _ (by omega)
    rw [Nat.add_mul, Nat.one_mul] at h3
    rw [o.many, Nat.mul_comm A B]
    omega
  have hcell := cell_below b1 (hc _ hq)
  have IX := hide (near_int x o.w1)
  have IY := hide (near_int y o.h1)
  have hqi : ((near y B : Nat) : Int) * (A : Int) + ((near x A : Nat) : Int) = ((near y B * A + near x A : Nat) : Int) := by rw [Int.natCast_add, Int.natCast_mul]
  have hp0 : (0 : Int) ≤ ((near y B : Nat) : Int) * (A : Int) := Int.mul_nonneg (by omega) (by omega)
  have hp1 : ((near y B : Nat) : Int) * (A : Int) ≤ 36 := by omega
  clear h hc o b1
  generalize hQ : near y B * A + near x A = q at *
  generalize hX : near x A = xx at *
  generalize hY : near y B = yy at *
  clear hQ hX hY
  go_enter Tryd.func90, Tryd.ntmps90
  go_upto_region 1 with fail
  go_cut [1] (fun t wx => t = .int .i64 xx ∧ wx = w.alloc (.cells #[.int .i64 A, .int .i64 B, .slice (some ⟨ad, oo, none⟩) n cap] 46))
  case first =>
    go_wp2
    all_goals
      go_meet
      refine ⟨?_, rfl⟩
      rw [IX.out]
      congr 1
      first | omega | ((repeat' split) <;> omega)
  case rest =>
  obtain ⟨rfl, rfl⟩ := hcut
  go_upto_region 2 with fail
  go_cut [2] (fun t wx => t = .int .i64 yy ∧ wx = w.alloc (.cells #[.int .i64 A, .int .i64 B, .slice (some ⟨ad, oo, none⟩) n cap] 46))
  case first =>
    go_wp2
    all_goals
      go_meet
      refine ⟨?_, rfl⟩
      rw [IY.out]
      congr 1
      first | omega | ((repeat' split) <;> omega)
  case rest =>
  obtain ⟨rfl, rfl⟩ := hcut
  generalize hz : f q = z at *
  have HZ := hide hz
  clear hz
  go_wp2
  go_ret
  exact ⟨ret_int HZ.out.symm, HB.out⟩
end Go.Proofs.YtjhflcgphejddaaDoor

namespace Go.Proofs.YtjhflcgphejddaaDoor
open Go.RowKit
set_option linter.unusedVariables false
set_option maxRecDepth 100000

set_option maxHeartbeats 1000000 in
theorem pcheck_ok {w : World} {s : Value} {n : Nat} {f : Nat → Int} (a b : Int) (h : IntsIn w s n f) :
    Calls Tryd.prog 49 #[.agg #[.int .i64 a, .int .i64 b, s]] w fun e w' => e = .returned (errN (picF a b n f)) ∧ Below w.heap.size w w' := by
  have hb0 : Below w.heap.size w (w.alloc (.cells #[.int .i64 a, .int .i64 b, s] 46)) := (Below.refl _ _).alloc (Nat.le_refl _) _
  have HB := hide hb0
  have H0 := hide (h.below hb0)
  obtain ⟨ad, cap, rfl⟩ : ∃ ad cap, s = .slice ad n cap := by
    rcases h with ⟨rfl, a, c, rfl⟩ | ⟨_, b, o, c, rfl, _⟩
    · exact ⟨_, _, rfl⟩
    · exact ⟨_, _, rfl⟩
  have S := hide (fun x w => pside_ok x w)
  have HP : Hid (picF a b n f = if (sideOk a && sideOk b) = false then 1 else if (n : Int) ≠ a * b then 3 else if pixOk n f = false then 1 else 0) := by
    unfold Hid picF; rw [sides_two]
  clear hb0 h
  cases ha : sideOk a with
  | false =>
    have S1 := hide (S.out a)
    rw [ha] at S1
    have HE : Hid (picF a b n f = 1) := by unfold Hid; rw [HP.out, ha, Bool.false_and, if_pos rfl]
    clear ha HP
    go_enter Tryd.func49, Tryd.ntmps49
    go_wp2_with fail
    refine (S1.out _).mono ?_
    rintro e w1 ⟨rfl, rfl⟩
    go_wp2
    go_ret
    exact ⟨by rw [HE.out]; rfl, HB.out⟩
  | true =>
    have S1 := hide (S.out a)
    rw [ha] at S1
    cases hb : sideOk b with
    | false =>
      have S2 := hide (S.out b)
      rw [hb] at S2
      have HE : Hid (picF a b n f = 1) := by unfold Hid; rw [HP.out, hb, Bool.and_false, if_pos rfl]
      clear ha hb HP
      go_enter Tryd.func49, Tryd.ntmps49
      go_wp2_with fail
      refine (S1.out _).mono ?_
      rintro e w1 ⟨rfl, rfl⟩
      go_wp2_with fail
      refine (S2.out _).mono ?_
      rintro e w1 ⟨rfl, rfl⟩
      go_wp2
      go_ret
      exact ⟨by rw [HE.out]; rfl, HB.out⟩
    | true =>
      have S2 := hide (S.out b)
      rw [hb] at S2
      have h1 := sideOk_iff.1 ha
      have h2 := sideOk_iff.1 hb
      have hp0 : 0 ≤ a * b := Int.mul_nonneg (by omega) (by omega)
      have hp1 : a * b ≤ 36 := by
        have e1 : a * b ≤ 6 * b := Int.mul_le_mul_of_nonneg_right (by omega) (by omega)
        omega
      rw [ha, hb, Bool.and_self, if_neg (by simp)] at HP
      clear ha hb
      by_cases hn : (n : Int) = a * b
      · have hn1 : ((n : Int) == a * b) = true := by rw [beq_iff_eq]; exact hn
        have hn2 : n ≤ 36 := by omega
        have C := hide (pcont_ok H0.out (by omega))
        rw [if_neg (by simp [hn])] at HP
        clear hn
        cases hq : pixOk n f with
        | false =>
          rw [hq] at C
          have HE : Hid (picF a b n f = 1) := by unfold Hid; rw [HP.out, hq, if_pos rfl]
          clear hq HP
          go_enter Tryd.func49, Tryd.ntmps49
          go_wp2_with fail
          refine (S1.out _).mono ?_
          rintro e w1 ⟨rfl, rfl⟩
          go_wp2_with fail
          refine (S2.out _).mono ?_
          rintro e w1 ⟨rfl, rfl⟩
          go_wp2_with fail
          refine (C.out).mono ?_
          rintro e w1 ⟨rfl, rfl⟩
          go_wp2
          go_ret
          exact ⟨by rw [HE.out]; rfl, HB.out⟩
        | true =>
          rw [hq] at C
          have HE : Hid (picF a b n f = 0) := by unfold Hid; rw [HP.out, hq, if_neg (by simp)]
          clear hq HP
          go_enter Tryd.func49, Tryd.ntmps49
          go_wp2_with fail
          refine (S1.out _).mono ?_
          rintro e w1 ⟨rfl, rfl⟩
          go_wp2_with fail
          refine (S2.out _).mono ?_
          rintro e w1 ⟨rfl, rfl⟩
          go_wp2_with fail
          refine (C.out).mono ?_
          rintro e w1 ⟨rfl, rfl⟩
          go_wp2
          go_ret
          exact ⟨by rw [HE.out]; rfl, HB.out⟩
      · have hn1 : ((n : Int) == a * b) = false := by rw [beq_eq_false_iff_ne]; exact hn
        have HE : Hid (picF a b n f = 3) := by unfold Hid; rw [HP.out, if_pos hn]
        clear hn HP
        go_enter Tryd.func49, Tryd.ntmps49
        go_wp2_with fail
        refine (S1.out _).mono ?_
        rintro e w1 ⟨rfl, rfl⟩
        go_wp2_with fail
        refine (S2.out _).mono ?_
        rintro e w1 ⟨rfl, rfl⟩
        go_wp2
        go_ret
        exact ⟨by rw [HE.out]; rfl, HB.out⟩
end Go.Proofs.YtjhflcgphejddaaDoor

namespace Go.Proofs.YtjhflcgphejddaaDoor
open Go.RowKit
set_option linter.unusedVariables false
set_option maxRecDepth 100000

set_option maxHeartbeats 1000000 in
theorem punlike_bad {w : World} {s s' : Value} {n n' : Nat} {f f' : Nat → Int} (a b a' b' : Int) (h : IntsIn w s n f) (h' : IntsIn w s' n' f') (hx : twoF a b n f a' b' n' f' ≠ 0) :
    Calls Tryd.prog 91 #[.agg #[.int .i64 a, .int .i64 b, s], .agg #[.int .i64 a', .int .i64 b', s']] w fun e w' => e = .returned (.tuple #[.int .i64 0, errN (twoF a b n f a' b' n' f')]) ∧ Below w.heap.size w w' := by
  obtain ⟨W1, hW1⟩ : ∃ W1, W1 = w.alloc (.cells #[.int .i64 a, .int .i64 b, s] 46) := ⟨_, rfl⟩
  obtain ⟨W2, hW2⟩ : ∃ W2, W2 = W1.alloc (.cells #[.int .i64 a', .int .i64 b', s'] 46) := ⟨_, rfl⟩
  have b1 : Below w.heap.size w W1 := hW1 ▸ (Below.refl _ _).alloc (Nat.le_refl _) _
  have b2' : Below W1.heap.size W1 W2 := hW2 ▸ (Below.refl _ _).alloc (Nat.le_refl _) _
  have b2 := below_two b1 b2'
  have p1 : PicIn W2 w.heap.size a b s := PicIn.below (hW1 ▸ picIn_new w a b s) b2'
  have p2 : PicIn W2 (w.heap.size + 1) a' b' s' := by
    have := picIn_new W1 a' b' s'
    rw [← hW2] at this
    rwa [show W1.heap.size = w.heap.size + 1 by rw [hW1]; simp] at this
  have hs2 : W2.heap.size = w.heap.size + 2 := by rw [hW2, hW1]; simp
  have C := hide (pcheck_ok a b (h.below b2))
  have C' := hide (fun w1 (hb : Below W2.heap.size W2 w1) => pcheck_ok a' b' ((h'.below b2).below hb))
  have B2 := hide b2
  have P1 := hide p1
  have P2 := hide p2
  subst hW2
  subst hW1
  clear h h' b1 b2' b2 p1 p2
  by_cases hp : picF a b n f = 0
  · rw [hp] at C
    by_cases hq : picF a' b' n' f' = 0
    · rw [hq] at C'
      have hne : ¬ (a = a' ∧ b = b') := fun e => hx (twoF_zero.2 ⟨hp, hq, e⟩)
      have HE : Hid (twoF a b n f a' b' n' f' = 3) := by unfold Hid twoF; rw [if_neg (by omega), if_neg (by omega), if_neg hne]
      clear hx hp hq
      by_cases ha : a = a'
      · have hb : (b == b') = false := by rw [beq_eq_false_iff_ne]; exact fun e => hne ⟨ha, e⟩
        have ha' : (a == a') = true := by rw [beq_iff_eq]; exact ha
        have ha2 : (a != a') = false := by simp [bne, ha']
        have hb2 : (b != b') = true := by simp [bne, hb]
        clear hne ha
        go_enter Tryd.func91, Tryd.ntmps91
        go_wp2_with fail
        refine (C.out).mono ?_
        rintro e w1 ⟨rfl, hb1⟩
        have C2 := hide (C'.out w1 hb1)
        rw [errN_zero]
        have q1 := P1.out.below hb1
        have q2 := P2.out.below hb1
        have B1 := hide (below_two B2.out hb1)
        have Q1 := hide q1
        have Q2 := hide q2
        clear hb1 C'
        obtain ⟨⟨c0, _⟩, ⟨c1, _⟩, c2, _⟩ := q1
        obtain ⟨⟨c3, _⟩, ⟨c4, _⟩, c5, _⟩ := q2
        go_wp2_with fail
        refine (C2.out).mono ?_
        rintro e w2 ⟨rfl, hb2⟩
        rw [errN_zero]
        obtain ⟨⟨d0, _⟩, ⟨d1, _⟩, d2, _⟩ := Q1.out.below hb2
        obtain ⟨⟨d3, _⟩, ⟨d4, _⟩, d5, _⟩ := Q2.out.below hb2
        have B3 := hide (below_two B1.out hb2)
        clear hb2
        go_wp2
        go_ret2
        exact ⟨by rw [HE.out]; rfl, B3.out⟩
      · have ha' : (a == a') = false := by rw [beq_eq_false_iff_ne]; exact ha
        have ha2 : (a != a') = true := by simp [bne, ha']
        clear hne ha
        go_enter Tryd.func91, Tryd.ntmps91
        go_wp2_with fail
        refine (C.out).mono ?_
        rintro e w1 ⟨rfl, hb1⟩
        have C2 := hide (C'.out w1 hb1)
        rw [errN_zero]
        have q1 := P1.out.below hb1
        have q2 := P2.out.below hb1
        have B1 := hide (below_two B2.out hb1)
        have Q1 := hide q1
        have Q2 := hide q2
        clear hb1 C'
        obtain ⟨⟨c0, _⟩, ⟨c1, _⟩, c2, _⟩ := q1
        obtain ⟨⟨c3, _⟩, ⟨c4, _⟩, c5, _⟩ := q2
        go_wp2_with fail
        refine (C2.out).mono ?_
        rintro e w2 ⟨rfl, hb2⟩
        rw [errN_zero]
        obtain ⟨⟨d0, _⟩, ⟨d1, _⟩, d2, _⟩ := Q1.out.below hb2
        obtain ⟨⟨d3, _⟩, ⟨d4, _⟩, d5, _⟩ := Q2.out.below hb2
        have B3 := hide (below_two B1.out hb2)
        clear hb2
        go_wp2
        go_ret2
        exact ⟨by rw [HE.out]; rfl, B3.out⟩
    · have HE : Hid (twoF a b n f a' b' n' f' = picF a' b' n' f') := by unfold Hid twoF; rw [if_neg (by omega), if_pos hq]
      have HN := hide (errN_pos hq)
      clear hx hp hq
      generalize picF a' b' n' f' = k at *
      go_enter Tryd.func91, Tryd.ntmps91
      go_wp2_with fail
      refine (C.out).mono ?_
      rintro e w1 ⟨rfl, hb1⟩
      have C2 := hide (C'.out w1 hb1)
      rw [errN_zero]
      obtain ⟨⟨c3, _⟩, ⟨c4, _⟩, c5, _⟩ := P2.out.below hb1
      have B1 := hide (below_two B2.out hb1)
      clear hb1 C'
      go_wp2_with fail
      refine (C2.out).mono ?_
      rintro e w2 ⟨rfl, hb2⟩
      rw [HN.out]
      have B3 := hide (below_two B1.out hb2)
      clear hb2
      go_wp2
      go_ret2
      exact ⟨by rw [HE.out, HN.out]; rfl, B3.out⟩
  · have HE : Hid (twoF a b n f a' b' n' f' = picF a b n f) := by unfold Hid twoF; rw [if_pos hp]
    have HN := hide (errN_pos hp)
    clear hx hp C'
    generalize picF a b n f = k at *
    go_enter Tryd.func91, Tryd.ntmps91
    go_wp2_with fail
    refine (C.out).mono ?_
    rintro e w1 ⟨rfl, hb1⟩
    rw [HN.out]
    have B1 := hide (below_two B2.out hb1)
    clear hb1
    go_wp2
    go_ret2
    exact ⟨by rw [HE.out, HN.out]; rfl, B1.out⟩

set_option maxHeartbeats 1000000 in
theorem punlike_ok {w : World} {s s' : Value} {n : Nat} {f f' : Nat → Int} {a b a' b' : Int} {A B : Nat} (h : IntsIn w s n f) (h' : IntsIn w s' n f') (o : PicOk a b n f A B) (o' : PicOk a' b' n f' A B) :
    Calls Tryd.prog 91 #[.agg #[.int .i64 a, .int .i64 b, s], .agg #[.int .i64 a', .int .i64 b', s']] w fun e w' => e = .returned (.tuple #[.int .i64 (mostN f f' n), .nilIface]) ∧ Below w.heap.size w w' := by
  have hl := o.le
  have h0 := o.pos
  obtain ⟨ad, oo, cap, rfl, hc⟩ : ∃ ad oo cap, s = .slice (some ⟨ad, oo, none⟩) n cap ∧ ∀ i, i < n → w.cell? ⟨ad, oo + i, none⟩ = some (.int .i64 (f i)) := by
    rcases h with ⟨h, _⟩ | ⟨_, b, o, c, rfl, hc⟩
    · omega
    · exact ⟨_, _, _, rfl, hc⟩
  obtain ⟨ad', oo', cap', rfl, hc'⟩ : ∃ ad oo cap, s' = .slice (some ⟨ad, oo, none⟩) n cap ∧ ∀ i, i < n → w.cell? ⟨ad, oo + i, none⟩ = some (.int .i64 (f' i)) := by
    rcases h' with ⟨h, _⟩ | ⟨_, b, o, c, rfl, hc⟩
    · omega
    · exact ⟨_, _, _, rfl, hc⟩
  have hp := picF_zero.2 ⟨A, B, o⟩
  have hp' := picF_zero.2 ⟨A, B, o'⟩
  have ea : a' = a := by rw [o'.wide, o.wide]
  have eb : b' = b := by rw [o'.high, o.high]
  subst ea
  subst eb
  obtain ⟨W1, hW1⟩ : ∃ W1, W1 = w.alloc (.cells #[.int .i64 a', .int .i64 b', .slice (some ⟨ad, oo, none⟩) n cap] 46) := ⟨_, rfl⟩
  obtain ⟨W2, hW2⟩ : ∃ W2, W2 = W1.alloc (.cells #[.int .i64 a', .int .i64 b', .slice (some ⟨ad', oo', none⟩) n cap'] 46) := ⟨_, rfl⟩
  have b1 : Below w.heap.size w W1 := hW1 ▸ (Below.refl _ _).alloc (Nat.le_refl _) _
  have b2' : Below W1.heap.size W1 W2 := hW2 ▸ (Below.refl _ _).alloc (Nat.le_refl _) _
  have b2 := below_two b1 b2'
  have p1 : PicIn W2 w.heap.size a' b' (.slice (some ⟨ad, oo, none⟩) n cap) := PicIn.below (hW1 ▸ picIn_new w _ _ _) b2'
  have p2 : PicIn W2 (w.heap.size + 1) a' b' (.slice (some ⟨ad', oo', none⟩) n cap') := by
    have := picIn_new W1 a' b' (.slice (some ⟨ad', oo', none⟩) n cap')
    rw [← hW2] at this
    rwa [show W1.heap.size = w.heap.size + 1 by rw [hW1]; simp] at this
  have hs2 : W2.heap.size = w.heap.size + 2 := by rw [hW2, hW1]; simp
  have C := hide (pcheck_ok a' b' (h.below b2))
  have C' := hide (fun w1 (hb : Below W2.heap.size W2 w1) => pcheck_ok a' b' ((h'.below b2).below hb))
  rw [hp] at C
  rw [hp'] at C'
  have B2 := hide b2
  have P1 := hide p1
  have P2 := hide p2
  have HC := hide hc
  have HC' := hide hc'
  have HP := hide o.pix
  have HP' := hide o'.pix
  subst hW2
  subst hW1
  clear h h' b1 b2' b2 p1 p2 hc hc' hp hp' o o'
  go_enter Tryd.func91, Tryd.ntmps91
  go_wp2_with fail
  refine (C.out).mono ?_
  rintro e w1 ⟨rfl, hb1⟩
  have C2 := hide (C'.out w1 hb1)
  rw [errN_zero]
  have q1 := P1.out.below hb1
  have q2 := P2.out.below hb1
  have B1 := hide (below_two B2.out hb1)
  have Q1 := hide q1
  have Q2 := hide q2
  clear hb1 C'
  obtain ⟨⟨c0, _⟩, ⟨c1, _⟩, c2, _⟩ := q1
  obtain ⟨⟨c3, _⟩, ⟨c4, _⟩, c5, _⟩ := q2
  go_wp2_with fail
  refine (C2.out).mono ?_
  rintro e w2 ⟨rfl, hb2⟩
  rw [errN_zero]
  have r1 := Q1.out.below hb2
  have r2 := Q2.out.below hb2
  have R1 := hide r1
  have R2 := hide r2
  obtain ⟨⟨d0, _⟩, ⟨d1, _⟩, d2, _⟩ := r1
  obtain ⟨⟨d3, _⟩, ⟨d4, _⟩, d5, _⟩ := r2
  have B3 := hide (below_two B1.out hb2)
  clear hb2
  go_wp2
  go_loopw [8, 36] (fun m i wr => ∃ j : Nat, j ≤ n ∧ i = .int .i64 j ∧ m = .int .i64 (mostN f f' j) ∧ Below w2.heap.size w2 wr) (fun _ i _ => n - (intOf i).toNat)
  case atStart => exact ⟨0, Nat.zero_le _, rfl, rfl, Below.refl _ _⟩
  case round =>
    obtain ⟨j, hj, rfl, rfl, hb⟩ := hrel
    by_cases hlt : j < n
    · have l1 := cell_below (below_two B3.out hb) (HC.out j hlt)
      have l2 := cell_below (below_two B3.out hb) (HC'.out j hlt)
      obtain ⟨⟨e0, _⟩, ⟨e1, _⟩, e2, _⟩ := R1.out.below hb
      obtain ⟨⟨e3, _⟩, ⟨e4, _⟩, e5, _⟩ := R2.out.below hb
      obtain ⟨x0, x1⟩ := HP.out j hlt
      obtain ⟨y0, y1⟩ := HP'.out j hlt
      have HM : Hid (mostN f f' (j + 1) = max (mostN f f' j) (f j - f' j).natAbs) := rfl
      generalize f j = x at *
      generalize f' j = y at *
      generalize mostN f f' j = m at *
      go_wp2_with fail
      go_quiet (fail)
      go_wp2
      go_roundw
      case rel =>
        refine ⟨j + 1, by omega, by go_num, ?_, below_drewN hb _⟩
        rw [HM.out]
        congr 1
        have e : ((max m (x - y).natAbs : Nat) : Int) = max (m : Int) (max (x - y) (y - x)) := by omega
        rw [e]
        (repeat' split) <;> omega
      case measure => simp [intOf]; omega
    · obtain rfl : j = n := by omega
      go_wp2
      go_ret2
      exact ⟨rfl, below_two B3.out hb⟩
end Go.Proofs.YtjhflcgphejddaaDoor
