/-
  Lemmas for the law above, joined into one text (PicC, PicU, PicS, IRow, MvD, FlTa, FlT). No statement is proved here.
-/
import Derived.Test.YtjhflcgphejddaaGreatDoorZG6
import Derived.Test.YtjhflcgphejddaaGreatDoorZG3
import Derived.Deep.QuietTactic
import Derived.BigQuiet
import Derived.Test.YtjhflcgphejddaaGreatDoorZG4
import Derived.Test.YtjhflcgphejddaaGreatDoorZG7
import Derived.Laws.MakeOwn
import Derived.Lib.SmallJoins
import Derived.Maps.AppendAt
import Derived.Test.YtjhflcgphejddaaGreatDoorZG1
import Derived.Test.YtjhflcgphejddaaGreatDoorZG2
import Derived.Deep.DeepCutAuto
namespace Go.Proofs.YtjhflcgphejddaaGreatDoor
open Go.RowKit
set_option linter.unusedVariables false
set_option maxRecDepth 100000

set_option maxHeartbeats 1000000 in
theorem pcheck_ok {w : World} {s : Value} {n : Nat} {f : Nat → Int} (a b : Int) (h : IntsIn w s n f) :
    Calls Tryz.prog 47 #[.agg #[.int .i64 a, .int .i64 b, s]] w fun e w' => e = .returned (errN (picF a b n f)) ∧ Below w.heap.size w w' := by
  have hb0 : Below w.heap.size w (w.alloc (.cells #[.int .i64 a, .int .i64 b, s] 33)) := (Below.refl _ _).alloc (Nat.le_refl _) _
  have HB := hide hb0
  have H0 := hide (h.below hb0)
  obtain ⟨ad, cap, rfl⟩ : ∃ ad cap, s = .slice ad n cap := by
    rcases h with ⟨rfl, a, c, rfl⟩ | ⟨_, b, o, c, rfl, _⟩
    · exact ⟨_, _, rfl⟩
    · exact ⟨_, _, rfl⟩
  have S := hide (fun x w => pside_ok x w)
  have HP : Hid (picF a b n f = if (sideOk a && sideOk b) = false then 1 else if (n : Int) ≠ a * b then 3 else if pixOk n f = false then 1 else 0) := by
    unfold Hid picF; rw [sides_two]
  clear hb0 h
  cases ha : sideOk a with
  | false =>
    have S1 := hide (S.out a)
    rw [ha] at S1
    have HE : Hid (picF a b n f = 1) := by unfold Hid; rw [HP.out, ha, Bool.false_and, if_pos rfl]
    clear ha HP
    go_enter Tryz.func47, Tryz.ntmps47
    go_wp2_with fail
    refine (S1.out _).mono ?_
    rintro e w1 ⟨rfl, rfl⟩
    go_wp2
    go_ret
    exact ⟨by rw [HE.out]; rfl, HB.out⟩
  | true =>
    have S1 := hide (S.out a)
    rw [ha] at S1
    cases hb : sideOk b with
    | false =>
      have S2 := hide (S.out b)
      rw [hb] at S2
      have HE : Hid (picF a b n f = 1) := by unfold Hid; rw [HP.out, hb, Bool.and_false, if_pos rfl]
      clear ha hb HP
      go_enter Tryz.func47, Tryz.ntmps47
      go_wp2_with fail
      refine (S1.out _).mono ?_
      rintro e w1 ⟨rfl, rfl⟩
      go_wp2_with fail
      refine (S2.out _).mono ?_
      rintro e w1 ⟨rfl, rfl⟩
      go_wp2
      go_ret
      exact ⟨by rw [HE.out]; rfl, HB.out⟩
    | true =>
      have S2 := hide (S.out b)
      rw [hb] at S2
      have h1 := sideOk_iff.1 ha
      have h2 := sideOk_iff.1 hb
      have hp0 : 0 ≤ a * b := Int.mul_nonneg (by omega) (by omega)
      have hp1 : a * b ≤ 36 := by
        have e1 : a * b ≤ 6 * b := Int.mul_le_mul_of_nonneg_right (by omega) (by omega)
        omega
      rw [ha, hb, Bool.and_self, if_neg (by simp)] at HP
      clear ha hb
      by_cases hn : (n : Int) = a * b
      · have hn1 : ((n : Int) == a * b) = true := by rw [beq_iff_eq]; exact hn
        have hn2 : n ≤ 36 := by omega
        have C := hide (pcont_ok H0.out (by omega))
        rw [if_neg (by simp [hn])] at HP
        clear hn
        cases hq : pixOk n f with
        | false =>
          rw [hq] at C
          have HE : Hid (picF a b n f = 1) := by unfold Hid; rw [HP.out, hq, if_pos rfl]
          clear hq HP
          go_enter Tryz.func47, Tryz.ntmps47
          go_wp2_with fail
          refine (S1.out _).mono ?_
          rintro e w1 ⟨rfl, rfl⟩
          go_wp2_with fail
          refine (S2.out _).mono ?_
          rintro e w1 ⟨rfl, rfl⟩
          go_wp2_with fail
          refine (C.out).mono ?_
          rintro e w1 ⟨rfl, rfl⟩
          go_wp2
          go_ret
          exact ⟨by rw [HE.out]; rfl, HB.out⟩
        | true =>
          rw [hq] at C
          have HE : Hid (picF a b n f = 0) := by unfold Hid; rw [HP.out, hq, if_neg (by simp)]
          clear hq HP
          go_enter Tryz.func47, Tryz.ntmps47
          go_wp2_with fail
          refine (S1.out _).mono ?_
          rintro e w1 ⟨rfl, rfl⟩
          go_wp2_with fail
          refine (S2.out _).mono ?_
          rintro e w1 ⟨rfl, rfl⟩
          go_wp2_with fail
          refine (C.out).mono ?_
          rintro e w1 ⟨rfl, rfl⟩
          go_wp2
          go_ret
          exact ⟨by rw [HE.out]; rfl, HB.out⟩
      · have hn1 : ((n : Int) == a * b) = false := by rw [beq_eq_false_iff_ne]; exact hn
        have HE : Hid (picF a b n f = 3) := by unfold Hid; rw [HP.out, if_pos hn]
        clear hn HP
        go_enter Tryz.func47, Tryz.ntmps47
        go_wp2_with fail
        refine (S1.out _).mono ?_
        rintro e w1 ⟨rfl, rfl⟩
        go_wp2_with fail
        refine (S2.out _).mono ?_
        rintro e w1 ⟨rfl, rfl⟩
        go_wp2
        go_ret
        exact ⟨by rw [HE.out]; rfl, HB.out⟩
end Go.Proofs.YtjhflcgphejddaaGreatDoor

namespace Go.Proofs.YtjhflcgphejddaaGreatDoor
open Go.RowKit
set_option linter.unusedVariables false
set_option maxRecDepth 100000

set_option maxHeartbeats 1000000 in
theorem punlike_bad {w : World} {s s' : Value} {n n' : Nat} {f f' : Nat → Int} (a b a' b' : Int) (h : IntsIn w s n f) (h' : IntsIn w s' n' f') (hx : twoF a b n f a' b' n' f' ≠ 0) :
    Calls Tryz.prog 17 #[.agg #[.int .i64 a, .int .i64 b, s], .agg #[.int .i64 a', .int .i64 b', s']] w fun e w' => e = .returned (.tuple #[.int .i64 0, errN (twoF a b n f a' b' n' f')]) ∧ Below w.heap.size w w' := by
  obtain ⟨W1, hW1⟩ : ∃ W1, W1 = w.alloc (.cells #[.int .i64 a, .int .i64 b, s] 33) := ⟨_, rfl⟩
  obtain ⟨W2, hW2⟩ : ∃ W2, W2 = W1.alloc (.cells #[.int .i64 a', .int .i64 b', s'] 33) := ⟨_, rfl⟩
  have b1 : Below w.heap.size w W1 := hW1 ▸ (Below.refl _ _).alloc (Nat.le_refl _) _
  have b2' : Below W1.heap.size W1 W2 := hW2 ▸ (Below.refl _ _).alloc (Nat.le_refl _) _
  have b2 := below_two b1 b2'
  have p1 : PicIn W2 w.heap.size a b s := PicIn.below (hW1 ▸ picIn_new w a b s) b2'
  have p2 : PicIn W2 (w.heap.size + 1) a' b' s' := by
    have := picIn_new W1 a' b' s'
    rw [← hW2] at this
    rwa [show W1.heap.size = w.heap.size + 1 by rw [hW1]; simp] at this
  have hs2 : W2.heap.size = w.heap.size + 2 := by rw [hW2, hW1]; simp
  have C := hide (pcheck_ok a b (h.below b2))
  have C' := hide (fun w1 (hb : Below W2.heap.size W2 w1) => pcheck_ok a' b' ((h'.below b2).below hb))
  have B2 := hide b2
  have P1 := hide p1
  have P2 := hide p2
  subst hW2
  subst hW1
  clear h h' b1 b2' b2 p1 p2
  by_cases hp : picF a b n f = 0
  · rw [hp] at C
    by_cases hq : picF a' b' n' f' = 0
    · rw [hq] at C'
      have hne : ¬ (a = a' ∧ b = b') := fun e => hx (twoF_zero.2 ⟨hp, hq, e⟩)
      have HE : Hid (twoF a b n f a' b' n' f' = 3) := by unfold Hid twoF; rw [if_neg (by omega), if_neg (by omega), if_neg hne]
      clear hx hp hq
      by_cases ha : a = a'
      · have hb : (b == b') = false := by rw [beq_eq_false_iff_ne]; exact fun e => hne ⟨ha, e⟩
        have ha' : (a == a') = true := by rw [beq_iff_eq]; exact ha
        have ha2 : (a != a') = false := by simp [bne, ha']
        have hb2 : (b != b') = true := by simp [bne, hb]
        clear hne ha
        go_enter Tryz.func17, Tryz.ntmps17
        go_wp2_with fail
        refine (C.out).mono ?_
        rintro e w1 ⟨rfl, hb1⟩
        have C2 := hide (C'.out w1 hb1)
        rw [errN_zero]
        have q1 := P1.out.below hb1
        have q2 := P2.out.below hb1
        have B1 := hide (below_two B2.out hb1)
        have Q1 := hide q1
        have Q2 := hide q2
        clear hb1 C'
        obtain ⟨⟨c0, _⟩, ⟨c1, _⟩, c2, _⟩ := q1
        obtain ⟨⟨c3, _⟩, ⟨c4, _⟩, c5, _⟩ := q2
        go_wp2_with fail
        refine (C2.out).mono ?_
        rintro e w2 ⟨rfl, hb2⟩
        rw [errN_zero]
        obtain ⟨⟨d0, _⟩, ⟨d1, _⟩, d2, _⟩ := Q1.out.below hb2
        obtain ⟨⟨d3, _⟩, ⟨d4, _⟩, d5, _⟩ := Q2.out.below hb2
        have B3 := hide (below_two B1.out hb2)
        clear hb2
        go_wp2
        go_ret2
        exact ⟨by rw [HE.out]; rfl, B3.out⟩
      · have ha' : (a == a') = false := by rw [beq_eq_false_iff_ne]; exact ha
        have ha2 : (a != a') = true := by simp [bne, ha']
        clear hne ha
        go_enter Tryz.func17, Tryz.ntmps17
        go_wp2_with fail
        refine (C.out).mono ?_
        rintro e w1 ⟨rfl, hb1⟩
        have C2 := hide (C'.out w1 hb1)
        rw [errN_zero]
        have q1 := P1.out.below hb1
        have q2 := P2.out.below hb1
        have B1 := hide (below_two B2.out hb1)
        have Q1 := hide q1
        have Q2 := hide q2
        clear hb1 C'
        obtain ⟨⟨c0, _⟩, ⟨c1, _⟩, c2, _⟩ := q1
        obtain ⟨⟨c3, _⟩, ⟨c4, _⟩, c5, _⟩ := q2
        go_wp2_with fail
        refine (C2.out).mono ?_
        rintro e w2 ⟨rfl, hb2⟩
        rw [errN_zero]
        obtain ⟨⟨d0, _⟩, ⟨d1, _⟩, d2, _⟩ := Q1.out.below hb2
        obtain ⟨⟨d3, _⟩, ⟨d4, _⟩, d5, _⟩ := Q2.out.below hb2
        have B3 := hide (below_two B1.out hb2)
        clear hb2
        go_wp2
        go_ret2
        exact ⟨by rw [HE.out]; rfl, B3.out⟩
    · have HE : Hid (twoF a b n f a' b' n' f' = picF a' b' n' f') := by unfold Hid twoF; rw [if_neg (by omega), if_pos hq]
      have HN := hide (errN_pos hq)
      clear hx hp hq
      generalize picF a' b' n' f' = k at *
      go_enter Tryz.func17, Tryz.ntmps17
      go_wp2_with fail
      refine (C.out).mono ?_
      rintro e w1 ⟨rfl, hb1⟩
      have C2 := hide (C'.out w1 hb1)
      rw [errN_zero]
      obtain ⟨⟨c3, _⟩, ⟨c4, _⟩, c5, _⟩ := P2.out.below hb1
      have B1 := hide (below_two B2.out hb1)
      clear hb1 C'
      go_wp2_with fail
      refine (C2.out).mono ?_
      rintro e w2 ⟨rfl, hb2⟩
      rw [HN.out]
      have B3 := hide (below_two B1.out hb2)
      clear hb2
      go_wp2
      go_ret2
      exact ⟨by rw [HE.out, HN.out]; rfl, B3.out⟩
  · have HE : Hid (twoF a b n f a' b' n' f' = picF a b n f) := by unfold Hid twoF; rw [if_pos hp]
    have HN := hide (errN_pos hp)
    clear hx hp C'
    generalize picF a b n f = k at *
    go_enter Tryz.func17, Tryz.ntmps17
    go_wp2_with fail
    refine (C.out).mono ?_
    rintro e w1 ⟨rfl, hb1⟩
    rw [HN.out]
    have B1 := hide (below_two B2.out hb1)
    clear hb1
    go_wp2
    go_ret2
    exact ⟨by rw [HE.out, HN.out]; rfl, B1.out⟩

set_option maxHeartbeats 1000000 in
theorem punlike_ok {w : World} {s s' : Value} {n : Nat} {f f' : Nat → Int} {a b a' b' : Int} {A B : Nat} (h : IntsIn w s n f) (h' : IntsIn w s' n f') (o : PicOk a b n f A B) (o' : PicOk a' b' n f' A B) :
    Calls Tryz.prog 17 #[.agg #[.int .i64 a, .int .i64 b, s], .agg #[.int .i64 a', .int .i64 b', s']] w fun e w' => e = .returned (.tuple #[.int .i64 (mostN f f' n), .nilIface]) ∧ Below w.heap.size w w' := by
  have hl := o.le
  have h0 := o.pos
  obtain ⟨ad, oo, cap, rfl, hc⟩ : ∃ ad oo cap, s = .slice (some ⟨ad, oo, none⟩) n cap ∧ ∀ i, i < n → w.cell? ⟨ad, oo + i, none⟩ = some (.int .i64 (f i)) := by
    rcases h with ⟨h, _⟩ | ⟨_, b, o, c, rfl, hc⟩
    · omega
    · exact ⟨_, _, _, rfl, hc⟩
  obtain ⟨ad', oo', cap', rfl, hc'⟩ : ∃ ad oo cap, s' = .slice (some ⟨ad, oo, none⟩) n cap ∧ ∀ i, i < n → w.cell? ⟨ad, oo + i, none⟩ = some (.int .i64 (f' i)) := by
    rcases h' with ⟨h, _⟩ | ⟨_, b, o, c, rfl, hc⟩
    · omega
    · exact ⟨_, _, _, rfl, hc⟩
  have hp := picF_zero.2 ⟨A, B, o⟩
  have hp' := picF_zero.2 ⟨A, B, o'⟩
  have ea : a' = a := by rw [o'.wide, o.wide]
  have eb : b' = b := by rw [o'.high, o.high]
  subst ea
  subst eb
  obtain ⟨W1, hW1⟩ : ∃ W1, W1 = w.alloc (.cells #[.int .i64 a', .int .i64 b', .slice (some ⟨ad, oo, none⟩) n cap] 33) := ⟨_, rfl⟩
  obtain ⟨W2, hW2⟩ : ∃ W2, W2 = W1.alloc (.cells #[.int .i64 a', .int .i64 b', .slice (some ⟨ad', oo', none⟩) n cap'] 33) := ⟨_, rfl⟩
  have b1 : Below w.heap.size w W1 := hW1 ▸ (Below.refl _ _).alloc (Nat.le_refl _) _
  have b2' : Below W1.heap.size W1 W2 := hW2 ▸ (Below.refl _ _).alloc (Nat.le_refl _) _
  have b2 := below_two b1 b2'
  have p1 : PicIn W2 w.heap.size a' b' (.slice (some ⟨ad, oo, none⟩) n cap) := PicIn.below (hW1 ▸ picIn_new w _ _ _) b2'
  have p2 : PicIn W2 (w.heap.size + 1) a' b' (.slice (some ⟨ad', oo', none⟩) n cap') := by
    have := picIn_new W1 a' b' (.slice (some ⟨ad', oo', none⟩) n cap')
    rw [← hW2] at this
    rwa [show W1.heap.size = w.heap.size + 1 by rw [hW1]; simp] at this
  have hs2 : W2.heap.size = w.heap.size + 2 := by rw [hW2, hW1]; simp
  have C := hide (pcheck_ok a' b' (h.below b2))
  have C' := hide (fun w1 (hb : Below W2.heap.size W2 w1) => pcheck_ok a' b' ((h'.below b2).below hb))
  rw [hp] at C
  rw [hp'] at C'
  have B2 := hide b2
  have P1 := hide p1
  have P2 := hide p2
  have HC := hide hc
  have HC' := hide hc'
  have HP := hide o.pix
  have HP' := hide o'.pix
  subst hW2
  subst hW1
  clear h h' b1 b2' b2 p1 p2 hc hc' hp hp' o o'
  go_enter Tryz.func17, Tryz.ntmps17
  go_wp2_with fail
  refine (C.out).mono ?_
  rintro e w1 ⟨rfl, hb1⟩
  have C2 := hide (C'.out w1 hb1)
  rw [errN_zero]
  have q1 := P1.out.below hb1
  have q2 := P2.out.below hb1
  have B1 := hide (below_two B2.out hb1)
  have Q1 := hide q1
  have Q2 := hide q2
  clear hb1 C'
  obtain ⟨⟨c0, _⟩, ⟨c1, _⟩, c2, _⟩ := q1
  obtain ⟨⟨c3, _⟩, ⟨c4, _⟩, c5, _⟩ := q2
  go_wp2_with fail
  refine (C2.out).mono ?_
  rintro e w2 ⟨rfl, hb2⟩
  rw [errN_zero]
  have r1 := Q1.out.below hb2
  have r2 := Q2.out.below hb2
  have R1 := hide r1
  have R2 := hide r2
  obtain ⟨⟨d0, _⟩, ⟨d1, _⟩, d2, _⟩ := r1
  obtain ⟨⟨d3, _⟩, ⟨d4, _⟩, d5, _⟩ := r2
  have B3 := hide (below_two B1.out hb2)
  clear hb2
  go_wp2
  go_loopw [8, 36] (fun m i wr => ∃ j : Nat, j ≤ n ∧ i = .int .i64 j ∧ m = .int .i64 (mostN f f' j) ∧ Below w2.heap.size w2 wr) (fun _ i _ => n - (intOf i).toNat)
  case atStart => exact ⟨0, Nat.zero_le _, rfl, rfl, Below.refl _ _⟩
  case round =>
    obtain ⟨j, hj, rfl, rfl, hb⟩ := hrel
    by_cases hlt : j < n
    · have l1 := cell_below (below_two B3.out hb) (HC.out j hlt)
      have l2 := cell_below (below_two B3.out hb) (HC'.out j hlt)
      obtain ⟨⟨e0, _⟩, ⟨e1, _⟩, e2, _⟩ := R1.out.below hb
      obtain ⟨⟨e3, _⟩, ⟨e4, _⟩, e5, _⟩ := R2.out.below hb
      obtain ⟨x0, x1⟩ := HP.out j hlt
      obtain ⟨y0, y1⟩ := HP'.out j hlt
      have HM : Hid (mostN f f' (j + 1) = max (mostN f f' j) (f j - f' j).natAbs) := rfl
      generalize f j = x at *
      generalize f' j = y at *
      generalize mostN f f' j = m at *
      go_wp2_with fail
      go_quiet (fail)
      go_wp2
      go_roundw
      case rel =>
        refine ⟨j + 1, by omega, by go_num, ?_, below_drewN hb _⟩
        rw [HM.out]
        congr 1
        have e : ((max m (x - y).natAbs : Nat) : Int) = max (m : Int) (max (x - y) (y - x)) := by omega
        rw [e]
        (repeat' split) <;> omega
      case measure => simp [intOf]; omega
    · obtain rfl : j = n := by omega
      go_wp2
      go_ret2
      exact ⟨rfl, below_two B3.out hb⟩
end Go.Proofs.YtjhflcgphejddaaGreatDoor

namespace Go.Proofs.YtjhflcgphejddaaGreatDoor
open Go.RowKit Go.Maps
set_option linter.unusedVariables false
set_option maxRecDepth 100000

set_option maxHeartbeats 2000000 in
theorem pshift_bad {w : World} {s : Value} {n : Nat} {f : Nat → Int} (a b mx my : Int) (h : IntsIn w s n f) (hx : shiftF a b n f mx my ≠ 0) :
    Calls Tryz.prog 91 #[.agg #[.int .i64 a, .int .i64 b, s], .agg #[.int .i64 mx, .int .i64 my]] w fun e w' => e = .returned (.tuple #[.agg #[.int .i64 0, .int .i64 0, .slice none 0 0], errN (shiftF a b n f mx my)]) ∧ Below w.heap.size w w' := by
  obtain ⟨W1, hW1⟩ : ∃ W1, W1 = w.alloc (.cells #[.int .i64 a, .int .i64 b, s] 33) := ⟨_, rfl⟩
  obtain ⟨W2, hW2⟩ : ∃ W2, W2 = W1.alloc (.cells #[.int .i64 mx, .int .i64 my] 64) := ⟨_, rfl⟩
  obtain ⟨W3, hW3⟩ : ∃ W3, W3 = W2.alloc (.cells #[.int .i64 0, .int .i64 0, .slice none 0 0] 33) := ⟨_, rfl⟩
  have b1 : Below w.heap.size w W1 := hW1 ▸ (Below.refl _ _).alloc (Nat.le_refl _) _
  have b12 : Below W1.heap.size W1 W2 := hW2 ▸ (Below.refl _ _).alloc (Nat.le_refl _) _
  have b23 : Below W2.heap.size W2 W3 := hW3 ▸ (Below.refl _ _).alloc (Nat.le_refl _) _
  have b3 := below_two (below_two b1 b12) b23
  have z1 : W1.heap.size = w.heap.size + 1 := by rw [hW1]; simp
  have z2 : W2.heap.size = w.heap.size + 2 := by rw [hW2]; simp [z1]
  have z3 : W3.heap.size = w.heap.size + 3 := by rw [hW3]; simp [z2]
  have p1 : PicIn W3 w.heap.size a b s := PicIn.below (hW1 ▸ picIn_new w a b s) (below_two b12 b23)
  have p2 : MoveIn W3 (w.heap.size + 1) mx my := by
    have := moveIn_new W1 mx my
    rw [← hW2] at this
    rw [z1] at this
    exact this.below b23
  have p3 : PicIn W3 (w.heap.size + 2) 0 0 (.slice none 0 0) := by
    have := picIn_new W2 0 0 (.slice none 0 0)
    rw [← hW3, z2] at this
    exact this
  have C := hide (pcheck_ok a b (h.below b3))
  have B3 := hide b3
  have P1 := hide p1
  have P2 := hide p2
  have P3 := hide p3
  have FR := hide (fun x w => pfar_ok x w)
  subst hW3
  subst hW2
  subst hW1
  clear h b1 b12 b23 b3 p1 p2 p3 z1 z2 z3
  by_cases hp : picF a b n f = 0
  · rw [hp] at C
    have hfx : shiftF a b n f mx my = farF mx my := by unfold shiftF; rw [if_neg (by omega)]
    have hf1 : farF mx my = 1 := by
      rw [hfx] at hx
      unfold farF at hx ⊢
      split
      · rfl
      · rename_i c; rw [if_neg c] at hx; exact absurd rfl hx
    have HE : Hid (shiftF a b n f mx my = 1) := by unfold Hid; rw [hfx, hf1]
    have hbad : farOk mx = false ∨ (farOk mx = true ∧ farOk my = false) := by
      by_cases c : farOk mx = true
      · refine Or.inr ⟨c, ?_⟩
        rw [farOk_iff] at c
        rw [farOk_not]
        unfold farF at hf1
        split at hf1
        · omega
        · cases hf1
      · exact Or.inl (by simpa using c)
    clear hx hp hfx hf1
    rcases hbad with q1 | ⟨q1, q2⟩
    · have F1 := hide (FR.out mx)
      rw [q1] at F1
      clear q1 FR
      go_enter Tryz.func91, Tryz.ntmps91
      go_wp2_with fail
      refine (C.out).mono ?_
      rintro e w1 ⟨rfl, hb1⟩
      rw [errN_zero]
      obtain ⟨⟨c0, g0⟩, ⟨c1, g1⟩, c2, g2⟩ := P3.out.below hb1
      obtain ⟨m0, m1⟩ := P2.out.below hb1
      have B1 := hide (below_two B3.out hb1)
      clear hb1
      go_wp2_with fail
      refine (F1.out _).mono ?_
      rintro e w2 ⟨rfl, rfl⟩
      go_wp2
      refine bodyPost_ret (v := .tuple #[.agg #[.int .i64 0, .int .i64 0, .slice none 0 0], .iface 61 (.int .i64 1)]) (by simp [results, Tryz.results91, go_sem, c0, c1, c2]) rfl ⟨by rw [HE.out]; rfl, ?_⟩
      exact (((B1.out.setCell (by show w.heap.size ≤ w.heap.size + 1 + 1; omega) _).setCell (by show w.heap.size ≤ w.heap.size + 1 + 1; omega) _).setCell (by show w.heap.size ≤ w.heap.size + 1 + 1; omega) _)
    · have F1 := hide (FR.out mx)
      rw [q1] at F1
      have F2 := hide (FR.out my)
      rw [q2] at F2
      clear q1 q2 FR
      go_enter Tryz.func91, Tryz.ntmps91
      go_wp2_with fail
      refine (C.out).mono ?_
      rintro e w1 ⟨rfl, hb1⟩
      rw [errN_zero]
      obtain ⟨⟨c0, g0⟩, ⟨c1, g1⟩, c2, g2⟩ := P3.out.below hb1
      obtain ⟨m0, m1⟩ := P2.out.below hb1
      have B1 := hide (below_two B3.out hb1)
      clear hb1
      go_wp2_with fail
      refine (F1.out _).mono ?_
      rintro e w2 ⟨rfl, rfl⟩
      go_wp2_with fail
      refine (F2.out _).mono ?_
      rintro e w2 ⟨rfl, rfl⟩
      go_wp2
      refine bodyPost_ret (v := .tuple #[.agg #[.int .i64 0, .int .i64 0, .slice none 0 0], .iface 61 (.int .i64 1)]) (by simp [results, Tryz.results91, go_sem, c0, c1, c2]) rfl ⟨by rw [HE.out]; rfl, ?_⟩
      exact (((B1.out.setCell (by show w.heap.size ≤ w.heap.size + 1 + 1; omega) _).setCell (by show w.heap.size ≤ w.heap.size + 1 + 1; omega) _).setCell (by show w.heap.size ≤ w.heap.size + 1 + 1; omega) _)
  · have HE : Hid (shiftF a b n f mx my = picF a b n f) := by unfold Hid shiftF; rw [if_pos hp]
    have HN := hide (errN_pos hp)
    clear hx hp FR
    generalize picF a b n f = k at *
    go_enter Tryz.func91, Tryz.ntmps91
    go_wp2_with fail
    refine (C.out).mono ?_
    rintro e w1 ⟨rfl, hb1⟩
    rw [HN.out]
    obtain ⟨⟨c0, g0⟩, ⟨c1, g1⟩, c2, g2⟩ := P3.out.below hb1
    have B1 := hide (below_two B3.out hb1)
    clear hb1
    go_wp2
    refine bodyPost_ret (v := .tuple #[.agg #[.int .i64 0, .int .i64 0, .slice none 0 0], .iface 61 (.int .i64 k)]) (by simp [results, Tryz.results91, go_sem, c0, c1, c2]) rfl ⟨by rw [HE.out, HN.out], ?_⟩
    exact (((B1.out.setCell (by show w.heap.size ≤ w.heap.size + 1 + 1; omega) _).setCell (by show w.heap.size ≤ w.heap.size + 1 + 1; omega) _).setCell (by show w.heap.size ≤ w.heap.size + 1 + 1; omega) _)

set_option maxHeartbeats 4000000 in
theorem pshift_own {w : World} {s : Value} {n : Nat} {f : Nat → Int} {a b : Int} {A B : Nat} (mx my : Int) (h : IntsIn w s n f) (o : PicOk a b n f A B) (hm : farF mx my = 0) :
    Calls Tryz.prog 91 #[.agg #[.int .i64 a, .int .i64 b, s], .agg #[.int .i64 mx, .int .i64 my]] w fun e w' => ∃ v, e = .returned (.tuple #[.agg #[.int .i64 a, .int .i64 b, v], .nilIface]) ∧ w'.ownsRow w.heap.size 3 1 v n ((List.range n).map fun k : Nat => .int .i64 (shiftN A B mx my f k)) ∧ Below w.heap.size w w' := by
  obtain ⟨W1, hW1⟩ : ∃ W1, W1 = w.alloc (.cells #[.int .i64 a, .int .i64 b, s] 33) := ⟨_, rfl⟩
  obtain ⟨W2, hW2⟩ : ∃ W2, W2 = W1.alloc (.cells #[.int .i64 mx, .int .i64 my] 64) := ⟨_, rfl⟩
  obtain ⟨W3, hW3⟩ : ∃ W3, W3 = W2.alloc (.cells #[.int .i64 0, .int .i64 0, .slice none 0 0] 33) := ⟨_, rfl⟩
  have b1 : Below w.heap.size w W1 := hW1 ▸ (Below.refl _ _).alloc (Nat.le_refl _) _
  have b12 : Below W1.heap.size W1 W2 := hW2 ▸ (Below.refl _ _).alloc (Nat.le_refl _) _
  have b23 : Below W2.heap.size W2 W3 := hW3 ▸ (Below.refl _ _).alloc (Nat.le_refl _) _
  have b3 := below_two (below_two b1 b12) b23
  have z1 : W1.heap.size = w.heap.size + 1 := by rw [hW1]; simp
  have z2 : W2.heap.size = w.heap.size + 2 := by rw [hW2]; simp [z1]
  have z3 : W3.heap.size = w.heap.size + 3 := by rw [hW3]; simp [z2]
  have p1 : PicIn W3 w.heap.size a b s := PicIn.below (hW1 ▸ picIn_new w a b s) (below_two b12 b23)
  have p2 : MoveIn W3 (w.heap.size + 1) mx my := by
    have := moveIn_new W1 mx my
    rw [← hW2] at this
    rw [z1] at this
    exact this.below b23
  have p3 : PicIn W3 (w.heap.size + 2) 0 0 (.slice none 0 0) := by
    have := picIn_new W2 0 0 (.slice none 0 0)
    rw [← hW3, z2] at this
    exact this
  have C := hide (pcheck_ok a b (h.below b3))
  rw [picF_zero.2 ⟨A, B, o⟩] at C
  have B3 := hide b3
  have P1 := hide p1
  have P2 := hide p2
  have P3 := hide p3
  have HS := hide (h.below b3)
  have F1 := hide (pfar_ok mx)
  have F2 := hide (pfar_ok my)
  obtain ⟨m1, m2, m3, m4⟩ := farF_zero.1 hm
  rw [farOk_iff.2 ⟨m1, m2⟩] at F1
  rw [farOk_iff.2 ⟨m3, m4⟩] at F2
  have hl := o.le
  have h0 := o.pos
  have O := hide o
  have hmany := hide o.many
  have ea := o.wide
  have eb := o.high
  have a1 := o.w1
  have a6 := o.w6
  have o1 := o.h1
  have o6 := o.h6
  obtain ⟨ad, cap, hsl⟩ : ∃ ad cap, s = .slice ad n cap := by
    rcases h with ⟨rfl, a, c, rfl⟩ | ⟨_, b, o, c, rfl, _⟩
    · exact ⟨_, _, rfl⟩
    · exact ⟨_, _, rfl⟩
  subst hsl
  subst hW3
  subst hW2
  subst hW1
  obtain ⟨i0, hi0, hz0, hz1, hz2⟩ := info_parts Tryz.infoInt
  have Hi := hide hi0
  have Hz0 := hide hz0
  have Hz1 := hide hz1
  have Hz2 := hide hz2
  clear h b1 b12 b23 b3 p1 p2 p3 z1 z2 z3 hm o hi0 hz0 hz1 hz2
  subst ea
  subst eb
  go_enter Tryz.func91, Tryz.ntmps91
  go_wp2_with fail
  refine (C.out).mono ?_
  rintro e w1 ⟨rfl, hb1⟩
  rw [errN_zero]
  have PA := hide (P1.out.below hb1)
  have PB := hide (P2.out.below hb1)
  have PC := hide (P3.out.below hb1)
  have HS1 := hide (HS.out.below hb1)
  have B1 := hide (below_two B3.out hb1)
  clear hb1 P1 P2 P3 HS B3
  obtain ⟨⟨c0, _⟩, ⟨c1, _⟩, c2, _⟩ := PA.out
  obtain ⟨d0, d1⟩ := PB.out
  go_wp2_with fail
  refine (F1.out _).mono ?_
  rintro e w2 ⟨rfl, rfl⟩
  go_wp2_with fail
  refine (F2.out _).mono ?_
  rintro e w2 ⟨rfl, rfl⟩
  obtain ⟨w2, hmk, hown, hgrow⟩ := run_make_own (P := Tryz.prog) w1 w1.heap.size 23 3 i0 (.int .i64 0) 1 Tryz.underlying23 Hi.out Hz0.out (by have := Hz1.out; simpa using this) .i64 .i64 n (by rw [Hz2.out]; omega) (by unfold maxLen; omega) (Nat.le_refl _)
  have bg : Below w1.heap.size w1 w2 := (Below.refl _ _).grown hgrow (Nat.le_refl _) (fun k hk => by cases hk)
  obtain ⟨⟨e0, _⟩, ⟨e1, _⟩, e2, _⟩ := PA.out.below bg
  have BG := hide bg
  have HOWN := hide hown
  clear bg hown hgrow
  go_wp2
  go_loopw [7, 34] (fun v i wr => ∃ (r : Nat) (ad : Option Addr) (cp : Nat), r ≤ B ∧ i = .int .i64 r ∧ v = .slice ad (r * A) cp ∧ wr.ownsRow w1.heap.size 3 1 v (r * A) ((List.range (r * A)).map fun k : Nat => .int .i64 (shiftN A B mx my f k)) ∧ Below w1.heap.size w1 wr) (fun _ i _ => B - (intOf i).toNat)
  case atStart => exact ⟨0, _, n, Nat.zero_le _, rfl, by rw [Nat.zero_mul], by rw [Nat.zero_mul]; exact HOWN.out, BG.out⟩
  case round =>
    obtain ⟨r, adr, cpr, hr, rfl, rfl, hA, hb⟩ := hrel
    have HA := hide hA
    have HBR := hide hb
    clear hA
    obtain ⟨⟨t0, _⟩, ⟨t1, _⟩, t2, _⟩ := PA.out.below hb
    clear hb
    by_cases hlt : r < B
    · go_wp2
      go_loopw [7, 39] (fun v i wx => ∃ (c : Nat) (ad : Option Addr) (cp : Nat), c ≤ A ∧ i = .int .i64 c ∧ v = .slice ad (r * A + c) cp ∧ wx.ownsRow w1.heap.size 3 1 v (r * A + c) ((List.range (r * A + c)).map fun k : Nat => .int .i64 (shiftN A B mx my f k)) ∧ Below w1.heap.size w1 wx) (fun _ i _ => A - (intOf i).toNat)
      case atStart => exact ⟨0, adr, cpr, Nat.zero_le _, rfl, rfl, HA.out, HBR.out⟩
      case round =>
        obtain ⟨c, adc, cpc, hc, rfl, rfl, hX, hb2⟩ := hrel
        by_cases hlc : c < A
        · have hple : r * A + c < n := by
            have h3 : (r + 1) * A ≤ B * A := Nat.mul_le_mul_right _ (by omega)
            rw [Nat.add_mul, Nat.one_mul] at h3
            rw [hmany.out, Nat.mul_comm A B]
            omega
          have K := hide (pnear_ok ((c : Int) - mx) ((r : Int) - my) (HS1.out.below hb2) O.out)
          rw [← fromAt_row (B := B) mx my hlc] at K
          obtain ⟨⟨s0, _⟩, ⟨s1, _⟩, s2, _⟩ := PA.out.below hb2
          obtain ⟨s3, s4⟩ := PB.out.below hb2
          have HX := hide hX
          have HB2 := hide hb2
          have hs1 := hb2.size
          clear hX hb2
          have HM : Hid ((List.range (r * A + c + 1)).map (fun k : Nat => Value.int .i64 (shiftN A B mx my f k)) = (List.range (r * A + c)).map (fun k : Nat => Value.int .i64 (shiftN A B mx my f k)) ++ [.int .i64 (f (fromAt A B mx my (r * A + c)))]) := by
            unfold Hid; rw [List.range_succ, List.map_append]; rfl
          generalize f (fromAt A B mx my (r * A + c)) = z at *
          generalize hq : r * A + c = q at *
          have HQ := hide hq
          clear hq
          go_wp2_with fail
          refine (K.out).mono ?_
          rintro e w4 ⟨rfl, hb4⟩
          have HX4 := hide (own_under' HX.out hb4)
          have HB4 := hide (HB2.out.trans (hb4.mono hs1))
          have hs4 := HB4.out.size
          have hz1' := Hz1.out
          go_wp2_with (at_builtin; refine wpList_append_lies _ rfl _ _ 23 rfl w1.heap.size 3 i0 (.int .i64 0) 1 8 Tryz.underlying23 Hi.out Hz0.out Hz1.out Hz2.out rfl (by decide) _ _ _ rfl (HX4.out.alloc _) ⟨w4.heap.size, 0, none⟩ 1 1 [.int .i64 z] rfl rfl (cell_one_new _ _ _) (fun x hx => by simp at hx; subst hx; rfl) (by decide) (by unfold maxLen; omega) (by omega) (by simp; omega) _ rfl ?_; intro g3 cap3 w5 hown3 hgrow3 hat3 hlt3)
          go_roundw
          case rel =>
            have R : c + 1 ≤ A ∧ Value.int .i64 ((c : Int) + 1) = .int .i64 ((c + 1 : Nat) : Int) ∧ Value.slice (some ⟨g3, 0, none⟩) (q + 1) cap3 = .slice (some ⟨g3, 0, none⟩) (r * A + (c + 1)) cap3
                ∧ w5.ownsRow w1.heap.size 3 1 (.slice (some ⟨g3, 0, none⟩) (q + 1) cap3) (r * A + (c + 1)) ((List.range (r * A + (c + 1))).map fun k : Nat => .int .i64 (shiftN A B mx my f k)) ∧ Below w1.heap.size w1 w5 :=
              ⟨by omega, by simp, by rw [← Nat.add_assoc, HQ.out], by rw [← Nat.add_assoc, HQ.out, HM.out]; exact hown3, (HB4.out.alloc hs4 _).grown hgrow3 (by simp; omega) (fun q hq => (HX4.out.lt q hq).1)⟩
            first
              | exact ⟨c + 1, some ⟨g3, 0, none⟩, cap3, R⟩
              | ((repeat apply Exists.intro); exact ⟨⟨c + 1, some ⟨g3, 0, none⟩, cap3, R⟩, rfl⟩)
          case measure => simp [intOf]; omega
        · obtain rfl : c = A := by omega
          have HX := hide hX
          have HB2 := hide hb2
          clear hX hb2
          go_wp2
          go_roundw
          case rel =>
            have e : r * c + c = (r + 1) * c := by rw [Nat.add_mul, Nat.one_mul]
            exact ⟨r + 1, _, cpc, by omega, by go_num, by rw [e], by rw [← e]; exact HX.out, HB2.out⟩
          case measure => simp [intOf]; omega
    · obtain rfl : r = B := by omega
      have e : r * A = n := by rw [hmany.out, Nat.mul_comm]
      rw [e] at HA
      have HI := hide (own_in HA.out)
      obtain ⟨⟨u0, g0⟩, ⟨u1, g1⟩, u2, g2⟩ := PC.out.below HBR.out
      go_wp2
      refine bodyPost_ret (v := .tuple #[.agg #[.int .i64 A, .int .i64 r, .slice adr n cpr], .nilIface]) (by simp [results, Tryz.results91, go_sem, u0, u1, u2]) rfl ⟨_, rfl, ?_, ?_⟩
      · have hlt9 : w.heap.size + 1 + 1 < w1.heap.size := PC.out.lt
        exact Joins.ownsRow_le (ownsRow_setCell_below (ownsRow_setCell_below (ownsRow_setCell_below HA.out hlt9 _) hlt9 _) hlt9 _) B1.out.size
      · exact (((below_two B1.out HBR.out).setCell (by show w.heap.size ≤ w.heap.size + 1 + 1; omega) _).setCell (by show w.heap.size ≤ w.heap.size + 1 + 1; omega) _).setCell (by show w.heap.size ≤ w.heap.size + 1 + 1; omega) _

theorem pshift_ok {w : World} {s : Value} {n : Nat} {f : Nat → Int} {a b : Int} {A B : Nat} (mx my : Int) (h : IntsIn w s n f) (o : PicOk a b n f A B) (hm : farF mx my = 0) :
    Calls Tryz.prog 91 #[.agg #[.int .i64 a, .int .i64 b, s], .agg #[.int .i64 mx, .int .i64 my]] w fun e w' => ∃ v, e = .returned (.tuple #[.agg #[.int .i64 a, .int .i64 b, v], .nilIface]) ∧ IntsIn w' v n (shiftN A B mx my f) ∧ Below w.heap.size w w' := by
  refine (pshift_own mx my h o hm).mono ?_
  rintro e w' ⟨v, rfl, hv, hb⟩
  exact ⟨v, rfl, own_in hv, hb⟩
end Go.Proofs.YtjhflcgphejddaaGreatDoor

namespace Go.Proofs.YtjhflcgphejddaaGreatDoor
open Go.RowKit
set_option linter.unusedVariables false
set_option maxRecDepth 100000

/-- A block whose first n cells are the numbers f 0, f 1, .., none of them frozen. -/
def IRow (w : World) (b n : Nat) (f : Nat → Int) : Prop :=
  ∀ i, i < n → w.cell? ⟨b, i, none⟩ = some (.int .i64 (f i)) ∧ w.frozen? ⟨b, i, none⟩ = false
theorem IRow.congr {w : World} {b n : Nat} {f g : Nat → Int} (h : IRow w b n f) (e : ∀ i, i < n → f i = g i) : IRow w b n g := fun i hi => by rw [← e i hi]; exact h i hi
theorem IRow.set {w : World} {b n : Nat} {f : Nat → Int} (h : IRow w b n f) (j : Nat) (v : Int) : IRow (w.setCell ⟨b, j, none⟩ (.int .i64 v)) b n (fun i => if i = j then v else f i) := fun i hi => by
  refine ⟨?_, by rw [World.frozen?_setCell]; exact (h i hi).2⟩
  have hc := (h i hi).1
  by_cases e : i = j
  · subst e
    rw [World.cell?_setCell_same _ _ _ hc]; simp
  · rw [World.cell?_setCell_other _ _ _ _ (fun h => e (by cases h; rfl))]; simp only [if_neg e]; exact hc

theorem irow_zero {w : World} {b n : Nat} {t : TypeId} (h : w.rowIs b t n (fun _ => .int .i64 0)) : IRow w b n (fun _ => 0) := fun i hi => ⟨h.cell hi, h.frozen i⟩
end Go.Proofs.YtjhflcgphejddaaGreatDoor

namespace Go.Proofs.YtjhflcgphejddaaGreatDoor
open Go.RowKit Go.Maps
set_option linter.unusedVariables false
set_option maxRecDepth 100000

/-- The blocks that Decode works over. -/
structure De (w wr : World) (al : Bool) (X Y : Int) (s' : Value) (gb g cap : Nat) (a b : Int) (n : Nat) (F : Nat → Int) : Prop where
  q : CodIn wr (w.heap.size + 1) al X Y s'
  r : PicIn wr (w.heap.size + 1 + 1) 0 0 (.slice none 0 0)
  t : PicIn wr gb a b (.slice (some ⟨g, 0, none⟩) n cap)
  row : IRow wr g n F
  hg : w.heap.size + 1 + 1 < g
  ne : g < gb
  b : Below w.heap.size w wr
theorem De.set {w wr : World} {al : Bool} {X Y : Int} {s' : Value} {gb g cap : Nat} {a b : Int} {n : Nat} {F : Nat → Int} (h : De w wr al X Y s' gb g cap a b n F) (j : Nat) (v : Int) :
    De w (wr.setCell ⟨g, j, none⟩ (.int .i64 v)) al X Y s' gb g cap a b n (fun i => if i = j then v else F i) := by
  have hg := h.hg
  have ne := h.ne
  refine ⟨h.q.setOther (by omega) _, h.r.setOther (by omega) _, h.t.setOther (by omega) _, h.row.set j v, h.hg, h.ne, h.b.setCell ?_ _⟩
  show w.heap.size ≤ g
  omega
theorem De.drew {w wr : World} {al : Bool} {X Y : Int} {s' : Value} {gb g cap : Nat} {a b : Int} {n : Nat} {F : Nat → Int} (h : De w wr al X Y s' gb g cap a b n F) : De w wr.drew al X Y s' gb g cap a b n F :=
  ⟨h.q.below (Below.refl _ wr).drew, h.r.below (Below.refl _ wr).drew, h.t.below (Below.refl _ wr).drew, fun i hi => h.row i hi, h.hg, h.ne, h.b.drew⟩
theorem De.congr {w wr : World} {al : Bool} {X Y : Int} {s' : Value} {gb g cap : Nat} {a b : Int} {n : Nat} {F F' : Nat → Int} (h : De w wr al X Y s' gb g cap a b n F) (e : ∀ i, i < n → F i = F' i) : De w wr al X Y s' gb g cap a b n F' :=
  ⟨h.q, h.r, h.t, h.row.congr e, h.hg, h.ne, h.b⟩
theorem irow_in {w : World} {g n cap : Nat} {F : Nat → Int} (h : IRow w g n F) (h0 : 0 < n) : IntsIn w (.slice (some ⟨g, 0, none⟩) n cap) n F :=
  Or.inr ⟨h0, g, 0, cap, rfl, fun i hi => by rw [Nat.zero_add]; exact (h i hi).1⟩
theorem own_irow {w : World} {B : Nat} {v : Value} {n : Nat} {f : Nat → Int} (h : w.ownsRow B 3 1 v n ((List.range n).map fun k : Nat => .int .i64 (f k))) (hn : 0 < n) : ∃ g cap, v = .slice (some ⟨g, 0, none⟩) n cap ∧ B ≤ g ∧ g < w.heap.size ∧ IRow w g n f := by
  obtain ⟨g, cap, rfl⟩ := Joins.ownsRow_form h hn
  have hl := h.lt g rfl
  refine ⟨g, cap, rfl, hl.1, hl.2, fun i hi => ⟨?_, h.frozenAt i⟩⟩
  rw [h.cellAt i (by omega)]
  simp [hi]

set_option maxHeartbeats 2000000 in
theorem mdec_bad {w : World} {s s' : Value} {n n' : Nat} {f f' : Nat → Int} (a b : Int) (al : Bool) (x y st : Int) (h : IntsIn w s n f) (h' : IntsIn w s' n' f') (hx : mdeF a b n f al x y n' f' st ≠ 0) :
    Calls Tryz.prog 51 #[.agg #[.int .i64 a, .int .i64 b, s], .agg #[.bool al, .int .i64 x, .int .i64 y, s'], .int .i64 st] w fun e w' => e = .returned (.tuple #[.agg #[.int .i64 0, .int .i64 0, .slice none 0 0], errN (mdeF a b n f al x y n' f' st)]) ∧ Below w.heap.size w w' := by
  obtain ⟨W1, hW1⟩ : ∃ W1, W1 = w.alloc (.cells #[.int .i64 a, .int .i64 b, s] 33) := ⟨_, rfl⟩
  obtain ⟨W2, hW2⟩ : ∃ W2, W2 = W1.alloc (.cells #[.bool al, .int .i64 x, .int .i64 y, s'] 66) := ⟨_, rfl⟩
  obtain ⟨W3, hW3⟩ : ∃ W3, W3 = W2.alloc (.cells #[.int .i64 0, .int .i64 0, .slice none 0 0] 33) := ⟨_, rfl⟩
  have b1 : Below w.heap.size w W1 := hW1 ▸ (Below.refl _ _).alloc (Nat.le_refl _) _
  have b12 : Below W1.heap.size W1 W2 := hW2 ▸ (Below.refl _ _).alloc (Nat.le_refl _) _
  have b23 : Below W2.heap.size W2 W3 := hW3 ▸ (Below.refl _ _).alloc (Nat.le_refl _) _
  have b3 := below_two (below_two b1 b12) b23
  have z1 : W1.heap.size = w.heap.size + 1 := by rw [hW1]; simp
  have z2 : W2.heap.size = w.heap.size + 1 + 1 := by rw [hW2]; simp [z1]
  have p1 : PicIn W3 w.heap.size a b s := PicIn.below (hW1 ▸ picIn_new w a b s) (below_two b12 b23)
  have p2 : CodIn W3 (w.heap.size + 1) al x y s' := by
    have := codIn_new W1 al x y s'
    rw [← hW2, z1] at this
    exact this.below b23
  have p3 : PicIn W3 (w.heap.size + 1 + 1) 0 0 (.slice none 0 0) := by
    have := picIn_new W2 0 0 (.slice none 0 0)
    rw [← hW3, z2] at this
    exact this
  have C := hide (pcheck_ok a b (h.below b3))
  have B3 := hide b3
  have P1 := hide p1
  have P2 := hide p2
  have P3 := hide p3
  have HS' := hide h'
  have HD : Hid (mdeF a b n f al x y n' f' st = if picF a b n f ≠ 0 then picF a b n f else if stepOk st = false then 1 else chkF al x y n' f' n) := rfl
  obtain ⟨ads, caps, rfl⟩ := slice_shape h
  obtain ⟨ads', caps', rfl⟩ := slice_shape h'
  obtain ⟨⟨c0, _⟩, ⟨c1, _⟩, c2, _⟩ := p1
  by_cases hp : picF a b n f = 0
  · obtain ⟨A, B, o⟩ := picF_zero.1 hp
    have hl := o.le
    have h0 := o.pos
    rw [hp] at C
    rw [if_neg (by omega)] at HD
    have S := hide (fun w => mstep_ok st w)
    have KC := hide (fun (wx : World) (hb : Below w.heap.size w wx) => mcheck_ok al x y n (h'.below hb) (by omega))
    subst hW3
    subst hW2
    subst hW1
    clear h h' b1 b12 b23 b3 p2 p3 z1 z2 hp o
    cases hs : stepOk st with
    | false =>
      rw [hs] at S
      have HE : Hid (mdeF a b n f al x y n' f' st = 1) := by unfold Hid; rw [HD.out, hs, if_pos rfl]
      clear HD hs hx KC
      go_enter Tryz.func51, Tryz.ntmps51
      go_wp2_with fail
      refine (C.out).mono ?_
      rintro e w1 ⟨rfl, hb1⟩
      rw [errN_zero]
      obtain ⟨⟨d0, _⟩, ⟨d1, _⟩, d2, _⟩ := P3.out.below hb1
      have B1 := hide (below_two B3.out hb1)
      clear hb1
      obtain ⟨⟨k0, g0⟩, ⟨k1, g1⟩, k2, g2⟩ : PicIn w1 (w.heap.size + 1 + 1) 0 0 (.slice none 0 0) := ⟨⟨d0, by assumption⟩, ⟨d1, by assumption⟩, d2, by assumption⟩
      go_wp2_with fail
      refine (S.out _).mono ?_
      rintro e w2 ⟨rfl, rfl⟩
      go_wp2
      refine bodyPost_ret (v := .tuple #[.agg #[.int .i64 0, .int .i64 0, .slice none 0 0], .iface 61 (.int .i64 1)]) (by simp [results, Tryz.results51, go_sem, d0, d1, d2]) rfl ⟨by rw [HE.out]; rfl, ?_⟩
      exact (((B1.out.setCell (by show w.heap.size ≤ w.heap.size + 1 + 1; omega) _).setCell (by show w.heap.size ≤ w.heap.size + 1 + 1; omega) _).setCell (by show w.heap.size ≤ w.heap.size + 1 + 1; omega) _)
    | true =>
      rw [hs] at S
      rw [hs, if_neg (by simp)] at HD
      rw [HD.out] at hx
      have HN := hide (errN_pos hx)
      have HE := HD
      clear HD hs hx
      generalize chkF al x y n' f' n = k at *
      rw [HN.out] at KC
      go_enter Tryz.func51, Tryz.ntmps51
      go_wp2_with fail
      refine (C.out).mono ?_
      rintro e w1 ⟨rfl, hb1⟩
      rw [errN_zero]
      have Q1 := hide (P1.out.below hb1)
      have Q2 := hide (P2.out.below hb1)
      have Q3 := hide (P3.out.below hb1)
      have B1 := hide (below_two B3.out hb1)
      clear hb1 c0 c1 c2
      obtain ⟨⟨c0, _⟩, ⟨c1, _⟩, c2, _⟩ := Q1.out
      obtain ⟨e0, e1, e2, e3, _, _, _, _⟩ := Q2.out
      have K2 := hide (KC.out w1 B1.out)
      go_wp2_with fail
      refine (S.out _).mono ?_
      rintro e w2 ⟨rfl, rfl⟩
      go_wp2_with fail
      refine (K2.out).mono ?_
      rintro e w2 ⟨rfl, hb2⟩
      obtain ⟨⟨d0, g0⟩, ⟨d1, g1⟩, d2, g2⟩ := Q3.out.below hb2
      have B2 := hide (below_two B1.out hb2)
      clear hb2
      go_wp2
      refine bodyPost_ret (v := .tuple #[.agg #[.int .i64 0, .int .i64 0, .slice none 0 0], .iface 61 (.int .i64 k)]) (by simp [results, Tryz.results51, go_sem, d0, d1, d2]) rfl ⟨by rw [HE.out, HN.out], ?_⟩
      exact (((B2.out.setCell (by show w.heap.size ≤ w.heap.size + 1 + 1; omega) _).setCell (by show w.heap.size ≤ w.heap.size + 1 + 1; omega) _).setCell (by show w.heap.size ≤ w.heap.size + 1 + 1; omega) _)
  · have HE : Hid (mdeF a b n f al x y n' f' st = picF a b n f) := by unfold Hid; rw [HD.out, if_pos hp]
    have HN := hide (errN_pos hp)
    subst hW3
    subst hW2
    subst hW1
    clear hx hp HD h h' b1 b12 b23 b3 p2 p3 z1 z2
    generalize picF a b n f = k at *
    rw [HN.out] at C
    go_enter Tryz.func51, Tryz.ntmps51
    go_wp2_with fail
    refine (C.out).mono ?_
    rintro e w1 ⟨rfl, hb1⟩
    obtain ⟨⟨d0, g0⟩, ⟨d1, g1⟩, d2, g2⟩ := P3.out.below hb1
    have B1 := hide (below_two B3.out hb1)
    clear hb1
    go_wp2
    refine bodyPost_ret (v := .tuple #[.agg #[.int .i64 0, .int .i64 0, .slice none 0 0], .iface 61 (.int .i64 k)]) (by simp [results, Tryz.results51, go_sem, d0, d1, d2]) rfl ⟨by rw [HE.out, HN.out], ?_⟩
    exact (((B1.out.setCell (by show w.heap.size ≤ w.heap.size + 1 + 1; omega) _).setCell (by show w.heap.size ≤ w.heap.size + 1 + 1; omega) _).setCell (by show w.heap.size ≤ w.heap.size + 1 + 1; omega) _)

set_option maxHeartbeats 4000000 in
theorem mdec_new {w : World} {s s' : Value} {n : Nat} {f f' : Nat → Int} {a b : Int} {A B : Nat} (x y st : Int) (h : IntsIn w s n f) (h' : IntsIn w s' n f') (o : PicOk a b n f A B) (s1 : 1 ≤ st) (s2 : st ≤ 64) (hm : -1 ≤ x ∧ x ≤ 1 ∧ -1 ≤ y ∧ y ≤ 1) (hr : ∀ i, i < n → -255 ≤ f' i ∧ f' i ≤ 255) :
    Calls Tryz.prog 51 #[.agg #[.int .i64 a, .int .i64 b, s], .agg #[.bool false, .int .i64 x, .int .i64 y, s'], .int .i64 st] w fun e w' => ∃ u, e = .returned (.tuple #[.agg #[.int .i64 a, .int .i64 b, u], .nilIface]) ∧ IntsIn w' u n (toldF (shiftN A B x y f) f' st) ∧ Below w.heap.size w w' ∧ ∀ k, u.ownBlock = some k → w.heap.size ≤ k := by
  obtain ⟨W1, hW1⟩ : ∃ W1, W1 = w.alloc (.cells #[.int .i64 a, .int .i64 b, s] 33) := ⟨_, rfl⟩
  obtain ⟨W2, hW2⟩ : ∃ W2, W2 = W1.alloc (.cells #[.bool false, .int .i64 x, .int .i64 y, s'] 66) := ⟨_, rfl⟩
  obtain ⟨W3, hW3⟩ : ∃ W3, W3 = W2.alloc (.cells #[.int .i64 0, .int .i64 0, .slice none 0 0] 33) := ⟨_, rfl⟩
  have b1 : Below w.heap.size w W1 := hW1 ▸ (Below.refl _ _).alloc (Nat.le_refl _) _
  have b12 : Below W1.heap.size W1 W2 := hW2 ▸ (Below.refl _ _).alloc (Nat.le_refl _) _
  have b23 : Below W2.heap.size W2 W3 := hW3 ▸ (Below.refl _ _).alloc (Nat.le_refl _) _
  have b3 := below_two (below_two b1 b12) b23
  have z1 : W1.heap.size = w.heap.size + 1 := by rw [hW1]; simp
  have z2 : W2.heap.size = w.heap.size + 1 + 1 := by rw [hW2]; simp [z1]
  have z3 : W3.heap.size = w.heap.size + 1 + 1 + 1 := by rw [hW3]; simp [z2]
  have p1 : PicIn W3 w.heap.size a b s := PicIn.below (hW1 ▸ picIn_new w a b s) (below_two b12 b23)
  have p2 : CodIn W3 (w.heap.size + 1) false x y s' := by
    have := codIn_new W1 false x y s'
    rw [← hW2, z1] at this
    exact this.below b23
  have p3 : PicIn W3 (w.heap.size + 1 + 1) 0 0 (.slice none 0 0) := by
    have := picIn_new W2 0 0 (.slice none 0 0)
    rw [← hW3, z2] at this
    exact this
  have hl := o.le
  have h0 := o.pos
  have C := hide (pcheck_ok a b (h.below b3))
  rw [picF_zero.2 ⟨A, B, o⟩] at C
  have S := hide (fun w => mstep_ok st w)
  rw [stepOk_iff.2 ⟨s1, s2⟩] at S
  have KC := hide (fun (wx : World) (hb : Below w.heap.size w wx) => mcheck_ok false x y n (h'.below hb) (by omega))
  rw [chkF_zero.2 ⟨rfl, hm, rfl, hr⟩, errN_zero] at KC
  have KS := hide (fun (wx : World) (hb : Below w.heap.size w wx) => pshift_own x y (h.below hb) o (farF_zero.2 (by omega)))
  have B3 := hide b3
  have P1 := hide p1
  have P2 := hide p2
  have P3 := hide p3
  have HR := hide hr
  have HGI := hide (o.shift x y).pix
  have HT : Hid (∀ i, toldF (shiftN A B x y f) f' st i = clamp (shiftN A B x y f i + f' i * st)) := fun i => rfl
  generalize toldF (shiftN A B x y f) f' st = T at *
  generalize shiftN A B x y f = G at *
  obtain ⟨ads, caps, rfl⟩ := slice_shape h
  obtain ⟨bb', oo', caps', rfl, hcb⟩ : ∃ ad oo cap, s' = .slice (some ⟨ad, oo, none⟩) n cap ∧ ∀ i, i < n → w.cell? ⟨ad, oo + i, none⟩ = some (.int .i64 (f' i)) := by
    rcases h' with ⟨h, _⟩ | ⟨_, b, o, c, rfl, hc⟩
    · omega
    · exact ⟨_, _, _, rfl, hc⟩
  have HCB := hide hcb
  obtain ⟨⟨c0, _⟩, ⟨c1, _⟩, c2, _⟩ := p1
  have z3' := hide z3
  rw [hW3, hW2, hW1] at z3'
  subst hW3
  subst hW2
  subst hW1
  clear h h' b1 b12 b23 b3 p2 p3 z1 z2 z3 o hcb hr hm
  go_enter Tryz.func51, Tryz.ntmps51
  go_wp2_with fail
  refine (C.out).mono ?_
  rintro e w1 ⟨rfl, hb1⟩
  rw [errN_zero]
  have Q1 := hide (P1.out.below hb1)
  have Q2 := hide (P2.out.below hb1)
  have Q3 := hide (P3.out.below hb1)
  have B1 := hide (below_two B3.out hb1)
  have hs1 : w.heap.size + 1 + 1 < w1.heap.size := by have := hb1.size; rw [z3'.out] at this; omega
  clear hb1 c0 c1 c2 C P1 P2 P3 B3 z3'
  obtain ⟨⟨c0, _⟩, ⟨c1, _⟩, c2, _⟩ := Q1.out
  obtain ⟨e0, e1, e2, e3, _, _, _, _⟩ := Q2.out
  have K2 := hide (KC.out w1 B1.out)
  go_wp2_with fail
  refine (S.out _).mono ?_
  rintro e w2 ⟨rfl, rfl⟩
  go_wp2_with fail
  refine (K2.out).mono ?_
  rintro e w2 ⟨rfl, hb2⟩
  have R1 := hide (Q1.out.below hb2)
  have R2 := hide (Q2.out.below hb2)
  have R3 := hide (Q3.out.below hb2)
  have B2 := hide (below_two B1.out hb2)
  have hs2 : w.heap.size + 1 + 1 < w2.heap.size := Nat.lt_of_lt_of_le hs1 hb2.size
  have K3 := hide (KS.out w2 B2.out)
  clear hb2 c0 c1 c2 e0 e1 e2 e3 Q1 Q2 Q3 B1 K2 KC S KS hs1
  obtain ⟨⟨c0, _⟩, ⟨c1, _⟩, c2, _⟩ := R1.out
  obtain ⟨e0, e1, e2, e3, _, _, _, _⟩ := R2.out
  go_wp2_with fail
  refine (K3.out).mono ?_
  rintro e w3 ⟨v, rfl, hv, hb3⟩
  obtain ⟨g, cap, rfl, hg1, hg2, hrow⟩ := own_irow hv h0
  obtain ⟨W4, hW4⟩ : ∃ W4, W4 = w3.alloc (.cells #[.int .i64 a, .int .i64 b, .slice (some ⟨g, 0, none⟩) n cap] 33) := ⟨_, rfl⟩
  have b4 : Below w3.heap.size w3 W4 := hW4 ▸ (Below.refl _ _).alloc (Nat.le_refl _) _
  have D4 : Hid (De w W4 false x y (.slice (some ⟨bb', oo', none⟩) n caps') w3.heap.size g cap a b n (fun i => if i < 0 then T i else G i)) := by
    refine ⟨(R2.out.below hb3).below b4, (R3.out.below hb3).below b4, hW4 ▸ picIn_new w3 _ _ _, ?_, by omega, hg2, below_two (below_two B2.out hb3) b4⟩
    intro i hi
    show W4.cell? _ = some (.int .i64 (if i < 0 then T i else G i)) ∧ _
    rw [if_neg (Nat.not_lt_zero _)]
    exact ⟨cell_below b4 (hrow i hi).1, (b4.frozen (p := ⟨g, i, none⟩) hg2).trans (hrow i hi).2⟩
  clear c0 c1 c2 e0 e1 e2 e3
  have D4' := D4.out.t
  obtain ⟨⟨d0, _⟩, ⟨d1, _⟩, d2, _⟩ := D4'
  subst hW4
  clear hv hb3 hrow b4 R1 R2 R3 B2 K3 hs2 hg1 hg2
  go_wp2
  clear d0 d1 d2
  go_loopw [47] (fun i wr => ∃ j : Nat, j ≤ n ∧ i = .int .i64 j ∧ Hid (De w wr false x y (.slice (some ⟨bb', oo', none⟩) n caps') w3.heap.size g cap a b n (fun i => if i < j then T i else G i))) (fun i _ => n - (intOf i).toNat)
  case atStart => exact ⟨0, Nat.zero_le _, rfl, D4⟩
  case round =>
    obtain ⟨j, hj, rfl, DR⟩ := hrel
    by_cases hlt : j < n
    · obtain ⟨⟨c0, _⟩, ⟨c1, _⟩, c2, _⟩ := DR.out.t
      obtain ⟨e0, e1, e2, e3, _, _, _, _⟩ := DR.out.q
      have hcb := cell_below DR.out.b (HCB.out j hlt)
      obtain ⟨hcj, hfj⟩ := DR.out.row j hlt
      simp only [Nat.lt_irrefl, if_false] at hcj
      have HTj := HT.out j
      obtain ⟨x0, x1⟩ := HR.out j hlt
      obtain ⟨y0, y1⟩ := HGI.out j hlt
      generalize f' j = r at *
      generalize hG : G j = q at *
      have p0 : -255 * st ≤ r * st := Int.mul_le_mul_of_nonneg_right x0 (by omega)
      have p1 : r * st ≤ 255 * st := Int.mul_le_mul_of_nonneg_right x1 (by omega)
      have p2 : -16320 ≤ r * st := by omega
      have p3 : r * st ≤ 16320 := by omega
      clear p0 p1 hG
      have HV := hide HTj
      clear HTj
      go_wp2
      go_region
      all_goals go_wp2
      all_goals go_roundw
      case rel =>
        have hv : (if 255 < if q + r * st < 0 then 0 else q + r * st then 255 else if q + r * st < 0 then 0 else q + r * st) = T j := by
          rw [HV.out]
          unfold clamp
          generalize q + r * st = z
          (repeat' split) <;> omega
        refine ⟨j + 1, by omega, by go_num, ?_⟩
        rw [hv]
        refine hide (((DR.out.set j (T j)).drew).congr fun i hi => ?_)
        by_cases e1 : i = j
        · subst e1; simp
        · by_cases e2 : i < j
          · simp [e1, e2, show i < j + 1 by omega]
          · simp [e1, e2, show ¬ i < j + 1 by omega]
      case measure => simp [intOf]; omega
    · obtain rfl : j = n := by omega
      obtain ⟨⟨c0, _⟩, ⟨c1, _⟩, c2, _⟩ := DR.out.t
      obtain ⟨⟨d0, g0⟩, ⟨d1, g1⟩, d2, g2⟩ := DR.out.r
      go_wp2
      refine bodyPost_ret (v := .tuple #[.agg #[.int .i64 a, .int .i64 b, .slice (some ⟨g, 0, none⟩) j cap], .nilIface]) (by simp [results, Tryz.results51, go_sem, d0, d1, d2]) rfl ⟨_, rfl, ?_, ?_, fun k hk => ?_⟩
      · have hg := DR.out.hg
        refine irow_in ?_ h0
        intro i hi
        obtain ⟨q0, q1⟩ := DR.out.row i hi
        have q0' : wr.cell? ⟨g, i, none⟩ = some (.int .i64 (if i < j then T i else G i)) := q0
        rw [if_pos hi] at q0'
        rw [World.frozen?_setCell, World.frozen?_setCell, World.frozen?_setCell]
        refine ⟨?_, q1⟩
        rw [World.cell?_setCell_other _ _ _ _ (fun e => by cases e; omega), World.cell?_setCell_other _ _ _ _ (fun e => by cases e; omega), World.cell?_setCell_other _ _ _ _ (fun e => by cases e; omega)]
        exact q0'
      · exact (((DR.out.b.setCell (by show w.heap.size ≤ w.heap.size + 1 + 1; omega) _).setCell (by show w.heap.size ≤ w.heap.size + 1 + 1; omega) _).setCell (by show w.heap.size ≤ w.heap.size + 1 + 1; omega) _)
      · have e : g = k := by simpa [Value.ownBlock] using hk
        have := DR.out.hg
        omega

theorem mdec_ok {w : World} {s s' : Value} {n : Nat} {f f' : Nat → Int} {a b : Int} {A B : Nat} (x y st : Int) (h : IntsIn w s n f) (h' : IntsIn w s' n f') (o : PicOk a b n f A B) (s1 : 1 ≤ st) (s2 : st ≤ 64) (hm : -1 ≤ x ∧ x ≤ 1 ∧ -1 ≤ y ∧ y ≤ 1) (hr : ∀ i, i < n → -255 ≤ f' i ∧ f' i ≤ 255) :
    Calls Tryz.prog 51 #[.agg #[.int .i64 a, .int .i64 b, s], .agg #[.bool false, .int .i64 x, .int .i64 y, s'], .int .i64 st] w fun e w' => ∃ u, e = .returned (.tuple #[.agg #[.int .i64 a, .int .i64 b, u], .nilIface]) ∧ IntsIn w' u n (toldF (shiftN A B x y f) f' st) ∧ Below w.heap.size w w' := by
  refine (mdec_new x y st h h' o s1 s2 hm hr).mono ?_
  rintro e w' ⟨u, he, hu, hb, _⟩
  exact ⟨u, he, hu, hb⟩
end Go.Proofs.YtjhflcgphejddaaGreatDoor

namespace Go.Proofs.YtjhflcgphejddaaGreatDoor
open Go.RowKit Go.Maps
set_option linter.unusedVariables false
set_option maxRecDepth 100000

theorem adec_all {w : World} {v : Value} {n : Nat} {f : Nat → Int} (a b s : Int) (h : IntsIn w v n f) :
    Calls Tryz.prog 52 #[.int .i64 a, .int .i64 b, .int .i64 s, v] w fun e w' => ∃ ad cp, e = .returned (.tuple #[.agg #[.int .i64 (deX a b s n f), .int .i64 (deY a b s n f), .slice ad (deM a b s n f) cp], errN (decF a b s n f)]) ∧ IntsIn w' (.slice ad (deM a b s n f) cp) (deM a b s n f) (deG a s f) ∧ Below w.heap.size w w' ∧ ∀ k, (Value.slice ad (deM a b s n f) cp).ownBlock = some k → w.heap.size ≤ k := by
  by_cases hx : decF a b s n f = 0
  · obtain ⟨A, B, o⟩ := decF_zero.1 hx
    refine (adec_ok h o).mono ?_
    rintro e w' ⟨u, rfl, hu, hb, hn⟩
    obtain ⟨ad, cp, rfl⟩ := slice_shape hu
    have e1 : deX a b s n f = a := if_pos hx
    have e2 : deY a b s n f = b := if_pos hx
    have e3 : deM a b s n f = n := if_pos hx
    have e4 : deG a s f = tellF A s fun i _ => f i := by unfold deG; rw [o.wide]; rfl
    rw [e1, e2, e3, e4, hx]
    exact ⟨ad, cp, rfl, hu, hb, hn⟩
  · refine (adec_bad a b s h hx).mono ?_
    rintro e w' ⟨rfl, hb⟩
    have e1 : deX a b s n f = 0 := if_neg hx
    have e2 : deY a b s n f = 0 := if_neg hx
    have e3 : deM a b s n f = 0 := if_neg hx
    rw [e1, e2, e3]
    exact ⟨none, 0, rfl, Or.inl ⟨rfl, _, _, rfl⟩, hb, fun k h => by cases h⟩
theorem mdec_all {w : World} {s s' : Value} {n n' : Nat} {f f' : Nat → Int} (a b : Int) (al : Bool) (x y st : Int) (h : IntsIn w s n f) (h' : IntsIn w s' n' f') :
    Calls Tryz.prog 51 #[.agg #[.int .i64 a, .int .i64 b, s], .agg #[.bool al, .int .i64 x, .int .i64 y, s'], .int .i64 st] w fun e w' => ∃ ad cp, e = .returned (.tuple #[.agg #[.int .i64 (mdX a b n f al x y n' f' st), .int .i64 (mdY a b n f al x y n' f' st), .slice ad (mdM a b n f al x y n' f' st) cp], errN (mdeF a b n f al x y n' f' st)]) ∧ IntsIn w' (.slice ad (mdM a b n f al x y n' f' st) cp) (mdM a b n f al x y n' f' st) (mdG a b f x y f' st) ∧ Below w.heap.size w w' ∧ ∀ k, (Value.slice ad (mdM a b n f al x y n' f' st) cp).ownBlock = some k → w.heap.size ≤ k := by
  by_cases hx : mdeF a b n f al x y n' f' st = 0
  · obtain ⟨hp, ⟨s1, s2⟩, hc⟩ := mdeF_zero.1 hx
    obtain ⟨A, B, o⟩ := picF_zero.1 hp
    obtain ⟨rfl, hm, hn, hr⟩ := chkF_zero.1 hc
    obtain rfl : n' = n := by omega
    refine (mdec_new x y st h h' o s1 s2 hm hr).mono ?_
    rintro e w' ⟨u, rfl, hu, hb, hn⟩
    obtain ⟨ad, cp, rfl⟩ := slice_shape hu
    have e1 : mdX a b n' f false x y n' f' st = a := if_pos hx
    have e2 : mdY a b n' f false x y n' f' st = b := if_pos hx
    have e3 : mdM a b n' f false x y n' f' st = n' := if_pos hx
    have e4 : mdG a b f x y f' st = toldF (shiftN A B x y f) f' st := by unfold mdG; rw [o.wide, o.high]; rfl
    rw [e1, e2, e3, e4, hx]
    exact ⟨ad, cp, rfl, hu, hb, hn⟩
  · refine (mdec_bad a b al x y st h h' hx).mono ?_
    rintro e w' ⟨rfl, hb⟩
    have e1 : mdX a b n f al x y n' f' st = 0 := if_neg hx
    have e2 : mdY a b n f al x y n' f' st = 0 := if_neg hx
    have e3 : mdM a b n f al x y n' f' st = 0 := if_neg hx
    rw [e1, e2, e3]
    exact ⟨none, 0, rfl, Or.inl ⟨rfl, _, _, rfl⟩, hb, fun k h => by cases h⟩
end Go.Proofs.YtjhflcgphejddaaGreatDoor

namespace Go.Proofs.YtjhflcgphejddaaGreatDoor
open Go.RowKit Go.Maps
set_option linter.unusedVariables false
set_option maxRecDepth 100000

set_option maxHeartbeats 4000000 in
theorem ftell_any {w : World} {s s' : Value} {n n' : Nat} {f f' : Nat → Int} {E : Nat × Pc} (a b : Int) (al : Bool) (x y st : Int) (h : IntsIn w s n f) (h' : IntsIn w s' n' f') (hE : stpK st ⟨al, x, y, n', f'⟩ ⟨a, b, n, f⟩ = E) :
    Calls Tryz.prog 23 #[.agg #[.int .i64 a, .int .i64 b, s], .agg #[.bool al, .int .i64 x, .int .i64 y, s'], .int .i64 st] w fun e w' => ∃ ad cp, e = .returned (.tuple #[.agg #[.int .i64 E.2.a, .int .i64 E.2.b, .slice ad E.2.n cp], errN E.1]) ∧ IntsIn w' (.slice ad E.2.n cp) E.2.n E.2.f ∧ Below w.heap.size w w' ∧ ∀ k, (Value.slice ad E.2.n cp).ownBlock = some k → w.heap.size ≤ k := by
  obtain ⟨W1, hW1⟩ : ∃ W1, W1 = w.alloc (.cells #[.int .i64 a, .int .i64 b, s] 33) := ⟨_, rfl⟩
  obtain ⟨W2, hW2⟩ : ∃ W2, W2 = W1.alloc (.cells #[.bool al, .int .i64 x, .int .i64 y, s'] 66) := ⟨_, rfl⟩
  obtain ⟨W3, hW3⟩ : ∃ W3, W3 = W2.alloc (.cells #[.int .i64 0, .int .i64 0, .slice none 0 0] 33) := ⟨_, rfl⟩
  have b1 : Below w.heap.size w W1 := hW1 ▸ (Below.refl _ _).alloc (Nat.le_refl _) _
  have b12 : Below W1.heap.size W1 W2 := hW2 ▸ (Below.refl _ _).alloc (Nat.le_refl _) _
  have b23 : Below W2.heap.size W2 W3 := hW3 ▸ (Below.refl _ _).alloc (Nat.le_refl _) _
  have b3 := below_two (below_two b1 b12) b23
  have z1 : W1.heap.size = w.heap.size + 1 := by rw [hW1]; simp
  have z2 : W2.heap.size = w.heap.size + 1 + 1 := by rw [hW2]; simp [z1]
  have z3 : W3.heap.size = w.heap.size + 1 + 1 + 1 := by rw [hW3]; simp [z2]
  have p1 : PicIn W3 w.heap.size a b s := PicIn.below (hW1 ▸ picIn_new w a b s) (below_two b12 b23)
  have p2 : CodIn W3 (w.heap.size + 1) al x y s' := by
    have := codIn_new W1 al x y s'
    rw [← hW2, z1] at this
    exact this.below b23
  have p3 : PicIn W3 (w.heap.size + 1 + 1) 0 0 (.slice none 0 0) := by
    have := picIn_new W2 0 0 (.slice none 0 0)
    rw [← hW3, z2] at this
    exact this
  have B3 := hide b3
  have P3 := hide p3
  have Z3 := hide z3
  have HI := hide (h.below b3)
  have HJ := hide (h'.below b3)
  obtain ⟨ads, caps, rfl⟩ := slice_shape h
  obtain ⟨ads', caps', rfl⟩ := slice_shape h'
  obtain ⟨⟨c0, _⟩, ⟨c1, _⟩, c2, _⟩ := p1
  have P2 := hide p2
  obtain ⟨d0, d1, d2, d3, _, _, _, _⟩ := p2
  clear h h' b1 b12 b23 b3 z1 z2 z3 p3
  -- what is left, once the picture told lies there
  have HR : Hid (∀ (w2 : World) (X Y : Int) (M : Nat) (ad : Option Addr) (cp : Nat) (G : Nat → Int), IntsIn w2 (.slice ad M cp) M G → Below W3.heap.size W3 w2 → (∀ k, (Value.slice ad M cp).ownBlock = some k → W3.heap.size ≤ k) →
      PicIn (((w2.setCell ⟨w.heap.size + 1 + 1, 0, none⟩ (.int .i64 X)).setCell ⟨w.heap.size + 1 + 1, 1, none⟩ (.int .i64 Y)).setCell ⟨w.heap.size + 1 + 1, 2, none⟩ (.slice ad M cp)) (w.heap.size + 1 + 1) X Y (.slice ad M cp)
      ∧ IntsIn (((w2.setCell ⟨w.heap.size + 1 + 1, 0, none⟩ (.int .i64 X)).setCell ⟨w.heap.size + 1 + 1, 1, none⟩ (.int .i64 Y)).setCell ⟨w.heap.size + 1 + 1, 2, none⟩ (.slice ad M cp)) (.slice ad M cp) M G
      ∧ Below w.heap.size w (((w2.setCell ⟨w.heap.size + 1 + 1, 0, none⟩ (.int .i64 X)).setCell ⟨w.heap.size + 1 + 1, 1, none⟩ (.int .i64 Y)).setCell ⟨w.heap.size + 1 + 1, 2, none⟩ (.slice ad M cp))
      ∧ (∀ k, (Value.slice ad M cp).ownBlock = some k → w.heap.size ≤ k)) := fun w2 X Y M ad cp G hi hb hn => by
    have hz := Z3.out
    have hne : ∀ k, (Value.slice ad M cp).ownBlock = some k → k ≠ w.heap.size + 1 + 1 := fun k e => by have := hn k e; omega
    exact ⟨(P3.out.below hb).put X Y _, ints_set (o := 2) (ints_set (o := 1) (ints_set (o := 0) hi hne (.int .i64 X)) hne (.int .i64 Y)) hne (.slice ad M cp),
      ((((below_two B3.out hb).setCell (by show w.heap.size ≤ w.heap.size + 1 + 1; omega) _).setCell (by show w.heap.size ≤ w.heap.size + 1 + 1; omega) _).setCell (by show w.heap.size ≤ w.heap.size + 1 + 1; omega) _),
      fun k e => by have := hn k e; omega⟩
  cases al with
  | false =>
    have HE : Hid (E = (mdeF a b n f false x y n' f' st, ⟨mdX a b n f false x y n' f' st, mdY a b n f false x y n' f' st, mdM a b n f false x y n' f' st, mdG a b f x y f' st⟩)) := by
      unfold Hid; rw [← hE]; rfl
    have K := hide (mdec_all a b false x y st HI.out HJ.out)
    clear hE HI HJ
    generalize mdeF a b n f false x y n' f' st = df at *
    generalize mdX a b n f false x y n' f' st = dx at *
    generalize mdY a b n f false x y n' f' st = dy at *
    generalize mdM a b n f false x y n' f' st = dm at *
    generalize mdG a b f x y f' st = dg at *
    subst hW3
    subst hW2
    subst hW1
    go_enter Tryz.func23, Tryz.ntmps23
    go_wp2_with fail
    refine (K.out).mono ?_
    rintro e w2 ⟨ad, cp, rfl, hi, hb, hn⟩
    obtain ⟨⟨k0, g0⟩, ⟨k1, g1⟩, k2, g2⟩ := P3.out.below hb
    have HX := hide (HR.out w2 dx dy dm ad cp dg hi hb hn)
    clear hi hb hn K
    go_wp2
    obtain ⟨hp9, hi9, hb9, hn9⟩ := HX.out
    obtain ⟨⟨q0, _⟩, ⟨q1, _⟩, q2, _⟩ := hp9
    refine bodyPost_ret (v := .tuple #[.agg #[.int .i64 dx, .int .i64 dy, .slice ad dm cp], errN df]) (by simp [results, Tryz.results23, go_sem, q0, q1, q2]) rfl ?_
    rw [HE.out]
    exact ⟨ad, cp, rfl, hi9, hb9, hn9⟩
  | true =>
    by_cases hx : x = 0
    · by_cases hy : y = 0
      · subst hx hy
        have HE : Hid (E = (decF a b st n' f', ⟨deX a b st n' f', deY a b st n' f', deM a b st n' f', deG a st f'⟩)) := by
          unfold Hid; rw [← hE]; rfl
        have K := hide (adec_all a b st HJ.out)
        clear hE HI HJ
        generalize decF a b st n' f' = df at *
        generalize deX a b st n' f' = dx at *
        generalize deY a b st n' f' = dy at *
        generalize deM a b st n' f' = dm at *
        generalize deG a st f' = dg at *
        have q0 : ((0 : Int) == 0) = true := rfl
        subst hW3
        subst hW2
        subst hW1
        go_enter Tryz.func23, Tryz.ntmps23
        go_wp2_with fail
        refine (K.out).mono ?_
        rintro e w2 ⟨ad, cp, rfl, hi, hb, hn⟩
        obtain ⟨⟨k0, g0⟩, ⟨k1, g1⟩, k2, g2⟩ := P3.out.below hb
        have HX := hide (HR.out w2 dx dy dm ad cp dg hi hb hn)
        clear hi hb hn K
        go_wp2
        obtain ⟨hp9, hi9, hb9, hn9⟩ := HX.out
        obtain ⟨⟨q0, _⟩, ⟨q1, _⟩, q2, _⟩ := hp9
        refine bodyPost_ret (v := .tuple #[.agg #[.int .i64 dx, .int .i64 dy, .slice ad dm cp], errN df]) (by simp [results, Tryz.results23, go_sem, q0, q1, q2]) rfl ?_
        rw [HE.out]
        exact ⟨ad, cp, rfl, hi9, hb9, hn9⟩
      · subst hx
        have HE : Hid (E = (3, Pc.none)) := by
          unfold Hid; rw [← hE]; unfold stpK stpC
          rw [if_pos rfl, if_pos (Or.inr hy)]
        have q0 : (y == 0) = false := by rw [beq_eq_false_iff_ne]; exact hy
        have q1 : (y != 0) = true := by simp [bne, q0]
        obtain ⟨⟨k0, g0⟩, ⟨k1, g1⟩, k2, g2⟩ := P3.out
        clear hE HI HJ hy
        subst hW3
        subst hW2
        subst hW1
        go_enter Tryz.func23, Tryz.ntmps23
        go_wp2
        refine bodyPost_ret (v := .tuple #[.agg #[.int .i64 0, .int .i64 0, .slice none 0 0], errN 3]) (by first | (simp [results, Tryz.results23, go_sem]; done) | (simp [results, Tryz.results23, go_sem]; rfl)) rfl ?_
        rw [HE.out]
        exact ⟨none, 0, rfl, Or.inl ⟨rfl, _, _, rfl⟩, B3.out, fun k e => by cases e⟩
    · have HE : Hid (E = (3, Pc.none)) := by
        unfold Hid; rw [← hE]; unfold stpK stpC
        rw [if_pos rfl, if_pos (Or.inl hx)]
      have q0 : (x == 0) = false := by rw [beq_eq_false_iff_ne]; exact hx
      have q1 : (x != 0) = true := by simp [bne, q0]
      obtain ⟨⟨k0, g0⟩, ⟨k1, g1⟩, k2, g2⟩ := P3.out
      clear hE HI HJ hx
      subst hW3
      subst hW2
      subst hW1
      go_enter Tryz.func23, Tryz.ntmps23
      go_wp2
      refine bodyPost_ret (v := .tuple #[.agg #[.int .i64 0, .int .i64 0, .slice none 0 0], errN 3]) (by first | (simp [results, Tryz.results23, go_sem]; done) | (simp [results, Tryz.results23, go_sem]; rfl)) rfl ?_
      rw [HE.out]
      exact ⟨none, 0, rfl, Or.inl ⟨rfl, _, _, rfl⟩, B3.out, fun k e => by cases e⟩
end Go.Proofs.YtjhflcgphejddaaGreatDoor
