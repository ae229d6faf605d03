/-
  Lemmas for the law above, joined into one text (MvK, PicG, PicM, PicC). No statement is proved here.
-/
import Derived.Test.YtjhflcgphejddaaDoorHG12
import Derived.Test.YtjhflcgphejddaaDoorHG2
import Derived.Test.YtjhflcgphejddaaDoorHG6
import Derived.Test.YtjhflcgphejddaaDoorHG9
import Derived.Test.YtjhflcgphejddaaDoorHG5
import Derived.Deep.DeepCutAuto
import Derived.Test.YtjhflcgphejddaaDoorHG11
namespace Go.Proofs.YtjhflcgphejddaaDoor
open Go.RowKit
set_option linter.unusedVariables false
set_option maxRecDepth 100000

theorem mvOk_two {x y : Int} : mvOk x y = (nearOk x && nearOk y) := rfl

set_option maxHeartbeats 1000000 in
theorem mcheck_ok {w : World} {v : Value} {n : Nat} {f : Nat → Int} (al : Bool) (x y m : Int) (h : IntsIn w v n f) (hm : m ≤ 1000) :
    Calls Tryd.prog 66 #[.agg #[.bool al, .int .i64 x, .int .i64 y, v], .int .i64 m] w fun e w' => e = .returned (errN (chkF al x y n f m)) ∧ Below w.heap.size w w' := by
  obtain ⟨W1, hW1⟩ : ∃ W1, W1 = w.alloc (.cells #[.bool al, .int .i64 x, .int .i64 y, v] 40) := ⟨_, rfl⟩
  have b1 : Below w.heap.size w W1 := hW1 ▸ (Below.refl _ _).alloc (Nat.le_refl _) _
  have P1 : CodIn W1 w.heap.size al x y v := hW1 ▸ codIn_new w al x y v
  obtain ⟨c0, c1, c2, c3, _, _, _, _⟩ := P1
  have B1 := hide b1
  have HI := hide (h.below b1)
  have S1 := hide (mnear_ok x)
  have S2 := hide (mnear_ok y)
  have HD : Hid (chkF al x y n f m = if al = true then 3 else if (nearOk x && nearOk y) = false then 1 else restsF n f m) := rfl
  obtain ⟨ad, cap, rfl⟩ := slice_shape h
  subst hW1
  clear h b1
  cases al with
  | true =>
    have HE : Hid (chkF true x y n f m = 3) := HD.out
    clear HD
    go_enter Tryd.func66, Tryd.ntmps66
    go_wp2
    go_ret
    exact ⟨by rw [HE.out]; rfl, B1.out⟩
  | false =>
    rw [if_neg (by simp)] at HD
    cases h1 : nearOk x with
    | false =>
      rw [h1] at S1
      have HE : Hid (chkF false x y n f m = 1) := by unfold Hid; rw [HD.out, h1, Bool.false_and, if_pos rfl]
      clear HD h1
      go_enter Tryd.func66, Tryd.ntmps66
      go_wp2_with fail
      refine (S1.out _).mono ?_
      rintro e w2 ⟨rfl, rfl⟩
      go_wp2
      go_ret
      exact ⟨by rw [HE.out]; rfl, B1.out⟩
    | true =>
      rw [h1] at S1
      cases h2 : nearOk y with
      | false =>
        rw [h2] at S2
        have HE : Hid (chkF false x y n f m = 1) := by unfold Hid; rw [HD.out, h2, Bool.and_false, if_pos rfl]
        clear HD h1 h2
        go_enter Tryd.func66, Tryd.ntmps66
        go_wp2_with fail
        refine (S1.out _).mono ?_
        rintro e w2 ⟨rfl, rfl⟩
        go_wp2_with fail
        refine (S2.out _).mono ?_
        rintro e w2 ⟨rfl, rfl⟩
        go_wp2
        go_ret
        exact ⟨by rw [HE.out]; rfl, B1.out⟩
      | true =>
        rw [h2] at S2
        rw [h1, h2, Bool.and_true, if_neg (by simp)] at HD
        have HR : Hid (restsF n f m = if (n : Int) ≠ m then 3 else if restsOk n f = false then 1 else 0) := rfl
        clear h1 h2
        by_cases hne : (n : Int) = m
        · subst hne
          have C := hide (mcont_ok HI.out (by omega))
          rw [if_neg (by simp)] at HR
          cases h3 : restsOk n f with
          | false =>
            rw [h3] at C
            have HE : Hid (chkF false x y n f n = 1) := by unfold Hid; rw [HD.out, HR.out, h3, if_pos rfl]
            clear HD HR h3
            go_enter Tryd.func66, Tryd.ntmps66
            go_wp2_with fail
            refine (S1.out _).mono ?_
            rintro e w2 ⟨rfl, rfl⟩
            go_wp2_with fail
            refine (S2.out _).mono ?_
            rintro e w2 ⟨rfl, rfl⟩
            go_wp2_with fail
            refine (C.out).mono ?_
            rintro e w2 ⟨rfl, rfl⟩
            go_wp2
            go_ret
            exact ⟨by rw [HE.out]; rfl, B1.out⟩
          | true =>
            rw [h3] at C
            have HE : Hid (chkF false x y n f n = 0) := by unfold Hid; rw [HD.out, HR.out, h3, if_neg (by simp)]
            clear HD HR h3
            go_enter Tryd.func66, Tryd.ntmps66
            go_wp2_with fail
            refine (S1.out _).mono ?_
            rintro e w2 ⟨rfl, rfl⟩
            go_wp2_with fail
            refine (S2.out _).mono ?_
            rintro e w2 ⟨rfl, rfl⟩
            go_wp2_with fail
            refine (C.out).mono ?_
            rintro e w2 ⟨rfl, rfl⟩
            go_wp2
            go_ret
            exact ⟨by rw [HE.out]; rfl, B1.out⟩
        · have hn1 : ((n : Int) == m) = false := by rw [beq_eq_false_iff_ne]; exact hne
          have hn3 : ((n : Int) != m) = true := by simp [bne, hn1]
          have HE : Hid (chkF false x y n f m = 3) := by unfold Hid; rw [HD.out, HR.out, if_pos hne]
          clear HD HR hne
          go_enter Tryd.func66, Tryd.ntmps66
          go_wp2_with fail
          refine (S1.out _).mono ?_
          rintro e w2 ⟨rfl, rfl⟩
          go_wp2_with fail
          refine (S2.out _).mono ?_
          rintro e w2 ⟨rfl, rfl⟩
          go_wp2
          go_ret
          exact ⟨by rw [HE.out]; rfl, B1.out⟩
end Go.Proofs.YtjhflcgphejddaaDoor

namespace Go.Proofs.YtjhflcgphejddaaDoor
open Go.RowKit
set_option linter.unusedVariables false
set_option maxRecDepth 100000

theorem pfar_ok (n : Int) (w : World) : Calls Tryd.prog 89 #[.int .i64 n] w fun e w' => e = .returned (.bool (farOk n)) ∧ w = w' := by
  rcases Int.lt_or_le n (-6) with h | h
  · go_enter Tryd.func89, Tryd.ntmps89
    go_wp2
    go_ret
    exact ⟨ret_bool (farOk_not.2 (Or.inl h)).symm, rfl⟩
  · rcases Int.lt_or_le 6 n with k | k
    · go_enter Tryd.func89, Tryd.ntmps89
      go_wp2
      go_ret
      exact ⟨ret_bool (by first | exact (farOk_not.2 (Or.inr k)).symm | (rw [Bool.eq_iff_iff, farOk_iff, decide_eq_true_iff]; omega)), rfl⟩
    · go_enter Tryd.func89, Tryd.ntmps89
      go_wp2
      go_ret
      exact ⟨ret_bool (farOk_iff.2 ⟨h, k⟩).symm, rfl⟩
end Go.Proofs.YtjhflcgphejddaaDoor

namespace Go.Proofs.YtjhflcgphejddaaDoor
open Go.RowKit
set_option linter.unusedVariables false
set_option maxRecDepth 100000

set_option maxHeartbeats 1000000 in
theorem pnear_ok {w : World} {s : Value} {n : Nat} {f : Nat → Int} {a b : Int} {A B : Nat} (x y : Int) (h : IntsIn w s n f) (o : PicOk a b n f A B) :
    Calls Tryd.prog 90 #[.agg #[.int .i64 a, .int .i64 b, s], .int .i64 x, .int .i64 y] w fun e w' => e = .returned (.int .i64 (f (near y B * A + near x A))) ∧ Below w.heap.size w w' := by
  have hl := o.le
  have h0 := o.pos
  obtain ⟨ad, oo, cap, rfl, hc⟩ : ∃ ad oo cap, s = .slice (some ⟨ad, oo, none⟩) n cap ∧ ∀ i, i < n → w.cell? ⟨ad, oo + i, none⟩ = some (.int .i64 (f i)) := by
    rcases h with ⟨h, _⟩ | ⟨_, b, o, c, rfl, hc⟩
    · omega
    · exact ⟨_, _, _, rfl, hc⟩
  have b1 : Below w.heap.size w (w.alloc (.cells #[.int .i64 a, .int .i64 b, .slice (some ⟨ad, oo, none⟩) n cap] 46)) := (Below.refl _ _).alloc (Nat.le_refl _) _
  have p1 := picIn_new w a b (.slice (some ⟨ad, oo, none⟩) n cap)
  obtain ⟨⟨c0, _⟩, ⟨c1, _⟩, c2, _⟩ := p1
  have HB := hide b1
  have ea := o.wide
  have eb := o.high
  subst ea
  subst eb
  have a1 := o.w1
  have a6 := o.w6
  have b1' := o.h1
  have b6 := o.h6
  have nx := near_lt x o.w1
  have ny := near_lt y o.h1
  have hq : near y B * A + near x A < n := by
    have h3 : (near y B + 1) * A ≤ B * A := Nat.mul_le_mul_right _ (by omega)
    rw [Nat.add_mul, Nat.one_mul] at h3
    rw [o.many, Nat.mul_comm A B]
    omega
  have hcell := cell_below b1 (hc _ hq)
  have IX := hide (near_int x o.w1)
  have IY := hide (near_int y o.h1)
  have hqi : ((near y B : Nat) : Int) * (A : Int) + ((near x A : Nat) : Int) = ((near y B * A + near x A : Nat) : Int) := by rw [Int.natCast_add, Int.natCast_mul]
  have hp0 : (0 : Int) ≤ ((near y B : Nat) : Int) * (A : Int) := Int.mul_nonneg (by omega) (by omega)
  have hp1 : ((near y B : Nat) : Int) * (A : Int) ≤ 36 := by omega
  clear h hc o b1
  generalize hQ : near y B * A + near x A = q at *
  generalize hX : near x A = xx at *
  generalize hY : near y B = yy at *
  clear hQ hX hY
  go_enter Tryd.func90, Tryd.ntmps90
  go_upto_region 1 with fail
  go_cut [1] (fun t wx => t = .int .i64 xx ∧ wx = w.alloc (.cells #[.int .i64 A, .int .i64 B, .slice (some ⟨ad, oo, none⟩) n cap] 46))
  case first =>
    go_wp2
    all_goals
      go_meet
      refine ⟨?_, rfl⟩
      rw [IX.out]
      congr 1
      first | omega | ((repeat' split) <;> omega)
  case rest =>
  obtain ⟨rfl, rfl⟩ := hcut
  go_upto_region 2 with fail
  go_cut [2] (fun t wx => t = .int .i64 yy ∧ wx = w.alloc (.cells #[.int .i64 A, .int .i64 B, .slice (some ⟨ad, oo, none⟩) n cap] 46))
  case first =>
    go_wp2
    all_goals
      go_meet
      refine ⟨?_, rfl⟩
      rw [IY.out]
      congr 1
      first | omega | ((repeat' split) <;> omega)
  case rest =>
  obtain ⟨rfl, rfl⟩ := hcut
  generalize hz : f q = z at *
  have HZ := hide hz
  clear hz
  go_wp2
  go_ret
  exact ⟨ret_int HZ.out.symm, HB.out⟩
end Go.Proofs.YtjhflcgphejddaaDoor

namespace Go.Proofs.YtjhflcgphejddaaDoor
open Go.RowKit
set_option linter.unusedVariables false
set_option maxRecDepth 100000

set_option maxHeartbeats 1000000 in
theorem pcheck_ok {w : World} {s : Value} {n : Nat} {f : Nat → Int} (a b : Int) (h : IntsIn w s n f) :
    Calls Tryd.prog 49 #[.agg #[.int .i64 a, .int .i64 b, s]] w fun e w' => e = .returned (errN (picF a b n f)) ∧ Below w.heap.size w w' := by
  have hb0 : Below w.heap.size w (w.alloc (.cells #[.int .i64 a, .int .i64 b, s] 46)) := (Below.refl _ _).alloc (Nat.le_refl _) _
  have HB := hide hb0
  have H0 := hide (h.below hb0)
  obtain ⟨ad, cap, rfl⟩ : ∃ ad cap, s = .slice ad n cap := by
    rcases h with ⟨rfl, a, c, rfl⟩ | ⟨_, b, o, c, rfl, _⟩
    · exact ⟨_, _, rfl⟩
    · exact ⟨_, _, rfl⟩
  have S := hide (fun x w => pside_ok x w)
  have HP : Hid (picF a b n f = if (sideOk a && sideOk b) = false then 1 else if (n : Int) ≠ a * b then 3 else if pixOk n f = false then 1 else 0) := by
    unfold Hid picF; rw [sides_two]
  clear hb0 h
  cases ha : sideOk a with
  | false =>
    have S1 := hide (S.out a)
    rw [ha] at S1
    have HE : Hid (picF a b n f = 1) := by unfold Hid; rw [HP.out, ha, Bool.false_and, if_pos rfl]
    clear ha HP
    go_enter Tryd.func49, Tryd.ntmps49
    go_wp2_with fail
    refine (S1.out _).mono ?_
    rintro e w1 ⟨rfl, rfl⟩
    go_wp2
    go_ret
    exact ⟨by rw [HE.out]; rfl, HB.out⟩
  | true =>
    have S1 := hide (S.out a)
    rw [ha] at S1
    cases hb : sideOk b with
    | false =>
      have S2 := hide (S.out b)
      rw [hb] at S2
      have HE : Hid (picF a b n f = 1) := by unfold Hid; rw [HP.out, hb, Bool.and_false, if_pos rfl]
      clear ha hb HP
      go_enter Tryd.func49, Tryd.ntmps49
      go_wp2_with fail
      refine (S1.out _).mono ?_
      rintro e w1 ⟨rfl, rfl⟩
      go_wp2_with fail
      refine (S2.out _).mono ?_
      rintro e w1 ⟨rfl, rfl⟩
      go_wp2
      go_ret
      exact ⟨by rw [HE.out]; rfl, HB.out⟩
    | true =>
      have S2 := hide (S.out b)
      rw [hb] at S2
      have h1 := sideOk_iff.1 ha
      have h2 := sideOk_iff.1 hb
      have hp0 : 0 ≤ a * b := Int.mul_nonneg (by omega) (by omega)
      have hp1 : a * b ≤ 36 := by
        have e1 : a * b ≤ 6 * b := Int.mul_le_mul_of_nonneg_right (by omega) (by omega)
        omega
      rw [ha, hb, Bool.and_self, if_neg (by simp)] at HP
      clear ha hb
      by_cases hn : (n : Int) = a * b
      · have hn1 : ((n : Int) == a * b) = true := by rw [beq_iff_eq]; exact hn
        have hn2 : n ≤ 36 := by omega
        have C := hide (pcont_ok H0.out (by omega))
        rw [if_neg (by simp [hn])] at HP
        clear hn
        cases hq : pixOk n f with
        | false =>
          rw [hq] at C
          have HE : Hid (picF a b n f = 1) := by unfold Hid; rw [HP.out, hq, if_pos rfl]
          clear hq HP
          go_enter Tryd.func49, Tryd.ntmps49
          go_wp2_with fail
          refine (S1.out _).mono ?_
          rintro e w1 ⟨rfl, rfl⟩
          go_wp2_with fail
          refine (S2.out _).mono ?_
          rintro e w1 ⟨rfl, rfl⟩
          go_wp2_with fail
          refine (C.out).mono ?_
          rintro e w1 ⟨rfl, rfl⟩
          go_wp2
          go_ret
          exact ⟨by rw [HE.out]; rfl, HB.out⟩
        | true =>
          rw [hq] at C
          have HE : Hid (picF a b n f = 0) := by unfold Hid; rw [HP.out, hq, if_neg (by simp)]
          clear hq HP
          go_enter Tryd.func49, Tryd.ntmps49
          go_wp2_with fail
          refine (S1.out _).mono ?_
          rintro e w1 ⟨rfl, rfl⟩
          go_wp2_with fail
          refine (S2.out _).mono ?_
          rintro e w1 ⟨rfl, rfl⟩
          go_wp2_with fail
          refine (C.out).mono ?_
          rintro e w1 ⟨rfl, rfl⟩
          go_wp2
          go_ret
          exact ⟨by rw [HE.out]; rfl, HB.out⟩
      · have hn1 : ((n : Int) == a * b) = false := by rw [beq_eq_false_iff_ne]; exact hn
        have HE : Hid (picF a b n f = 3) := by unfold Hid; rw [HP.out, if_pos hn]
        clear hn HP
        go_enter Tryd.func49, Tryd.ntmps49
        go_wp2_with fail
        refine (S1.out _).mono ?_
        rintro e w1 ⟨rfl, rfl⟩
        go_wp2_with fail
        refine (S2.out _).mono ?_
        rintro e w1 ⟨rfl, rfl⟩
        go_wp2
        go_ret
        exact ⟨by rw [HE.out]; rfl, HB.out⟩
end Go.Proofs.YtjhflcgphejddaaDoor
