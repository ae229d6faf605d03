/-
  Lemmas for the law above, joined into one text (MvI, MvK, PicG). No statement is proved here.
-/
import Derived.Test.YtjhflcgphejddaaDoorBG14
import Derived.Test.YtjhflcgphejddaaDoorBG16
import Derived.Test.YtjhflcgphejddaaDoorBG3
import Derived.Test.YtjhflcgphejddaaDoorBG9
import Derived.Test.YtjhflcgphejddaaDoorBG13
namespace Go.Proofs.YtjhflcgphejddaaDoor
open Go.RowKit
set_option linter.unusedVariables false
set_option maxRecDepth 100000

theorem mnot_ok (n : Int) (w : World) : Calls Tryd.prog 87 #[.int .i64 n] w fun e w' => e = .returned (.bool (!restOk n)) ∧ w = w' := by
  have K := hide (mrest_ok n w)
  go_enter Tryd.func87, Tryd.ntmps87
  go_wp2_with fail
  refine (K.out).mono ?_
  rintro e w1 ⟨rfl, rfl⟩
  go_wp2
  go_ret
  exact ⟨rfl, rfl⟩

set_option maxHeartbeats 1000000 in
theorem midx_ok {w : World} {v : Value} {n : Nat} {f : Nat → Int} (h : IntsIn w v n f) (hn : n ≤ 1000) :
    Calls Tryd.prog 80 #[v, .func (.func 87) #[] #[]] w fun e w' => ∃ i : Int, e = .returned (.int .i64 i) ∧ IsAt (fun j => !restOk (f j)) n i ∧ w = w' := by
  rcases h with ⟨rfl, a, cap, rfl⟩ | ⟨h0, b, o, cap, rfl, hc⟩
  · go_enter Tryd.func80, Tryd.ntmps80
    go_wp2
    go_loop [8] (fun i => i = .int .i64 0) (fun _ => 0)
    case atStart => rfl
    case round =>
      obtain rfl := hrel
      go_wp2
      go_ret
      exact ⟨_, rfl, Or.inl ⟨rfl, fun j hj => absurd hj (Nat.not_lt_zero _)⟩, rfl⟩
  · have HC := hide hc
    clear hc
    go_enter Tryd.func80, Tryd.ntmps80
    go_wp2
    go_loop [5, 8] (fun _ i => ∃ j : Nat, j ≤ n ∧ i = .int .i64 j ∧ ∀ q, q < j → restOk (f q) = true) (fun _ i => n - (intOf i).toNat)
    case atStart => exact ⟨0, Nat.zero_le _, rfl, fun q hq => absurd hq (Nat.not_lt_zero _)⟩
    case round =>
      obtain ⟨j, hj, rfl, hno⟩ := hrel
      have HN := hide hno
      clear hno
      by_cases hlt : j < n
      · have hc := HC.out j hlt
        have K := hide (mnot_ok (f j) w)
        generalize hx : f j = x at *
        have HX := hide hx
        clear hx
        cases hq : restOk x with
        | false =>
          have HQ := hide hq
          rw [hq] at K
          clear hq
          go_wp2_with (go_at_call 87; refine (K.out).mono ?_; rintro e w1 ⟨rfl, rfl⟩)
          go_ret
          exact ⟨_, rfl, Or.inr ⟨j, rfl, hlt, by show (!restOk (f j)) = true; rw [HX.out, HQ.out]; rfl⟩, rfl⟩
        | true =>
          have HQ := hide hq
          rw [hq] at K
          clear hq
          go_wp2_with (go_at_call 87; refine (K.out).mono ?_; rintro e w1 ⟨rfl, rfl⟩)
          go_round
          case rel =>
            refine ⟨j + 1, by omega, by go_num, fun q hq => ?_⟩
            by_cases c : q = j
            · rw [c, HX.out]; exact HQ.out
            · exact HN.out q (by omega)
          case measure => simp [intOf]; omega
      · obtain rfl : j = n := by omega
        go_wp2
        go_ret
        exact ⟨_, rfl, Or.inl ⟨rfl, fun q hq => by show (!restOk (f q)) = false; rw [HN.out q hq]; rfl⟩, rfl⟩

theorem mcont_ok {w : World} {v : Value} {n : Nat} {f : Nat → Int} (h : IntsIn w v n f) (hn : n ≤ 1000) :
    Calls Tryd.prog 57 #[v, .func (.func 87) #[] #[]] w fun e w' => e = .returned (.bool (!restsOk n f)) ∧ w = w' := by
  have K := hide (midx_ok h hn)
  clear h
  go_enter Tryd.func57, Tryd.ntmps57
  go_wp2_with fail
  refine (K.out).mono ?_
  rintro e w1 ⟨i, rfl, hi, rfl⟩
  rcases hi with ⟨rfl, ha⟩ | ⟨j, rfl, hj, hq⟩
  · have e : restsOk n f = true := restsOk_iff.2 fun i hi => restOk_iff.1 (by have := ha i hi; simpa using this)
    have HE := hide e
    clear e ha
    go_wp2
    go_ret
    exact ⟨ret_bool (by rw [HE.out]; rfl), rfl⟩
  · have e : restsOk n f = false := by
      rw [← Bool.not_eq_true, restsOk_iff]
      intro hall
      have h9 := restOk_iff.2 (hall j hj)
      simp [h9] at hq
    have HE := hide e
    clear e hq
    go_wp2
    go_ret
    exact ⟨ret_bool (by rw [HE.out]; rfl), rfl⟩
end Go.Proofs.YtjhflcgphejddaaDoor

namespace Go.Proofs.YtjhflcgphejddaaDoor
open Go.RowKit
set_option linter.unusedVariables false
set_option maxRecDepth 100000

theorem mvOk_two {x y : Int} : mvOk x y = (nearOk x && nearOk y) := rfl

set_option maxHeartbeats 1000000 in
theorem mcheck_ok {w : World} {v : Value} {n : Nat} {f : Nat → Int} (al : Bool) (x y m : Int) (h : IntsIn w v n f) (hm : m ≤ 1000) :
    Calls Tryd.prog 66 #[.agg #[.bool al, .int .i64 x, .int .i64 y, v], .int .i64 m] w fun e w' => e = .returned (errN (chkF al x y n f m)) ∧ Below w.heap.size w w' := by
  obtain ⟨W1, hW1⟩ : ∃ W1, W1 = w.alloc (.cells #[.bool al, .int .i64 x, .int .i64 y, v] 40) := ⟨_, rfl⟩
  have b1 : Below w.heap.size w W1 := hW1 ▸ (Below.refl _ _).alloc (Nat.le_refl _) _
  have P1 : CodIn W1 w.heap.size al x y v := hW1 ▸ codIn_new w al x y v
  obtain ⟨c0, c1, c2, c3, _, _, _, _⟩ := P1
  have B1 := hide b1
  have HI := hide (h.below b1)
  have S1 := hide (mnear_ok x)
  have S2 := hide (mnear_ok y)
  have HD : Hid (chkF al x y n f m = if al = true then 3 else if (nearOk x && nearOk y) = false then 1 else restsF n f m) := rfl
  obtain ⟨ad, cap, rfl⟩ := slice_shape h
  subst hW1
  clear h b1
  cases al with
  | true =>
    have HE : Hid (chkF true x y n f m = 3) := HD.out
    clear HD
    go_enter Tryd.func66, Tryd.ntmps66
    go_wp2
    go_ret
    exact ⟨by rw [HE.out]; rfl, B1.out⟩
  | false =>
    rw [if_neg (by simp)] at HD
    cases h1 : nearOk x with
    | false =>
      rw [h1] at S1
      have HE : Hid (chkF false x y n f m = 1) := by unfold Hid; rw [HD.out, h1, Bool.false_and, if_pos rfl]
      clear HD h1
      go_enter Tryd.func66, Tryd.ntmps66
      go_wp2_with fail
      refine (S1.out _).mono ?_
      rintro e w2 ⟨rfl, rfl⟩
      go_wp2
      go_ret
      exact ⟨by rw [HE.out]; rfl, B1.out⟩
    | true =>
      rw [h1] at S1
      cases h2 : nearOk y with
      | false =>
        rw [h2] at S2
        have HE : Hid (chkF false x y n f m = 1) := by unfold Hid; rw [HD.out, h2, Bool.and_false, if_pos rfl]
        clear HD h1 h2
        go_enter Tryd.func66, Tryd.ntmps66
        go_wp2_with fail
        refine (S1.out _).mono ?_
        rintro e w2 ⟨rfl, rfl⟩
        go_wp2_with fail
        refine (S2.out _).mono ?_
        rintro e w2 ⟨rfl, rfl⟩
        go_wp2
        go_ret
        exact ⟨by rw [HE.out]; rfl, B1.out⟩
      | true =>
        rw [h2] at S2
        rw [h1, h2, Bool.and_true, if_neg (by simp)] at HD
        have HR : Hid (restsF n f m = if (n : Int) ≠ m then 3 else if restsOk n f = false then 1 else 0) := rfl
        clear h1 h2
        by_cases hne : (n : Int) = m
        · subst hne
          have C := hide (mcont_ok HI.out (by omega))
          rw [if_neg (by simp)] at HR
          cases h3 : restsOk n f with
          | false =>
            rw [h3] at C
            have HE : Hid (chkF false x y n f n = 1) := by unfold Hid; rw [HD.out, HR.out, h3, if_pos rfl]
            clear HD HR h3
            go_enter Tryd.func66, Tryd.ntmps66
            go_wp2_with fail
            refine (S1.out _).mono ?_
            rintro e w2 ⟨rfl, rfl⟩
            go_wp2_with fail
            refine (S2.out _).mono ?_
            rintro e w2 ⟨rfl, rfl⟩
            go_wp2_with fail
            refine (C.out).mono ?_
            rintro e w2 ⟨rfl, rfl⟩
            go_wp2
            go_ret
            exact ⟨by rw [HE.out]; rfl, B1.out⟩
          | true =>
            rw [h3] at C
            have HE : Hid (chkF false x y n f n = 0) := by unfold Hid; rw [HD.out, HR.out, h3, if_neg (by simp)]
            clear HD HR h3
            go_enter Tryd.func66, Tryd.ntmps66
            go_wp2_with fail
            refine (S1.out _).mono ?_
            rintro e w2 ⟨rfl, rfl⟩
            go_wp2_with fail
            refine (S2.out _).mono ?_
            rintro e w2 ⟨rfl, rfl⟩
            go_wp2_with fail
            refine (C.out).mono ?_
            rintro e w2 ⟨rfl, rfl⟩
            go_wp2
            go_ret
            exact ⟨by rw [HE.out]; rfl, B1.out⟩
        · have hn1 : ((n : Int) == m) = false := by rw [beq_eq_false_iff_ne]; exact hne
          have hn3 : ((n : Int) != m) = true := by simp [bne, hn1]
          have HE : Hid (chkF false x y n f m = 3) := by unfold Hid; rw [HD.out, HR.out, if_pos hne]
          clear HD HR hne
          go_enter Tryd.func66, Tryd.ntmps66
          go_wp2_with fail
          refine (S1.out _).mono ?_
          rintro e w2 ⟨rfl, rfl⟩
          go_wp2_with fail
          refine (S2.out _).mono ?_
          rintro e w2 ⟨rfl, rfl⟩
          go_wp2
          go_ret
          exact ⟨by rw [HE.out]; rfl, B1.out⟩
end Go.Proofs.YtjhflcgphejddaaDoor

namespace Go.Proofs.YtjhflcgphejddaaDoor
open Go.RowKit
set_option linter.unusedVariables false
set_option maxRecDepth 100000

theorem pfar_ok (n : Int) (w : World) : Calls Tryd.prog 89 #[.int .i64 n] w fun e w' => e = .returned (.bool (farOk n)) ∧ w = w' := by
  rcases Int.lt_or_le n (-6) with h | h
  · go_enter Tryd.func89, Tryd.ntmps89
    go_wp2
    go_ret
    exact ⟨ret_bool (farOk_not.2 (Or.inl h)).symm, rfl⟩
  · rcases Int.lt_or_le 6 n with k | k
    · go_enter Tryd.func89, Tryd.ntmps89
      go_wp2
      go_ret
      exact ⟨ret_bool (by first | exact (farOk_not.2 (Or.inr k)).symm | (rw [Bool.eq_iff_iff, farOk_iff, decide_eq_true_iff]; omega)), rfl⟩
    · go_enter Tryd.func89, Tryd.ntmps89
      go_wp2
      go_ret
      exact ⟨ret_bool (farOk_iff.2 ⟨h, k⟩).symm, rfl⟩
end Go.Proofs.YtjhflcgphejddaaDoor
