/-
  Lemmas for the law above, joined into one text (FlD, MvE, MvI). No statement is proved here.
-/
import Derived.Test.YtfgcngjggdjcjaaTG12
import Derived.Test.YtfgcngjggdjcjaaTG15
import Derived.Deep.DeepCutAuto
import Derived.Test.YtfgcngjggdjcjaaTG6
import Derived.Test.YtfgcngjggdjcjaaTG2
import Derived.Test.YtfgcngjggdjcjaaTG7
namespace Go.Proofs.Ytfgcngjggdjcjaa
open Go.RowKit Go.Maps
set_option linter.unusedVariables false
set_option maxRecDepth 100000

set_option maxHeartbeats 4000000 in
theorem fcode_al {w : World} {s : Value} {n : Nat} {f : Nat → Int} {a b : Int} {A B : Nat} (qa qb : Int) (qd : Option Addr) (qn qc : Nat) (st : Int) (h : IntsIn w s n f) (o : PicOk a b n f A B) (s1 : 1 ≤ st) (s2 : st ≤ 64) :
    Calls Try.prog 15 #[.agg #[.int .i64 qa, .int .i64 qb, .slice qd qn qc], .agg #[.int .i64 a, .int .i64 b, s], .bool true, .int .i64 st] w fun e w' => ∃ ad cp, e = .returned (.tuple #[.agg #[.bool true, .int .i64 0, .int .i64 0, .slice ad n cp], .nilIface]) ∧ IntsIn w' (.slice ad n cp) n (restF A st (byPix st f)) ∧ Below w.heap.size w w' ∧ ∀ k, (Value.slice ad n cp).ownBlock = some k → w.heap.size ≤ k := by
  obtain ⟨W1, hW1⟩ : ∃ W1, W1 = w.alloc (.cells #[.int .i64 qa, .int .i64 qb, .slice qd qn qc] 25) := ⟨_, rfl⟩
  obtain ⟨W2, hW2⟩ : ∃ W2, W2 = W1.alloc (.cells #[.int .i64 a, .int .i64 b, s] 25) := ⟨_, rfl⟩
  obtain ⟨W3, hW3⟩ : ∃ W3, W3 = W2.alloc (.cells #[.bool false, .int .i64 0, .int .i64 0, .slice none 0 0] 36) := ⟨_, rfl⟩
  have b1 : Below w.heap.size w W1 := hW1 ▸ (Below.refl _ _).alloc (Nat.le_refl _) _
  have b12 : Below W1.heap.size W1 W2 := hW2 ▸ (Below.refl _ _).alloc (Nat.le_refl _) _
  have b23 : Below W2.heap.size W2 W3 := hW3 ▸ (Below.refl _ _).alloc (Nat.le_refl _) _
  have b3 := below_two (below_two b1 b12) b23
  have z1 : W1.heap.size = w.heap.size + 1 := by rw [hW1]; simp
  have z2 : W2.heap.size = w.heap.size + 1 + 1 := by rw [hW2]; simp [z1]
  have z3 : W3.heap.size = w.heap.size + 1 + 1 + 1 := by rw [hW3]; simp [z2]
  have p2 : PicIn W3 (w.heap.size + 1) a b s := by
    have := picIn_new W1 a b s
    rw [← hW2, z1] at this
    exact this.below b23
  have p3 : CodIn W3 (w.heap.size + 1 + 1) false 0 0 (.slice none 0 0) := by
    have := codIn_new W2 false 0 0 (.slice none 0 0)
    rw [← hW3, z2] at this
    exact this
  have B3 := hide b3
  have P3 := hide p3
  have Z3 := hide z3
  have K := hide (aenc_ok (h.below b3) o s1 s2)
  obtain ⟨ads, caps, rfl⟩ := slice_shape h
  obtain ⟨⟨c0, _⟩, ⟨c1, _⟩, c2, _⟩ := p2
  generalize restF A st (byPix st f) = R at *
  clear h b1 b12 b23 b3 z1 z2 z3 p3 o
  subst hW3
  subst hW2
  subst hW1
  go_enter Try.func15, Try.ntmps15
  go_wp2_with fail
  refine (K.out).mono ?_
  rintro e w2 ⟨u, rfl, hi, hb, hn⟩
  obtain ⟨ad, cp, rfl⟩ := slice_shape hi
  have hp := P3.out.below hb
  have HP := hide (hp.put true 0 0 (.slice ad n cp))
  obtain ⟨k0, k1, k2, k3, g0, g1, g2, g3⟩ := hp
  have hz := Z3.out
  have hne : ∀ k, (Value.slice ad n cp).ownBlock = some k → k ≠ w.heap.size + 1 + 1 := fun k e => by have := hn k e; omega
  have HI := hide (ints_set (o := 3) (ints_set (o := 2) (ints_set (o := 1) (ints_set (o := 0) hi hne (.bool true)) hne (.int .i64 0)) hne (.int .i64 0)) hne (.slice ad n cp))
  have HB := hide (((((below_two B3.out hb).setCell (p := ⟨w.heap.size + 1 + 1, 0, none⟩) (by show w.heap.size ≤ w.heap.size + 1 + 1; omega) (.bool true)).setCell (p := ⟨w.heap.size + 1 + 1, 1, none⟩) (by show w.heap.size ≤ w.heap.size + 1 + 1; omega) (.int .i64 0)).setCell (p := ⟨w.heap.size + 1 + 1, 2, none⟩) (by show w.heap.size ≤ w.heap.size + 1 + 1; omega) (.int .i64 0)).setCell (p := ⟨w.heap.size + 1 + 1, 3, none⟩) (by show w.heap.size ≤ w.heap.size + 1 + 1; omega) (.slice ad n cp))
  have HN : Hid (∀ k, (Value.slice ad n cp).ownBlock = some k → w.heap.size ≤ k) := fun k e => by have := hn k e; omega
  clear hi hb hn hne hz K c0 c1 c2
  go_wp2
  obtain ⟨q0, q1, q2, q3, _, _, _, _⟩ := HP.out
  refine bodyPost_ret (v := .tuple #[.agg #[.bool true, .int .i64 0, .int .i64 0, .slice ad n cp], .nilIface]) (by simp [results, Try.results15, go_sem, q0, q1, q2, q3]) rfl ⟨ad, cp, rfl, HI.out, HB.out, HN.out⟩

set_option maxHeartbeats 4000000 in
theorem fcode_mv {w : World} {s s' : Value} {n : Nat} {f f' : Nat → Int} {a b a' b' : Int} {A B : Nat} (st : Int) (h : IntsIn w s n f) (h' : IntsIn w s' n f') (o : PicOk a b n f A B) (o' : PicOk a' b' n f' A B) (s1 : 1 ≤ st) (s2 : st ≤ 64) :
    Calls Try.prog 15 #[.agg #[.int .i64 a, .int .i64 b, s], .agg #[.int .i64 a', .int .i64 b', s'], .bool false, .int .i64 st] w fun e w' => ∃ ad cp, e = .returned (.tuple #[.agg #[.bool false, .int .i64 (bsX A B f f' n), .int .i64 (bsY A B f f' n), .slice ad n cp], .nilIface]) ∧ IntsIn w' (.slice ad n cp) n (mrF A B f f' n st) ∧ Below w.heap.size w w' ∧ ∀ k, (Value.slice ad n cp).ownBlock = some k → w.heap.size ≤ k := by
  obtain ⟨W1, hW1⟩ : ∃ W1, W1 = w.alloc (.cells #[.int .i64 a, .int .i64 b, s] 25) := ⟨_, rfl⟩
  obtain ⟨W2, hW2⟩ : ∃ W2, W2 = W1.alloc (.cells #[.int .i64 a', .int .i64 b', s'] 25) := ⟨_, rfl⟩
  obtain ⟨W3, hW3⟩ : ∃ W3, W3 = W2.alloc (.cells #[.bool false, .int .i64 0, .int .i64 0, .slice none 0 0] 36) := ⟨_, rfl⟩
  have b1 : Below w.heap.size w W1 := hW1 ▸ (Below.refl _ _).alloc (Nat.le_refl _) _
  have b12 : Below W1.heap.size W1 W2 := hW2 ▸ (Below.refl _ _).alloc (Nat.le_refl _) _
  have b23 : Below W2.heap.size W2 W3 := hW3 ▸ (Below.refl _ _).alloc (Nat.le_refl _) _
  have b3 := below_two (below_two b1 b12) b23
  have z1 : W1.heap.size = w.heap.size + 1 := by rw [hW1]; simp
  have z2 : W2.heap.size = w.heap.size + 1 + 1 := by rw [hW2]; simp [z1]
  have z3 : W3.heap.size = w.heap.size + 1 + 1 + 1 := by rw [hW3]; simp [z2]
  have p1 : PicIn W3 w.heap.size a b s := PicIn.below (hW1 ▸ picIn_new w a b s) (below_two b12 b23)
  have p2 : PicIn W3 (w.heap.size + 1) a' b' s' := by
    have := picIn_new W1 a' b' s'
    rw [← hW2, z1] at this
    exact this.below b23
  have p3 : CodIn W3 (w.heap.size + 1 + 1) false 0 0 (.slice none 0 0) := by
    have := codIn_new W2 false 0 0 (.slice none 0 0)
    rw [← hW3, z2] at this
    exact this
  have B3 := hide b3
  have P3 := hide p3
  have Z3 := hide z3
  have K := hide (menc_walk st (h.below b3) (h'.below b3) o o')
  have HS := hide (stepOk_iff.2 ⟨s1, s2⟩)
  obtain ⟨ads, caps, rfl⟩ := slice_shape h
  obtain ⟨ads', caps', rfl⟩ := slice_shape h'
  obtain ⟨⟨c0, _⟩, ⟨c1, _⟩, c2, _⟩ := p1
  obtain ⟨⟨d0, _⟩, ⟨d1, _⟩, d2, _⟩ := p2
  generalize mrF A B f f' n st = R at *
  generalize bsX A B f f' n = X at *
  generalize bsY A B f f' n = Y at *
  clear h h' b1 b12 b23 b3 z1 z2 z3 p3 o o'
  subst hW3
  subst hW2
  subst hW1
  go_enter Try.func15, Try.ntmps15
  go_wp2_with fail
  refine (K.out).mono ?_
  rintro e w2 ⟨⟨hgood, _⟩, hb⟩
  obtain ⟨u, rfl, hi, hn⟩ := hgood HS.out
  obtain ⟨ad, cp, rfl⟩ := slice_shape hi
  have hp := P3.out.below hb
  have HP := hide (hp.put false X Y (.slice ad n cp))
  obtain ⟨k0, k1, k2, k3, g0, g1, g2, g3⟩ := hp
  have hz := Z3.out
  have hne : ∀ k, (Value.slice ad n cp).ownBlock = some k → k ≠ w.heap.size + 1 + 1 := fun k e => by have := hn k e; omega
  have HI := hide (ints_set (o := 3) (ints_set (o := 2) (ints_set (o := 1) (ints_set (o := 0) hi hne (.bool false)) hne (.int .i64 X)) hne (.int .i64 Y)) hne (.slice ad n cp))
  have HB := hide (((((below_two B3.out hb).setCell (p := ⟨w.heap.size + 1 + 1, 0, none⟩) (by show w.heap.size ≤ w.heap.size + 1 + 1; omega) (.bool false)).setCell (p := ⟨w.heap.size + 1 + 1, 1, none⟩) (by show w.heap.size ≤ w.heap.size + 1 + 1; omega) (.int .i64 X)).setCell (p := ⟨w.heap.size + 1 + 1, 2, none⟩) (by show w.heap.size ≤ w.heap.size + 1 + 1; omega) (.int .i64 Y)).setCell (p := ⟨w.heap.size + 1 + 1, 3, none⟩) (by show w.heap.size ≤ w.heap.size + 1 + 1; omega) (.slice ad n cp))
  have HN : Hid (∀ k, (Value.slice ad n cp).ownBlock = some k → w.heap.size ≤ k) := fun k e => by have := hn k e; omega
  clear hi hb hn hne hz K c0 c1 c2 d0 d1 d2 hgood
  go_wp2
  obtain ⟨q0, q1, q2, q3, _, _, _, _⟩ := HP.out
  refine bodyPost_ret (v := .tuple #[.agg #[.bool false, .int .i64 X, .int .i64 Y, .slice ad n cp], .nilIface]) (by simp [results, Try.results15, go_sem, q0, q1, q2, q3]) rfl ⟨ad, cp, rfl, HI.out, HB.out, HN.out⟩
end Go.Proofs.Ytfgcngjggdjcjaa

namespace Go.Proofs.Ytfgcngjggdjcjaa
open Go.RowKit
set_option linter.unusedVariables false
set_option maxRecDepth 100000

def nearOk (n : Int) : Bool := decide (-1 ≤ n) && decide (n ≤ 1)
theorem nearOk_iff {n : Int} : nearOk n = true ↔ -1 ≤ n ∧ n ≤ 1 := by simp [nearOk]
theorem nearOk_not {n : Int} : nearOk n = false ↔ n < -1 ∨ 1 < n := by rw [← Bool.not_eq_true, nearOk_iff]; omega

theorem mnear_ok (n : Int) (w : World) : Calls Try.prog 46 #[.int .i64 n] w fun e w' => e = .returned (.bool (nearOk n)) ∧ w = w' := by
  rcases Int.lt_or_le n (-1) with h | h
  · go_enter Try.func46, Try.ntmps46
    go_wp2
    go_ret
    exact ⟨ret_bool (nearOk_not.2 (Or.inl h)).symm, rfl⟩
  · rcases Int.lt_or_le 1 n with k | k
    · go_enter Try.func46, Try.ntmps46
      go_wp2
      go_ret
      exact ⟨ret_bool (by first | exact (nearOk_not.2 (Or.inr k)).symm | (rw [Bool.eq_iff_iff, nearOk_iff, decide_eq_true_iff]; omega)), rfl⟩
    · go_enter Try.func46, Try.ntmps46
      go_wp2
      go_ret
      exact ⟨ret_bool (nearOk_iff.2 ⟨h, k⟩).symm, rfl⟩
theorem mstep_ok (n : Int) (w : World) : Calls Try.prog 37 #[.int .i64 n] w fun e w' => e = .returned (.bool (stepOk n)) ∧ w = w' := by
  rcases Int.lt_or_le n 1 with h | h
  · go_enter Try.func37, Try.ntmps37
    go_wp2
    go_ret
    exact ⟨ret_bool (stepOk_not.2 (Or.inl h)).symm, rfl⟩
  · rcases Int.lt_or_le 64 n with k | k
    · go_enter Try.func37, Try.ntmps37
      go_wp2
      go_ret
      exact ⟨ret_bool (by first | exact (stepOk_not.2 (Or.inr k)).symm | (rw [Bool.eq_iff_iff, stepOk_iff, decide_eq_true_iff]; omega)), rfl⟩
    · go_enter Try.func37, Try.ntmps37
      go_wp2
      go_ret
      exact ⟨ret_bool (stepOk_iff.2 ⟨h, k⟩).symm, rfl⟩
theorem mrest_ok (n : Int) (w : World) : Calls Try.prog 48 #[.int .i64 n] w fun e w' => e = .returned (.bool (restOk n)) ∧ w = w' := by
  rcases Int.lt_or_le n (-255) with h | h
  · go_enter Try.func48, Try.ntmps48
    go_wp2
    go_ret
    exact ⟨ret_bool (restOk_not.2 (Or.inl h)).symm, rfl⟩
  · rcases Int.lt_or_le 255 n with k | k
    · go_enter Try.func48, Try.ntmps48
      go_wp2
      go_ret
      exact ⟨ret_bool (by first | exact (restOk_not.2 (Or.inr k)).symm | (rw [Bool.eq_iff_iff, restOk_iff, decide_eq_true_iff]; omega)), rfl⟩
    · go_enter Try.func48, Try.ntmps48
      go_wp2
      go_ret
      exact ⟨ret_bool (restOk_iff.2 ⟨h, k⟩).symm, rfl⟩
end Go.Proofs.Ytfgcngjggdjcjaa

namespace Go.Proofs.Ytfgcngjggdjcjaa
open Go.RowKit
set_option linter.unusedVariables false
set_option maxRecDepth 100000

theorem mnot_ok (n : Int) (w : World) : Calls Try.prog 47 #[.int .i64 n] w fun e w' => e = .returned (.bool (!restOk n)) ∧ w = w' := by
  have K := hide (mrest_ok n w)
  go_enter Try.func47, Try.ntmps47
  go_wp2_with fail
  refine (K.out).mono ?_
  rintro e w1 ⟨rfl, rfl⟩
  go_wp2
  go_ret
  exact ⟨rfl, rfl⟩

set_option maxHeartbeats 1000000 in
theorem midx_ok {w : World} {v : Value} {n : Nat} {f : Nat → Int} (h : IntsIn w v n f) (hn : n ≤ 1000) :
    Calls Try.prog 42 #[v, .func (.func 47) #[] #[]] w fun e w' => ∃ i : Int, e = .returned (.int .i64 i) ∧ IsAt (fun j => !restOk (f j)) n i ∧ w = w' := by
  rcases h with ⟨rfl, a, cap, rfl⟩ | ⟨h0, b, o, cap, rfl, hc⟩
  · go_enter Try.func42, Try.ntmps42
    go_wp2
    go_loop [8] (fun i => i = .int .i64 0) (fun _ => 0)
    case atStart => rfl
    case round =>
      obtain rfl := hrel
      go_wp2
      go_ret
      exact ⟨_, rfl, Or.inl ⟨rfl, fun j hj => absurd hj (Nat.not_lt_zero _)⟩, rfl⟩
  · have HC := hide hc
    clear hc
    go_enter Try.func42, Try.ntmps42
    go_wp2
    go_loop [5, 8] (fun _ i => ∃ j : Nat, j ≤ n ∧ i = .int .i64 j ∧ ∀ q, q < j → restOk (f q) = true) (fun _ i => n - (intOf i).toNat)
    case atStart => exact ⟨0, Nat.zero_le _, rfl, fun q hq => absurd hq (Nat.not_lt_zero _)⟩
    case round =>
      obtain ⟨j, hj, rfl, hno⟩ := hrel
      have HN := hide hno
      clear hno
      by_cases hlt : j < n
      · have hc := HC.out j hlt
        have K := hide (mnot_ok (f j) w)
        generalize hx : f j = x at *
        have HX := hide hx
        clear hx
        cases hq : restOk x with
        | false =>
          have HQ := hide hq
          rw [hq] at K
          clear hq
          go_wp2_with (go_at_call 47; refine (K.out).mono ?_; rintro e w1 ⟨rfl, rfl⟩)
          go_ret
          exact ⟨_, rfl, Or.inr ⟨j, rfl, hlt, by show (!restOk (f j)) = true; rw [HX.out, HQ.out]; rfl⟩, rfl⟩
        | true =>
          have HQ := hide hq
          rw [hq] at K
          clear hq
          go_wp2_with (go_at_call 47; refine (K.out).mono ?_; rintro e w1 ⟨rfl, rfl⟩)
          go_round
          case rel =>
            refine ⟨j + 1, by omega, by go_num, fun q hq => ?_⟩
            by_cases c : q = j
            · rw [c, HX.out]; exact HQ.out
            · exact HN.out q (by omega)
          case measure => simp [intOf]; omega
      · obtain rfl : j = n := by omega
        go_wp2
        go_ret
        exact ⟨_, rfl, Or.inl ⟨rfl, fun q hq => by show (!restOk (f q)) = false; rw [HN.out q hq]; rfl⟩, rfl⟩

theorem mcont_ok {w : World} {v : Value} {n : Nat} {f : Nat → Int} (h : IntsIn w v n f) (hn : n ≤ 1000) :
    Calls Try.prog 25 #[v, .func (.func 47) #[] #[]] w fun e w' => e = .returned (.bool (!restsOk n f)) ∧ w = w' := by
  have K := hide (midx_ok h hn)
  clear h
  go_enter Try.func25, Try.ntmps25
  go_wp2_with fail
  refine (K.out).mono ?_
  rintro e w1 ⟨i, rfl, hi, rfl⟩
  rcases hi with ⟨rfl, ha⟩ | ⟨j, rfl, hj, hq⟩
  · have e : restsOk n f = true := restsOk_iff.2 fun i hi => restOk_iff.1 (by have := ha i hi; simpa using this)
    have HE := hide e
    clear e ha
    go_wp2
    go_ret
    exact ⟨ret_bool (by rw [HE.out]; rfl), rfl⟩
  · have e : restsOk n f = false := by
      rw [← Bool.not_eq_true, restsOk_iff]
      intro hall
      have h9 := restOk_iff.2 (hall j hj)
      simp [h9] at hq
    have HE := hide e
    clear e hq
    go_wp2
    go_ret
    exact ⟨ret_bool (by rw [HE.out]; rfl), rfl⟩
end Go.Proofs.Ytfgcngjggdjcjaa
