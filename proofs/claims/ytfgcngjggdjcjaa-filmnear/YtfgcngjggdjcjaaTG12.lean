/-
  Lemmas for the law above, joined into one text (AlD, AlC, MvA). No statement is proved here.
-/
import Derived.Test.YtfgcngjggdjcjaaTG9
import Derived.Test.YtfgcngjggdjcjaaTG10
import Derived.Test.YtfgcngjggdjcjaaTG6
import Derived.Test.YtfgcngjggdjcjaaTG11
import Derived.Laws.MakeOwn
import Derived.Maps.AppendAt
import Derived.Test.YtfgcngjggdjcjaaTG7
import Derived.Deep.DeepCutAuto
import Derived.Test.YtfgcngjggdjcjaaTG3
import Derived.Laws.Cover1
namespace Go.Proofs.Ytfgcngjggdjcjaa
open Go.RowKit Go.Maps
set_option linter.unusedVariables false
set_option maxRecDepth 100000

set_option maxHeartbeats 1000000 in
theorem adec_bad {w : World} {v : Value} {n : Nat} {f : Nat → Int} (a b s : Int) (h : IntsIn w v n f) (hx : decF a b s n f ≠ 0) :
    Calls Try.prog 24 #[.int .i64 a, .int .i64 b, .int .i64 s, v] w fun e w' => e = .returned (.tuple #[.agg #[.int .i64 0, .int .i64 0, .slice none 0 0], errN (decF a b s n f)]) ∧ Below w.heap.size w w' := by
  have p1 := picIn_new w 0 0 (.slice none 0 0)
  have b1 : Below w.heap.size w (w.alloc (.cells #[.int .i64 0, .int .i64 0, .slice none 0 0] 25)) := (Below.refl _ _).alloc (Nat.le_refl _) _
  obtain ⟨⟨c0, g0⟩, ⟨c1, g1⟩, c2, g2⟩ := p1
  have HB := hide b1
  have HI := hide (h.below b1)
  obtain ⟨ad, cap, rfl⟩ := slice_shape h
  have S := hide (fun x w => aside_ok x w)
  have K := hide (fun x w => astep_ok x w)
  have HD : Hid (decF a b s n f = if ((sideOk a && sideOk b) && stepOk s) = false then 1 else if (n : Int) ≠ a * b then 3 else if restsOk n f = false then 1 else 0) := by
    unfold Hid decF restsF; rw [sides_two]
  clear h b1
  cases h1 : sideOk a with
  | false =>
    have S1 := hide (S.out a)
    rw [h1] at S1
    have HE : Hid (decF a b s n f = 1) := by unfold Hid; rw [HD.out, h1, Bool.false_and, Bool.false_and, if_pos rfl]
    clear h1 S HD hx
    go_enter Try.func24, Try.ntmps24
    go_wp2_with fail
    refine (S1.out _).mono ?_
    rintro e w2 ⟨rfl, rfl⟩
    go_wp2
    refine bodyPost_ret (v := .tuple #[.agg #[.int .i64 0, .int .i64 0, .slice none 0 0], .iface 44 (.int .i64 1)]) (by simp [results, Try.results24, go_sem, c0, c1, c2]) rfl ⟨by rw [HE.out]; rfl, ?_⟩
    first
      | exact HB.out
      | exact (((HB.out.setCell (Nat.le_refl _) _).setCell (Nat.le_refl _) _).setCell (Nat.le_refl _) _)
  | true =>
    have S1 := hide (S.out a)
    rw [h1] at S1
    cases h2 : sideOk b with
    | false =>
      have S2 := hide (S.out b)
      rw [h2] at S2
      have HE : Hid (decF a b s n f = 1) := by unfold Hid; rw [HD.out, h1, h2, Bool.and_false, Bool.false_and, if_pos rfl]
      clear h1 h2 S HD hx
      go_enter Try.func24, Try.ntmps24
      go_wp2_with fail
      refine (S1.out _).mono ?_
      rintro e w2 ⟨rfl, rfl⟩
      go_wp2_with fail
      refine (S2.out _).mono ?_
      rintro e w2 ⟨rfl, rfl⟩
      go_wp2
      refine bodyPost_ret (v := .tuple #[.agg #[.int .i64 0, .int .i64 0, .slice none 0 0], .iface 44 (.int .i64 1)]) (by simp [results, Try.results24, go_sem, c0, c1, c2]) rfl ⟨by rw [HE.out]; rfl, ?_⟩
      first
        | exact HB.out
        | exact (((HB.out.setCell (Nat.le_refl _) _).setCell (Nat.le_refl _) _).setCell (Nat.le_refl _) _)
    | true =>
      have S2 := hide (S.out b)
      rw [h2] at S2
      cases h3 : stepOk s with
      | false =>
        have S3 := hide (K.out s)
        rw [h3] at S3
        have HE : Hid (decF a b s n f = 1) := by unfold Hid; rw [HD.out, h3, Bool.and_false, if_pos rfl]
        clear h1 h2 h3 S K HD hx
        go_enter Try.func24, Try.ntmps24
        go_wp2_with fail
        refine (S1.out _).mono ?_
        rintro e w2 ⟨rfl, rfl⟩
        go_wp2_with fail
        refine (S2.out _).mono ?_
        rintro e w2 ⟨rfl, rfl⟩
        go_wp2_with fail
        refine (S3.out _).mono ?_
        rintro e w2 ⟨rfl, rfl⟩
        go_wp2
        refine bodyPost_ret (v := .tuple #[.agg #[.int .i64 0, .int .i64 0, .slice none 0 0], .iface 44 (.int .i64 1)]) (by simp [results, Try.results24, go_sem, c0, c1, c2]) rfl ⟨by rw [HE.out]; rfl, ?_⟩
        first
          | exact HB.out
          | exact (((HB.out.setCell (Nat.le_refl _) _).setCell (Nat.le_refl _) _).setCell (Nat.le_refl _) _)
      | true =>
        have S3 := hide (K.out s)
        rw [h3] at S3
        have q1 := sideOk_iff.1 h1
        have q2 := sideOk_iff.1 h2
        have hp0 : 0 ≤ a * b := Int.mul_nonneg (by omega) (by omega)
        have hp1 : a * b ≤ 36 := by
          have e1 : a * b ≤ 6 * b := Int.mul_le_mul_of_nonneg_right (by omega) (by omega)
          omega
        rw [h1, h2, h3, if_neg (by simp)] at HD
        clear h1 h2 h3 S K
        by_cases hn : (n : Int) = a * b
        · have hn1 : ((n : Int) == a * b) = true := by rw [beq_iff_eq]; exact hn
          have hn3 : ((n : Int) != a * b) = false := by simp [bne, hn1]
          have hn2 : n ≤ 36 := by omega
          have C := hide (acont_ok HI.out (by omega))
          rw [if_neg (by simp [hn])] at HD
          have hq : restsOk n f = false := by
            cases hq : restsOk n f with
            | false => rfl
            | true => rw [HD.out, hq, if_neg (by simp)] at hx; exact absurd rfl hx
          rw [hq] at C
          have HE : Hid (decF a b s n f = 1) := by unfold Hid; rw [HD.out, hq, if_pos rfl]
          clear hn hq HD hx
          go_enter Try.func24, Try.ntmps24
          go_wp2_with fail
          refine (S1.out _).mono ?_
          rintro e w2 ⟨rfl, rfl⟩
          go_wp2_with fail
          refine (S2.out _).mono ?_
          rintro e w2 ⟨rfl, rfl⟩
          go_wp2_with fail
          refine (S3.out _).mono ?_
          rintro e w2 ⟨rfl, rfl⟩
          go_wp2_with fail
          refine (C.out).mono ?_
          rintro e w2 ⟨rfl, rfl⟩
          go_wp2
          refine bodyPost_ret (v := .tuple #[.agg #[.int .i64 0, .int .i64 0, .slice none 0 0], .iface 44 (.int .i64 1)]) (by simp [results, Try.results24, go_sem, c0, c1, c2]) rfl ⟨by rw [HE.out]; rfl, ?_⟩
          first
            | exact HB.out
            | exact (((HB.out.setCell (Nat.le_refl _) _).setCell (Nat.le_refl _) _).setCell (Nat.le_refl _) _)
        · have hn1 : ((n : Int) == a * b) = false := by rw [beq_eq_false_iff_ne]; exact hn
          have hn3 : ((n : Int) != a * b) = true := by simp [bne, hn1]
          have HE : Hid (decF a b s n f = 3) := by unfold Hid; rw [HD.out, if_pos hn]
          clear hn HD hx
          go_enter Try.func24, Try.ntmps24
          go_wp2_with fail
          refine (S1.out _).mono ?_
          rintro e w2 ⟨rfl, rfl⟩
          go_wp2_with fail
          refine (S2.out _).mono ?_
          rintro e w2 ⟨rfl, rfl⟩
          go_wp2_with fail
          refine (S3.out _).mono ?_
          rintro e w2 ⟨rfl, rfl⟩
          go_wp2
          refine bodyPost_ret (v := .tuple #[.agg #[.int .i64 0, .int .i64 0, .slice none 0 0], .iface 44 (.int .i64 3)]) (by simp [results, Try.results24, go_sem, c0, c1, c2]) rfl ⟨by rw [HE.out]; rfl, ?_⟩
          first
            | exact HB.out
            | exact (((HB.out.setCell (Nat.le_refl _) _).setCell (Nat.le_refl _) _).setCell (Nat.le_refl _) _)

set_option maxHeartbeats 4000000 in
theorem adec_ok {w : World} {v : Value} {n : Nat} {f : Nat → Int} {a b s : Int} {A B : Nat} (h : IntsIn w v n f) (o : DecOk a b s n f A B) :
    Calls Try.prog 24 #[.int .i64 a, .int .i64 b, .int .i64 s, v] w fun e w' => ∃ u, e = .returned (.tuple #[.agg #[.int .i64 a, .int .i64 b, u], .nilIface]) ∧ IntsIn w' u n (tellF A s fun i _ => f i) ∧ Below w.heap.size w w' ∧ ∀ g, u.ownBlock = some g → w.heap.size ≤ g := by
  obtain ⟨w1, hw1⟩ : ∃ w1, w1 = w.alloc (.cells #[.int .i64 0, .int .i64 0, .slice none 0 0] 25) := ⟨_, rfl⟩
  have b1 : Below w.heap.size w w1 := hw1 ▸ (Below.refl _ _).alloc (Nat.le_refl _) _
  have P1 : Hid (PicIn w1 w.heap.size 0 0 (.slice none 0 0)) := hide (hw1 ▸ picIn_new w _ _ _)
  have B1 := hide b1
  have HI := hide (h.below b1)
  have S1 := hide (aside_ok a w1)
  have S2 := hide (aside_ok b w1)
  have S3 := hide (astep_ok s w1)
  rw [sideOk_iff.2 (by have := o.wide; have := o.w1; have := o.w6; omega)] at S1
  rw [sideOk_iff.2 (by have := o.high; have := o.h1; have := o.h6; omega)] at S2
  rw [stepOk_iff.2 ⟨o.s1, o.s2⟩] at S3
  have C := hide (acont_ok HI.out (by have := o.le; omega))
  rw [restsOk_iff.2 o.rest] at C
  have hl := o.le
  have h0 := o.pos
  have hn : (n : Int) = a * b := by rw [o.wide, o.high, o.many, Int.natCast_mul]
  have hn1 : ((n : Int) == a * b) = true := by rw [beq_iff_eq]; exact hn
  have hn3 : ((n : Int) != a * b) = false := by simp [bne, hn1]
  have hp0 : 0 ≤ a * b := by omega
  have hp1 : a * b ≤ 36 := by omega
  have HR := hide o.rest
  have HT := hide (fun i => tellF_eq o.w1 s (fun j _ => f j) i)
  have HG := hide (fun i => gsN_in (A := A) (tellF_in o.w1 s (fun j _ => f j)) i)
  have a1 := o.w1
  have a6 := o.w6
  have s1 := o.s1
  have s2 := o.s2
  have ea := o.wide
  obtain ⟨i0, hi0, hz0, hz1, hz2⟩ := info_parts Try.infoInt
  have Hi := hide hi0
  have Hz0 := hide hz0
  have Hz1 := hide hz1
  have Hz2 := hide hz2
  obtain ⟨bb, oo, cap, rfl, hc⟩ : ∃ bb oo cap, v = .slice (some ⟨bb, oo, none⟩) n cap ∧ ∀ i, i < n → w.cell? ⟨bb, oo + i, none⟩ = some (.int .i64 (f i)) := by
    rcases h with ⟨h, _⟩ | ⟨_, b', o', c', e, hc⟩
    · omega
    · exact ⟨_, _, _, e, hc⟩
  have HC := hide hc
  obtain ⟨w2, hmk, hown, hgrow⟩ := run_make_own (P := Try.prog) w1 w1.heap.size 23 3 i0 (.int .i64 0) 1 Try.underlying23 Hi.out Hz0.out (by have := Hz1.out; simpa using this) .i64 .i64 n (by rw [Hz2.out]; omega) (by unfold maxLen; omega) (Nat.le_refl _)
  have bg : Below w1.heap.size w1 w2 := (Below.refl _ _).grown hgrow (Nat.le_refl _) (fun k hk => by cases hk)
  have hs1 : w1.heap.size = w.heap.size + 1 := by rw [hw1]; simp
  have P2 := hide (P1.out.below bg)
  have B2 := hide (below_two B1.out bg)
  rw [hs1] at hmk hown
  have HOWN := hide hown
  subst ea
  generalize hTT : tellF A s (fun j _ => f j) = T at *
  clear h o b1 hc hn hi0 hz0 hz1 hz2 bg hown hgrow hTT hs1 P1 B1
  subst hw1
  go_enter Try.func24, Try.ntmps24
  go_wp2_with fail
  refine (S1.out).mono ?_
  rintro e w3 ⟨rfl, rfl⟩
  go_wp2_with fail
  refine (S2.out).mono ?_
  rintro e w3 ⟨rfl, rfl⟩
  go_wp2_with fail
  refine (S3.out).mono ?_
  rintro e w3 ⟨rfl, rfl⟩
  go_wp2_with fail
  refine (C.out).mono ?_
  rintro e w3 ⟨rfl, rfl⟩
  go_wp2
  go_loopw [10, 45] (fun u i wr => ∃ (j : Nat) (ad : Option Addr) (cp : Nat), j ≤ n ∧ i = .int .i64 j ∧ u = .slice ad j cp ∧ wr.ownsRow (w.heap.size + 1) 3 1 u j ((List.range j).map fun k : Nat => .int .i64 (T k)) ∧ Hid (PicIn wr w.heap.size 0 0 (.slice none 0 0)) ∧ Below w.heap.size w wr) (fun _ i _ => n - (intOf i).toNat)
  case atStart => exact ⟨0, _, n, Nat.zero_le _, rfl, rfl, HOWN.out, P2, B2.out⟩
  case round =>
    obtain ⟨j, adr, cpr, hj, rfl, rfl, hX, PR, hb⟩ := hrel
    have HX := hide hX
    have HB := hide hb
    have hbig := PR.out.lt
    clear hX hb
    by_cases hlt : j < n
    · have hcj := cell_below HB.out (HC.out j hlt)
      have hr := HR.out j hlt
      have hg := HG.out j
      have K1 := hide (aguess_ok (w := wr) (own_in HX.out) a1 a6 (by omega))
      have K2 := hide (atell_ok (gsN A T j) (f j) s wr hg.1 hg.2 hr.1 hr.2 s1 s2)
      rw [← HT.out j] at K2
      have HM : Hid ((List.range (j + 1)).map (fun k : Nat => Value.int .i64 (T k)) = (List.range j).map (fun k : Nat => Value.int .i64 (T k)) ++ [.int .i64 (T j)]) := by
        unfold Hid; rw [List.range_succ, List.map_append]; rfl
      generalize gsN A T j = g at *
      generalize f j = x at *
      generalize T j = z at *
      clear hr hg
      go_wp2_with fail
      refine (K1.out).mono ?_
      rintro e w3 ⟨rfl, rfl⟩
      go_wp2_with fail
      refine (K2.out).mono ?_
      rintro e w3 ⟨rfl, rfl⟩
      have hz1' := Hz1.out
      go_wp2_with (at_builtin; refine wpList_append_lies _ rfl _ _ 23 rfl (w.heap.size + 1) 3 i0 (.int .i64 0) 1 8 Try.underlying23 Hi.out Hz0.out Hz1.out Hz2.out rfl (by decide) _ _ _ rfl (HX.out.alloc _) ⟨wr.heap.size, 0, none⟩ 1 1 [.int .i64 z] rfl rfl (cell_one_new _ _ _) (fun x hx => by simp at hx; subst hx; rfl) (by decide) (by unfold maxLen; omega) (by omega) (by simp; omega) _ rfl ?_; intro g3 cap3 w5 hown3 hgrow3 hat3 hlt3)
      go_roundw
      case rel =>
        have hB5 : Below (w.heap.size + 1) wr w5 := ((Below.refl (w.heap.size + 1) wr).alloc (by omega) _).grown hgrow3 (by simp; omega) (fun q hq => (HX.out.lt q hq).1)
        have R : j + 1 ≤ n ∧ Value.int .i64 ((j : Int) + 1) = .int .i64 ((j + 1 : Nat) : Int) ∧ Value.slice (some ⟨g3, 0, none⟩) (j + 1) cap3 = .slice (some ⟨g3, 0, none⟩) (j + 1) cap3
            ∧ w5.ownsRow (w.heap.size + 1) 3 1 (.slice (some ⟨g3, 0, none⟩) (j + 1) cap3) (j + 1) ((List.range (j + 1)).map fun k : Nat => .int .i64 (T k)) ∧ Hid (PicIn w5 w.heap.size 0 0 (.slice none 0 0)) ∧ Below w.heap.size w w5 :=
          ⟨by omega, by simp, rfl, by rw [HM.out]; exact hown3, PR.out.mono hB5 (by omega), HB.out.trans (hB5.mono (by omega))⟩
        first
          | exact ⟨j + 1, some ⟨g3, 0, none⟩, cap3, R⟩
          | ((repeat apply Exists.intro); exact ⟨⟨j + 1, some ⟨g3, 0, none⟩, cap3, R⟩, rfl⟩)
      case measure => simp [intOf]; omega
    · obtain rfl : j = n := by omega
      obtain ⟨⟨u0, g0⟩, ⟨u1, g1⟩, u2, g2⟩ := PR.out
      go_wp2
      refine bodyPost_ret (v := .tuple #[.agg #[.int .i64 A, .int .i64 b, .slice adr j cpr], .nilIface]) (by simp [results, Try.results24, go_sem, u0, u1, u2]) rfl ⟨_, rfl, ?_, ?_, fun g hg => by have := (HX.out.lt g hg).1; omega⟩
      · have hlt9 : w.heap.size < w.heap.size + 1 := by omega
        exact own_in (ownsRow_setCell_below (ownsRow_setCell_below (ownsRow_setCell_below HX.out hlt9 _) hlt9 _) hlt9 _)
      · exact ((HB.out.setCell (Nat.le_refl _) _).setCell (Nat.le_refl _) _).setCell (Nat.le_refl _) _
end Go.Proofs.Ytfgcngjggdjcjaa

namespace Go.Proofs.Ytfgcngjggdjcjaa
open Go.RowKit Go.Maps
set_option linter.unusedVariables false
set_option maxRecDepth 100000

set_option maxHeartbeats 1000000 in
theorem aenc_bad {w : World} {s : Value} {n : Nat} {f : Nat → Int} (a b st : Int) (h : IntsIn w s n f) (hx : encF a b n f st ≠ 0) :
    Calls Try.prog 22 #[.agg #[.int .i64 a, .int .i64 b, s], .int .i64 st] w fun e w' => e = .returned (.tuple #[.slice none 0 0, errN (encF a b n f st)]) ∧ Below w.heap.size w w' := by
  obtain ⟨W1, hW1⟩ : ∃ W1, W1 = w.alloc (.cells #[.int .i64 a, .int .i64 b, s] 25) := ⟨_, rfl⟩
  have b1 : Below w.heap.size w W1 := hW1 ▸ (Below.refl _ _).alloc (Nat.le_refl _) _
  have C := hide (pcheck_ok a b (h.below b1))
  have B1 := hide b1
  have HS := hide (fun w => astep_ok st w)
  subst hW1
  obtain ⟨ad, cap, rfl⟩ := slice_shape h
  clear h b1
  by_cases hp : picF a b n f = 0
  · rw [hp] at C
    have hE : encF a b n f st = if stepOk st = true then 0 else 1 := by unfold encF; rw [if_neg (by omega)]
    cases hs : stepOk st with
    | true => rw [hE, hs, if_pos rfl] at hx; exact absurd rfl hx
    | false =>
      rw [hs] at HS
      have HE : Hid (encF a b n f st = 1) := by unfold Hid; rw [hE, hs, if_neg (by simp)]
      clear hx hp hE hs
      go_enter Try.func22, Try.ntmps22
      go_wp2_with fail
      refine (C.out).mono ?_
      rintro e w1 ⟨rfl, hb1⟩
      rw [errN_zero]
      have B2 := hide (below_two B1.out hb1)
      clear hb1
      go_wp2_with fail
      refine (HS.out _).mono ?_
      rintro e w2 ⟨rfl, rfl⟩
      go_wp2
      go_ret2
      exact ⟨by rw [HE.out]; rfl, B2.out⟩
  · have HE : Hid (encF a b n f st = picF a b n f) := by unfold Hid encF; rw [if_pos hp]
    have HN := hide (errN_pos hp)
    clear hx hp HS
    generalize picF a b n f = k at *
    go_enter Try.func22, Try.ntmps22
    go_wp2_with fail
    refine (C.out).mono ?_
    rintro e w1 ⟨rfl, hb1⟩
    rw [HN.out]
    have B2 := hide (below_two B1.out hb1)
    clear hb1
    go_wp2
    go_ret2
    exact ⟨by rw [HE.out, HN.out]; rfl, B2.out⟩

set_option maxHeartbeats 4000000 in
theorem aenc_ok {w : World} {v : Value} {n : Nat} {f : Nat → Int} {a b s : Int} {A B : Nat} (h : IntsIn w v n f) (o : PicOk a b n f A B) (s1 : 1 ≤ s) (s2 : s ≤ 64) :
    Calls Try.prog 22 #[.agg #[.int .i64 a, .int .i64 b, v], .int .i64 s] w fun e w' => ∃ u, e = .returned (.tuple #[u, .nilIface]) ∧ IntsIn w' u n (restF A s (byPix s f)) ∧ Below w.heap.size w w' ∧ ∀ g, u.ownBlock = some g → w.heap.size ≤ g := by
  obtain ⟨w1, hw1⟩ : ∃ w1, w1 = w.alloc (.cells #[.int .i64 a, .int .i64 b, v] 25) := ⟨_, rfl⟩
  have b1 : Below w.heap.size w w1 := hw1 ▸ (Below.refl _ _).alloc (Nat.le_refl _) _
  have P1 : Hid (PicIn w1 w.heap.size a b v) := hide (hw1 ▸ picIn_new w _ _ _)
  have B1 := hide b1
  have C := hide (pcheck_ok a b (h.below b1))
  rw [picF_zero.2 ⟨A, B, o⟩] at C
  have S1 := hide (fun w => astep_ok s w)
  rw [stepOk_iff.2 ⟨s1, s2⟩] at S1
  have hl := o.le
  have h0 := o.pos
  have HR := hide (fun i (hi : i < n) => restF_in (f := f) o.w1 s1 (o.pix i hi))
  have HP := hide o.pix
  have HT := hide (fun i => tellF_eq o.w1 s (byPix s f) i)
  have HF : Hid (∀ i, restF A s (byPix s f) i = rnd (f i - gsN A (tellF A s (byPix s f)) i) s) := fun i => rfl
  have HF2 : Hid (∀ i, byPix s f i (gsN A (tellF A s (byPix s f)) i) = restF A s (byPix s f) i) := fun i => rfl
  have HG := hide (fun i => gsN_in (A := A) (tellF_in o.w1 s (byPix s f)) i)
  have a1 := o.w1
  have a6 := o.w6
  have ea := o.wide
  obtain ⟨i0, hi0, hz0, hz1, hz2⟩ := info_parts Try.infoInt
  have Hi := hide hi0
  have Hz0 := hide hz0
  have Hz1 := hide hz1
  have Hz2 := hide hz2
  have hmk : ∀ W : World, (Instr.makeSlice 23 (.int .i64 0) (.int .i64 (n : Int))).run Try.prog W = .ok (.slice (some ⟨W.heap.size, 0, none⟩) 0 n) (W.alloc (.cells (madeCells #[Value.int .i64 0] n) 3)) := by
    intro W
    have hr := run_make (P := Try.prog) W 23 3 i0 (.int .i64 0) Try.underlying23 hi0 hz0 .i64 .i64 0 n (Int.le_refl _) (by omega) (by rw [hz2]; omega) (by omega)
    simp only [Int.toNat_zero, Int.toNat_natCast, hz1, Nat.mul_one] at hr
    exact hr
  obtain ⟨bb, oo, cap, rfl, hc⟩ : ∃ bb oo cap, v = .slice (some ⟨bb, oo, none⟩) n cap ∧ ∀ i, i < n → w.cell? ⟨bb, oo + i, none⟩ = some (.int .i64 (f i)) := by
    rcases h with ⟨h, _⟩ | ⟨_, b', o', c', e, hc⟩
    · omega
    · exact ⟨_, _, _, e, hc⟩
  have HC := hide hc
  subst ea
  generalize hTT : tellF A s (byPix s f) = T at *
  generalize hRR : restF A s (byPix s f) = R at *
  clear h o b1 hc hi0 hz0 hz1 hz2 hTT hRR
  subst hw1
  go_enter Try.func22, Try.ntmps22
  go_wp2_with fail
  refine (C.out).mono ?_
  rintro e w2 ⟨rfl, hb2⟩
  rw [errN_zero]
  have P2 := hide (P1.out.below hb2)
  have B2 := hide (below_two B1.out hb2)
  obtain ⟨⟨c0, _⟩, ⟨c1, _⟩, c2, _⟩ := P2.out
  clear hb2 P1 B1
  go_wp2_with fail
  refine (S1.out _).mono ?_
  rintro e w3 ⟨rfl, rfl⟩
  go_upto_region 6 with fail
  go_cut [7, 8] (fun x y wx => ∃ (g h : Nat), x = .slice (some ⟨g, 0, none⟩) 0 n ∧ y = .slice (some ⟨h, 0, none⟩) 0 n ∧ g ≠ h ∧ Hid (wx.ownsRow w2.heap.size 3 1 (.slice (some ⟨g, 0, none⟩) 0 n) 0 []) ∧ Hid (wx.ownsRow w2.heap.size 3 1 (.slice (some ⟨h, 0, none⟩) 0 n) 0 []) ∧ Hid (Below w2.heap.size w2 wx))
  case first =>
    have hca : ∀ o, (w2.alloc o).cell? ⟨w.heap.size, 2, none⟩ = some (.slice (some ⟨bb, oo, none⟩) n cap) := fun o => cell_below ((Below.refl _ w2).alloc (Nat.le_refl _) o) c2
    have hs0 : (madeCells #[Value.int .i64 0] n).size = n * 1 := by rw [Nat.mul_one]; exact size_madeCells _ _
    have O1 := World.ownsRow_made (base := w2.heap.size) (e := 3) (size := 1) w2 (madeCells #[Value.int .i64 0] n) n (Nat.le_refl _) (by unfold maxLen; omega) hs0
    have O2 := World.ownsRow_made (base := w2.heap.size) (e := 3) (size := 1) (w2.alloc (.cells (madeCells #[Value.int .i64 0] n) 3)) (madeCells #[Value.int .i64 0] n) n (by simp) (by unfold maxLen; omega) hs0
    have bA : Below w2.heap.size w2 ((w2.alloc (.cells (madeCells #[Value.int .i64 0] n) 3)).alloc (.cells (madeCells #[Value.int .i64 0] n) 3)).drew := (((Below.refl _ w2).alloc (Nat.le_refl _) _).alloc (by simp) _).drew
    have bB : Below (w2.alloc (.cells (madeCells #[Value.int .i64 0] n) 3)).heap.size (w2.alloc (.cells (madeCells #[Value.int .i64 0] n) 3)) ((w2.alloc (.cells (madeCells #[Value.int .i64 0] n) 3)).alloc (.cells (madeCells #[Value.int .i64 0] n) 3)).drew := ((Below.refl _ _).alloc (Nat.le_refl _) _).drew
    have bC : Below ((w2.alloc (.cells (madeCells #[Value.int .i64 0] n) 3)).alloc (.cells (madeCells #[Value.int .i64 0] n) 3)).heap.size ((w2.alloc (.cells (madeCells #[Value.int .i64 0] n) 3)).alloc (.cells (madeCells #[Value.int .i64 0] n) 3)) ((w2.alloc (.cells (madeCells #[Value.int .i64 0] n) 3)).alloc (.cells (madeCells #[Value.int .i64 0] n) 3)).drew := (Below.refl _ _).drew
    have hz : (w2.alloc (.cells (madeCells #[Value.int .i64 0] n) 3)).heap.size = w2.heap.size + 1 := by simp
    have HO1 := hide (own_under' O1 bB)
    have HO2 := own_under' O2 bC
    rw [hz] at HO2
    have HO2 := hide HO2
    have BA := hide bA
    have hn1 : w2.heap.size ≠ w2.heap.size + 1 := by omega
    clear O1 O2 bA bB bC hz hs0
    go_region
    · go_wp2_with fail
      go_meet
      exact ⟨w2.heap.size, w2.heap.size + 1, rfl, rfl, hn1, HO1, HO2, BA⟩
    · go_wp2_with fail
      go_meet
      exact ⟨w2.heap.size + 1, w2.heap.size, rfl, rfl, hn1.symm, HO2, HO1, BA⟩
  case rest =>
    obtain ⟨g0, k0, rfl, rfl, hgk, HO1, HO2, BA⟩ := hcut
    have P3 := hide (P2.out.below BA.out)
    have HAP : Hid (Apart (.slice (some ⟨g0, 0, none⟩) 0 n) (.slice (some ⟨k0, 0, none⟩) 0 n)) := Or.inr (Or.inr (fun e => hgk (by cases e; rfl)))
    obtain ⟨⟨d0, _⟩, ⟨d1, _⟩, d2, _⟩ := P3.out
    clear c0 c1 c2 hgk hmk
    go_wp2
    clear d0 d1 d2
    go_loopw [7, 8, 33] (fun x y i wr => ∃ (j : Nat) (ax : Option Addr) (cx : Nat) (ay : Option Addr) (cy : Nat), j ≤ n ∧ i = .int .i64 j ∧ x = .slice ax j cx ∧ y = .slice ay j cy ∧ Hid (wr.ownsRow w2.heap.size 3 1 (.slice ax j cx) j ((List.range j).map fun k : Nat => .int .i64 (R k))) ∧ Hid (wr.ownsRow w2.heap.size 3 1 (.slice ay j cy) j ((List.range j).map fun k : Nat => .int .i64 (T k))) ∧ Hid (Apart (.slice ax j cx) (.slice ay j cy)) ∧ Hid (Below w2.heap.size w2 wr)) (fun _ _ i _ => n - (intOf i).toNat)
    case atStart => exact ⟨0, _, n, _, n, Nat.zero_le _, rfl, rfl, rfl, HO1, HO2, HAP, BA⟩
    case round =>
      obtain ⟨j, ax, cx, ay, cy, hj, rfl, rfl, rfl, HX, HY, HA, HB⟩ := hrel
      have HP4 := hide (P2.out.below HB.out)
      obtain ⟨⟨c0, _⟩, ⟨c1, _⟩, c2, _⟩ := HP4.out
      by_cases hlt : j < n
      · have hcj := cell_below (below_two B2.out HB.out) (HC.out j hlt)
        have hr := HR.out j hlt
        have hf := HP.out j hlt
        have hg := HG.out j
        have K1 := hide (aguess_ok (w := wr) (own_in HY.out) a1 a6 (by omega))
        have K2 := hide (asteps_ok (f j - gsN A T j) s wr (by omega) (by omega) s1 s2)
        rw [← HF.out j] at K2
        have K3 := hide (fun w => atell_ok (gsN A T j) (R j) s w hg.1 hg.2 hr.1 hr.2 s1 s2)
        have hTj := HT.out j
        rw [HF2.out j] at hTj
        rw [← hTj] at K3
        have HM : Hid ((List.range (j + 1)).map (fun k : Nat => Value.int .i64 (R k)) = (List.range j).map (fun k : Nat => Value.int .i64 (R k)) ++ [.int .i64 (R j)]) := by
          unfold Hid; rw [List.range_succ, List.map_append]; rfl
        have HN : Hid ((List.range (j + 1)).map (fun k : Nat => Value.int .i64 (T k)) = (List.range j).map (fun k : Nat => Value.int .i64 (T k)) ++ [.int .i64 (T j)]) := by
          unfold Hid; rw [List.range_succ, List.map_append]; rfl
        clear hTj
        generalize gsN A T j = g at *
        generalize f j = x at *
        generalize T j = z at *
        generalize R j = q at *
        have hsz := HB.out.size
        obtain ⟨g1, g2⟩ := hg
        obtain ⟨f1, f2⟩ := hf
        obtain ⟨r1, r2⟩ := hr
        go_wp2_with fail
        refine (K1.out).mono ?_
        rintro e w3 ⟨rfl, rfl⟩
        go_wp2_with fail
        refine (K2.out).mono ?_
        rintro e w3 ⟨rfl, rfl⟩
        have hz1' := Hz1.out
        go_wp2_with (at_builtin; refine wpList_append_lies _ rfl _ _ 23 rfl w2.heap.size 3 i0 (.int .i64 0) 1 8 Try.underlying23 Hi.out Hz0.out Hz1.out Hz2.out rfl (by decide) _ _ _ rfl (HX.out.alloc _) ⟨wr.heap.size, 0, none⟩ 1 1 [.int .i64 q] rfl rfl (cell_one_new _ _ _) (fun x hx => by simp at hx; subst hx; rfl) (by decide) (by unfold maxLen; omega) (by omega) (by simp; omega) _ rfl ?_; intro g3 cap3 w5 hown3 hgrow3 hat3 hlt3)
        have HX5 := hide hown3
        have HY5 := hide ((HY.out.alloc _).kept hgrow3 HA.out.kept)
        have HA5 := hide (apart_new (n := j + 1) (c := cap3) HY.out HA.out (by simp) hat3)
        have HB5 := hide ((HB.out.alloc hsz _).grown hgrow3 (by simp; omega) (fun q hq => (HX.out.lt q hq).1))
        have hsz5 := HB5.out.size
        clear hown3 hgrow3 hat3 hlt3
        go_wp2_with fail
        refine (K3.out _).mono ?_
        rintro e w6 ⟨rfl, rfl⟩
        go_wp2_with (at_builtin; refine wpList_append_lies _ rfl _ _ 23 rfl w2.heap.size 3 i0 (.int .i64 0) 1 8 Try.underlying23 Hi.out Hz0.out Hz1.out Hz2.out rfl (by decide) _ _ _ rfl (HY5.out.alloc _) ⟨w5.heap.size, 0, none⟩ 1 1 [.int .i64 z] rfl rfl (cell_one_new _ _ _) (fun x hx => by simp at hx; subst hx; rfl) (by decide) (by unfold maxLen; omega) (by omega) (by simp; omega) _ rfl ?_; intro g4 cap4 w7 hown4 hgrow4 hat4 hlt4)
        have HY7 := hide hown4
        have HX7 := hide ((HX5.out.alloc _).kept hgrow4 HA5.out.symm.kept)
        have HA7 := hide (apart_new (n := j + 1) (c := cap4) HX5.out HA5.out.symm (by simp) hat4).symm
        have HB7 := hide ((HB5.out.alloc hsz5 _).grown hgrow4 (by simp; omega) (fun q hq => (HY5.out.lt q hq).1))
        go_roundw
        case rel =>
          have RR : j + 1 ≤ n ∧ Value.int .i64 ((j : Int) + 1) = .int .i64 ((j + 1 : Nat) : Int) ∧ Value.slice (some ⟨g3, 0, none⟩) (j + 1) cap3 = .slice (some ⟨g3, 0, none⟩) (j + 1) cap3 ∧ Value.slice (some ⟨g4, 0, none⟩) (j + 1) cap4 = .slice (some ⟨g4, 0, none⟩) (j + 1) cap4
              ∧ Hid (w7.ownsRow w2.heap.size 3 1 (.slice (some ⟨g3, 0, none⟩) (j + 1) cap3) (j + 1) ((List.range (j + 1)).map fun k : Nat => .int .i64 (R k))) ∧ Hid (w7.ownsRow w2.heap.size 3 1 (.slice (some ⟨g4, 0, none⟩) (j + 1) cap4) (j + 1) ((List.range (j + 1)).map fun k : Nat => .int .i64 (T k))) ∧ Hid (Apart (.slice (some ⟨g3, 0, none⟩) (j + 1) cap3) (.slice (some ⟨g4, 0, none⟩) (j + 1) cap4)) ∧ Hid (Below w2.heap.size w2 w7) :=
            ⟨by omega, by simp, rfl, rfl, by unfold Hid; rw [HM.out]; exact HX7.out, by unfold Hid; rw [HN.out]; exact HY7.out, HA7, HB7⟩
          first
            | exact ⟨j + 1, some ⟨g3, 0, none⟩, cap3, some ⟨g4, 0, none⟩, cap4, RR⟩
            | ((repeat apply Exists.intro); exact ⟨⟨j + 1, some ⟨g3, 0, none⟩, cap3, some ⟨g4, 0, none⟩, cap4, RR⟩, rfl⟩)
        case measure => simp [intOf]; omega
      · obtain rfl : j = n := by omega
        have hlt2 := P2.out.lt
        go_wp2
        go_ret2
        exact ⟨_, rfl, own_in HX.out, below_two B2.out HB.out, fun g hg => by have := (HX.out.lt g hg).1; omega⟩
end Go.Proofs.Ytfgcngjggdjcjaa

namespace Go.Proofs.Ytfgcngjggdjcjaa
open Go.RowKit
set_option linter.unusedVariables false
set_option maxRecDepth 100000

set_option maxHeartbeats 1000000 in
theorem mapart_ok {w : World} {s s' : Value} {n : Nat} {f f' : Nat → Int} (h : IntsIn w s n f) (h' : IntsIn w s' n f') (h0 : 0 < n) (hn : n ≤ 36)
    (hf : ∀ i, i < n → 0 ≤ f i ∧ f i ≤ 255) (hf' : ∀ i, i < n → 0 ≤ f' i ∧ f' i ≤ 255) :
    Calls Try.prog 43 #[s, s'] w fun e w' => e = .returned (.int .i64 (sumN f f' n : Nat)) ∧ Below w.heap.size w w' := by
  obtain ⟨ad, oo, cap, rfl, hc⟩ : ∃ ad oo cap, s = .slice (some ⟨ad, oo, none⟩) n cap ∧ ∀ i, i < n → w.cell? ⟨ad, oo + i, none⟩ = some (.int .i64 (f i)) := by
    rcases h with ⟨h, _⟩ | ⟨_, b, o, c, rfl, hc⟩
    · omega
    · exact ⟨_, _, _, rfl, hc⟩
  obtain ⟨ad', oo', cap', rfl, hc'⟩ : ∃ ad oo cap, s' = .slice (some ⟨ad, oo, none⟩) n cap ∧ ∀ i, i < n → w.cell? ⟨ad, oo + i, none⟩ = some (.int .i64 (f' i)) := by
    rcases h' with ⟨h, _⟩ | ⟨_, b, o, c, rfl, hc⟩
    · omega
    · exact ⟨_, _, _, rfl, hc⟩
  have HC := hide hc
  have HC' := hide hc'
  have HP := hide hf
  have HP' := hide hf'
  have HB := hide (fun j (hj : j ≤ n) => sumN_le (f := f) (g := f') (n := j) (fun i hi => hf i (by omega)) (fun i hi => hf' i (by omega)))
  clear h h' hc hc' hf hf'
  go_enter Try.func43, Try.ntmps43
  go_wp2
  go_loopw [5, 9] (fun m i wr => ∃ j : Nat, j ≤ n ∧ i = .int .i64 j ∧ m = .int .i64 (sumN f f' j : Nat) ∧ Below w.heap.size w wr) (fun _ i _ => n - (intOf i).toNat)
  case atStart => exact ⟨0, Nat.zero_le _, rfl, rfl, Below.refl _ _⟩
  case round =>
    obtain ⟨j, hj, rfl, rfl, hb⟩ := hrel
    by_cases hlt : j < n
    · have l1 := cell_below hb (HC.out j hlt)
      have l2 := cell_below hb (HC'.out j hlt)
      obtain ⟨x0, x1⟩ := HP.out j hlt
      obtain ⟨y0, y1⟩ := HP'.out j hlt
      have hm := HB.out j hj
      have HM : Hid (sumN f f' (j + 1) = sumN f f' j + (f j - f' j).natAbs) := rfl
      generalize f j = x at *
      generalize f' j = y at *
      generalize sumN f f' j = m at *
      have hm2 : m ≤ 9180 := by omega
      clear hm
      go_wp2_with fail
      go_quiet (fail)
      go_wp2
      all_goals
        go_roundw
        case rel =>
          refine ⟨j + 1, by omega, by go_num, ?_, below_drewN hb _⟩
          rw [HM.out]
          congr 1
          have e : ((m + (x - y).natAbs : Nat) : Int) = (m : Int) + max (x - y) (y - x) := by omega
          rw [e]
          first | omega | ((repeat' split) <;> omega)
        case measure => simp [intOf]; omega
    · obtain rfl : j = n := by omega
      go_wp2
      go_ret
      exact ⟨rfl, hb⟩
end Go.Proofs.Ytfgcngjggdjcjaa
