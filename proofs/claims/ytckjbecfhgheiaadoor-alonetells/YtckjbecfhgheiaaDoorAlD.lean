/-
  Our own contracts of alone.Round and alone.Decode. Lemmas for the laws above; no statement is proved here.
-/
import Derived.Test.YtckjbecfhgheiaaDoorAlF
import Derived.Test.YtckjbecfhgheiaaDoorAlS
import Derived.Test.YtckjbecfhgheiaaDoorPicX
import Derived.Test.YtckjbecfhgheiaaDoorInOwn
import Derived.Test.YtckjbecfhgheiaaDoorLstN
import Derived.Laws.MakeOwn
import Derived.Maps.AppendAt
namespace Go.Proofs.YtckjbecfhgheiaaDoor
open Go.RowKit Go.Maps
set_option linter.unusedVariables false
set_option maxRecDepth 100000

def rndV (n s : Int) : Int := if rndF n s = 0 then rnd n s else 0
theorem around_any (n s : Int) (w : World) :
    Calls Tryd.prog 13 #[.int .i64 n, .int .i64 s] w fun e w' => e = .returned (.tuple #[.int .i64 (rndV n s), errN (rndF n s)]) ∧ w = w' := by
  have S1 := hide (astep_ok s w)
  have S2 := hide (aapart_ok n w)
  cases h1 : stepOk s with
  | false =>
    have HE : Hid (rndF n s = 1) := by unfold Hid rndF; rw [h1, if_neg (by simp)]
    have HV : Hid (rndV n s = 0) := by unfold Hid rndV; rw [HE.out, if_neg (by decide)]
    rw [h1] at S1
    clear h1
    go_enter Tryd.func13, Tryd.ntmps13
    go_wp2_with fail
    refine (S1.out).mono ?_
    rintro e w1 ⟨rfl, rfl⟩
    go_wp2
    go_ret2
    exact ⟨by rw [HE.out, HV.out]; rfl, rfl⟩
  | true =>
    rw [h1] at S1
    cases h2 : restOk n with
    | false =>
      have HE : Hid (rndF n s = 1) := by unfold Hid rndF; rw [h2, if_neg (by simp)]
      have HV : Hid (rndV n s = 0) := by unfold Hid rndV; rw [HE.out, if_neg (by decide)]
      rw [h2] at S2
      clear h1 h2
      go_enter Tryd.func13, Tryd.ntmps13
      go_wp2_with fail
      refine (S1.out).mono ?_
      rintro e w1 ⟨rfl, rfl⟩
      go_wp2_with fail
      refine (S2.out).mono ?_
      rintro e w1 ⟨rfl, rfl⟩
      go_wp2
      go_ret2
      exact ⟨by rw [HE.out, HV.out]; rfl, rfl⟩
    | true =>
      rw [h2] at S2
      have HE : Hid (rndF n s = 0) := by unfold Hid rndF; rw [h1, h2, if_pos ⟨rfl, rfl⟩]
      have q1 := stepOk_iff.1 h1
      have q2 := restOk_iff.1 h2
      have K := hide (asteps_ok n s w q2.1 q2.2 q1.1 q1.2)
      have HV : Hid (rndV n s = rnd n s) := by unfold Hid rndV; rw [HE.out, if_pos rfl]
      clear h1 h2 q1 q2
      generalize hr : rnd n s = r at *
      go_enter Tryd.func13, Tryd.ntmps13
      go_wp2_with fail
      refine (S1.out).mono ?_
      rintro e w1 ⟨rfl, rfl⟩
      go_wp2_with fail
      refine (S2.out).mono ?_
      rintro e w1 ⟨rfl, rfl⟩
      go_wp2_with fail
      refine (K.out).mono ?_
      rintro e w1 ⟨rfl, rfl⟩
      go_wp2
      go_ret2
      exact ⟨by rw [HE.out, HV.out]; rfl, rfl⟩

set_option maxHeartbeats 1000000 in
theorem adec_bad {w : World} {v : Value} {n : Nat} {f : Nat → Int} (a b s : Int) (h : IntsIn w v n f) (hx : decF a b s n f ≠ 0) :
    Calls Tryd.prog 10 #[.int .i64 a, .int .i64 b, .int .i64 s, v] w fun e w' => e = .returned (.tuple #[.agg #[.int .i64 0, .int .i64 0, .slice none 0 0], errN (decF a b s n f)]) ∧ Below w.heap.size w w' := by
  have p1 := picIn_new w 0 0 (.slice none 0 0)
  have b1 : Below w.heap.size w (w.alloc (.cells #[.int .i64 0, .int .i64 0, .slice none 0 0] 24)) := (Below.refl _ _).alloc (Nat.le_refl _) _
  obtain ⟨⟨c0, g0⟩, ⟨c1, g1⟩, c2, g2⟩ := p1
  have HB := hide b1
  have HI := hide (h.below b1)
  obtain ⟨ad, cap, rfl⟩ := slice_shape h
  have S := hide (fun x w => aside_ok x w)
  have K := hide (fun x w => astep_ok x w)
  have HD : Hid (decF a b s n f = if ((sideOk a && sideOk b) && stepOk s) = false then 1 else if (n : Int) ≠ a * b then 3 else if restsOk n f = false then 1 else 0) := by
    unfold Hid decF restsF; rw [sides_two]
  clear h b1
  cases h1 : sideOk a with
  | false =>
    have S1 := hide (S.out a)
    rw [h1] at S1
    have HE : Hid (decF a b s n f = 1) := by unfold Hid; rw [HD.out, h1, Bool.false_and, Bool.false_and, if_pos rfl]
    clear h1 S HD hx
    go_enter Tryd.func10, Tryd.ntmps10
    go_wp2_with fail
    refine (S1.out _).mono ?_
    rintro e w2 ⟨rfl, rfl⟩
    go_wp2
    refine bodyPost_ret (v := .tuple #[.agg #[.int .i64 0, .int .i64 0, .slice none 0 0], .iface 46 (.int .i64 1)]) (by simp [results, Tryd.results10, go_sem, c0, c1, c2]) rfl ⟨by rw [HE.out]; rfl, ?_⟩
    first
      | exact HB.out
      | exact (((HB.out.setCell (Nat.le_refl _) _).setCell (Nat.le_refl _) _).setCell (Nat.le_refl _) _)
  | true =>
    have S1 := hide (S.out a)
    rw [h1] at S1
    cases h2 : sideOk b with
    | false =>
      have S2 := hide (S.out b)
      rw [h2] at S2
      have HE : Hid (decF a b s n f = 1) := by unfold Hid; rw [HD.out, h1, h2, Bool.and_false, Bool.false_and, if_pos rfl]
      clear h1 h2 S HD hx
      go_enter Tryd.func10, Tryd.ntmps10
      go_wp2_with fail
      refine (S1.out _).mono ?_
      rintro e w2 ⟨rfl, rfl⟩
      go_wp2_with fail
      refine (S2.out _).mono ?_
      rintro e w2 ⟨rfl, rfl⟩
      go_wp2
      refine bodyPost_ret (v := .tuple #[.agg #[.int .i64 0, .int .i64 0, .slice none 0 0], .iface 46 (.int .i64 1)]) (by simp [results, Tryd.results10, go_sem, c0, c1, c2]) rfl ⟨by rw [HE.out]; rfl, ?_⟩
      first
        | exact HB.out
        | exact (((HB.out.setCell (Nat.le_refl _) _).setCell (Nat.le_refl _) _).setCell (Nat.le_refl _) _)
    | true =>
      have S2 := hide (S.out b)
      rw [h2] at S2
      cases h3 : stepOk s with
      | false =>
        have S3 := hide (K.out s)
        rw [h3] at S3
        have HE : Hid (decF a b s n f = 1) := by unfold Hid; rw [HD.out, h3, Bool.and_false, if_pos rfl]
        clear h1 h2 h3 S K HD hx
        go_enter Tryd.func10, Tryd.ntmps10
        go_wp2_with fail
        refine (S1.out _).mono ?_
        rintro e w2 ⟨rfl, rfl⟩
        go_wp2_with fail
        refine (S2.out _).mono ?_
        rintro e w2 ⟨rfl, rfl⟩
        go_wp2_with fail
        refine (S3.out _).mono ?_
        rintro e w2 ⟨rfl, rfl⟩
        go_wp2
        refine bodyPost_ret (v := .tuple #[.agg #[.int .i64 0, .int .i64 0, .slice none 0 0], .iface 46 (.int .i64 1)]) (by simp [results, Tryd.results10, go_sem, c0, c1, c2]) rfl ⟨by rw [HE.out]; rfl, ?_⟩
        first
          | exact HB.out
          | exact (((HB.out.setCell (Nat.le_refl _) _).setCell (Nat.le_refl _) _).setCell (Nat.le_refl _) _)
      | true =>
        have S3 := hide (K.out s)
        rw [h3] at S3
        have q1 := sideOk_iff.1 h1
        have q2 := sideOk_iff.1 h2
        have hp0 : 0 ≤ a * b := Int.mul_nonneg (by omega) (by omega)
        have hp1 : a * b ≤ 36 := by
          have e1 : a * b ≤ 6 * b := Int.mul_le_mul_of_nonneg_right (by omega) (by omega)
          omega
        rw [h1, h2, h3, if_neg (by simp)] at HD
        clear h1 h2 h3 S K
        by_cases hn : (n : Int) = a * b
        · have hn1 : ((n : Int) == a * b) = true := by rw [beq_iff_eq]; exact hn
          have hn3 : ((n : Int) != a * b) = false := by simp [bne, hn1]
          have hn2 : n ≤ 36 := by omega
          have C := hide (acont_ok HI.out (by omega))
          rw [if_neg (by simp [hn])] at HD
          have hq : restsOk n f = false := by
            cases hq : restsOk n f with
            | false => rfl
            | true => rw [HD.out, hq, if_neg (by simp)] at hx; exact absurd rfl hx
          rw [hq] at C
          have HE : Hid (decF a b s n f = 1) := by unfold Hid; rw [HD.out, hq, if_pos rfl]
          clear hn hq HD hx
          go_enter Tryd.func10, Tryd.ntmps10
          go_wp2_with fail
          refine (S1.out _).mono ?_
          rintro e w2 ⟨rfl, rfl⟩
          go_wp2_with fail
          refine (S2.out _).mono ?_
          rintro e w2 ⟨rfl, rfl⟩
          go_wp2_with fail
          refine (S3.out _).mono ?_
          rintro e w2 ⟨rfl, rfl⟩
          go_wp2_with fail
          refine (C.out).mono ?_
          rintro e w2 ⟨rfl, rfl⟩
          go_wp2
          refine bodyPost_ret (v := .tuple #[.agg #[.int .i64 0, .int .i64 0, .slice none 0 0], .iface 46 (.int .i64 1)]) (by simp [results, Tryd.results10, go_sem, c0, c1, c2]) rfl ⟨by rw [HE.out]; rfl, ?_⟩
          first
            | exact HB.out
            | exact (((HB.out.setCell (Nat.le_refl _) _).setCell (Nat.le_refl _) _).setCell (Nat.le_refl _) _)
        · have hn1 : ((n : Int) == a * b) = false := by rw [beq_eq_false_iff_ne]; exact hn
          have hn3 : ((n : Int) != a * b) = true := by simp [bne, hn1]
          have HE : Hid (decF a b s n f = 3) := by unfold Hid; rw [HD.out, if_pos hn]
          clear hn HD hx
          go_enter Tryd.func10, Tryd.ntmps10
          go_wp2_with fail
          refine (S1.out _).mono ?_
          rintro e w2 ⟨rfl, rfl⟩
          go_wp2_with fail
          refine (S2.out _).mono ?_
          rintro e w2 ⟨rfl, rfl⟩
          go_wp2_with fail
          refine (S3.out _).mono ?_
          rintro e w2 ⟨rfl, rfl⟩
          go_wp2
          refine bodyPost_ret (v := .tuple #[.agg #[.int .i64 0, .int .i64 0, .slice none 0 0], .iface 46 (.int .i64 3)]) (by simp [results, Tryd.results10, go_sem, c0, c1, c2]) rfl ⟨by rw [HE.out]; rfl, ?_⟩
          first
            | exact HB.out
            | exact (((HB.out.setCell (Nat.le_refl _) _).setCell (Nat.le_refl _) _).setCell (Nat.le_refl _) _)

set_option maxHeartbeats 4000000 in
theorem adec_ok {w : World} {v : Value} {n : Nat} {f : Nat → Int} {a b s : Int} {A B : Nat} (h : IntsIn w v n f) (o : DecOk a b s n f A B) :
    Calls Tryd.prog 10 #[.int .i64 a, .int .i64 b, .int .i64 s, v] w fun e w' => ∃ u, e = .returned (.tuple #[.agg #[.int .i64 a, .int .i64 b, u], .nilIface]) ∧ IntsIn w' u n (tellF A s fun i _ => f i) ∧ Below w.heap.size w w' ∧ ∀ g, u.ownBlock = some g → w.heap.size ≤ g := by
  obtain ⟨w1, hw1⟩ : ∃ w1, w1 = w.alloc (.cells #[.int .i64 0, .int .i64 0, .slice none 0 0] 24) := ⟨_, rfl⟩
  have b1 : Below w.heap.size w w1 := hw1 ▸ (Below.refl _ _).alloc (Nat.le_refl _) _
  have P1 : Hid (PicIn w1 w.heap.size 0 0 (.slice none 0 0)) := hide (hw1 ▸ picIn_new w _ _ _)
  have B1 := hide b1
  have HI := hide (h.below b1)
  have S1 := hide (aside_ok a w1)
  have S2 := hide (aside_ok b w1)
  have S3 := hide (astep_ok s w1)
  rw [sideOk_iff.2 (by have := o.wide; have := o.w1; have := o.w6; omega)] at S1
  rw [sideOk_iff.2 (by have := o.high; have := o.h1; have := o.h6; omega)] at S2
  rw [stepOk_iff.2 ⟨o.s1, o.s2⟩] at S3
  have C := hide (acont_ok HI.out (by have := o.le; omega))
  rw [restsOk_iff.2 o.rest] at C
  have hl := o.le
  have h0 := o.pos
  have hn : (n : Int) = a * b := by rw [o.wide, o.high, o.many, Int.natCast_mul]
  have hn1 : ((n : Int) == a * b) = true := by rw [beq_iff_eq]; exact hn
  have hn3 : ((n : Int) != a * b) = false := by simp [bne, hn1]
  have hp0 : 0 ≤ a * b := by omega
  have hp1 : a * b ≤ 36 := by omega
  have HR := hide o.rest
  have HT := hide (fun i => tellF_eq o.w1 s (fun j _ => f j) i)
  have HG := hide (fun i => gsN_in (A := A) (tellF_in o.w1 s (fun j _ => f j)) i)
  have a1 := o.w1
  have a6 := o.w6
  have s1 := o.s1
  have s2 := o.s2
  have ea := o.wide
  obtain ⟨i0, hi0, hz0, hz1, hz2⟩ := info_parts Tryd.infoInt
  have Hi := hide hi0
  have Hz0 := hide hz0
  have Hz1 := hide hz1
  have Hz2 := hide hz2
  obtain ⟨bb, oo, cap, rfl, hc⟩ : ∃ bb oo cap, v = .slice (some ⟨bb, oo, none⟩) n cap ∧ ∀ i, i < n → w.cell? ⟨bb, oo + i, none⟩ = some (.int .i64 (f i)) := by
    rcases h with ⟨h, _⟩ | ⟨_, b', o', c', e, hc⟩
    · omega
    · exact ⟨_, _, _, e, hc⟩
  have HC := hide hc
  obtain ⟨w2, hmk, hown, hgrow⟩ := run_make_own (P := Tryd.prog) w1 w1.heap.size 22 3 i0 (.int .i64 0) 1 Tryd.underlying22 Hi.out Hz0.out (by have := Hz1.out; simpa using this) .i64 .i64 n (by rw [Hz2.out]; omega) (by unfold maxLen; omega) (Nat.le_refl _)
  have bg : Below w1.heap.size w1 w2 := (Below.refl _ _).grown hgrow (Nat.le_refl _) (fun k hk => by cases hk)
  have hs1 : w1.heap.size = w.heap.size + 1 := by rw [hw1]; simp
  have P2 := hide (P1.out.below bg)
  have B2 := hide (below_two B1.out bg)
  rw [hs1] at hmk hown
  have HOWN := hide hown
  subst ea
  generalize hTT : tellF A s (fun j _ => f j) = T at *
  clear h o b1 hc hn hi0 hz0 hz1 hz2 bg hown hgrow hTT hs1 P1 B1
  subst hw1
  go_enter Tryd.func10, Tryd.ntmps10
  go_wp2_with fail
  refine (S1.out).mono ?_
  rintro e w3 ⟨rfl, rfl⟩
  go_wp2_with fail
  refine (S2.out).mono ?_
  rintro e w3 ⟨rfl, rfl⟩
  go_wp2_with fail
  refine (S3.out).mono ?_
  rintro e w3 ⟨rfl, rfl⟩
  go_wp2_with fail
  refine (C.out).mono ?_
  rintro e w3 ⟨rfl, rfl⟩
  go_wp2
  go_loopw [10, 45] (fun u i wr => ∃ (j : Nat) (ad : Option Addr) (cp : Nat), j ≤ n ∧ i = .int .i64 j ∧ u = .slice ad j cp ∧ wr.ownsRow (w.heap.size + 1) 3 1 u j ((List.range j).map fun k : Nat => .int .i64 (T k)) ∧ Hid (PicIn wr w.heap.size 0 0 (.slice none 0 0)) ∧ Below w.heap.size w wr) (fun _ i _ => n - (intOf i).toNat)
  case atStart => exact ⟨0, _, n, Nat.zero_le _, rfl, rfl, HOWN.out, P2, B2.out⟩
  case round =>
    obtain ⟨j, adr, cpr, hj, rfl, rfl, hX, PR, hb⟩ := hrel
    have HX := hide hX
    have HB := hide hb
    have hbig := PR.out.lt
    clear hX hb
    by_cases hlt : j < n
    · have hcj := cell_below HB.out (HC.out j hlt)
      have hr := HR.out j hlt
      have hg := HG.out j
      have K1 := hide (aguess_ok (w := wr) (own_in HX.out) a1 a6 (by omega))
      have K2 := hide (atell_ok (gsN A T j) (f j) s wr hg.1 hg.2 hr.1 hr.2 s1 s2)
      rw [← HT.out j] at K2
      have HM : Hid ((List.range (j + 1)).map (fun k : Nat => Value.int .i64 (T k)) = (List.range j).map (fun k : Nat => Value.int .i64 (T k)) ++ [.int .i64 (T j)]) := by
        unfold Hid; rw [List.range_succ, List.map_append]; rfl
      generalize gsN A T j = g at *
      generalize f j = x at *
      generalize T j = z at *
      clear hr hg
      go_wp2_with fail
      refine (K1.out).mono ?_
      rintro e w3 ⟨rfl, rfl⟩
      go_wp2_with fail
      refine (K2.out).mono ?_
      rintro e w3 ⟨rfl, rfl⟩
      have hz1' := Hz1.out
      go_wp2_with (at_builtin; refine wpList_append_lies _ rfl _ _ 22 rfl (w.heap.size + 1) 3 i0 (.int .i64 0) 1 8 Tryd.underlying22 Hi.out Hz0.out Hz1.out Hz2.out rfl (by decide) _ _ _ rfl (HX.out.alloc _) ⟨wr.heap.size, 0, none⟩ 1 1 [.int .i64 z] rfl rfl (cell_one_new _ _ _) (fun x hx => by simp at hx; subst hx; rfl) (by decide) (by unfold maxLen; omega) (by omega) (by simp; omega) _ rfl ?_; intro g3 cap3 w5 hown3 hgrow3 hat3 hlt3)
      go_roundw
      case rel =>
        have hB5 : Below (w.heap.size + 1) wr w5 := ((Below.refl (w.heap.size + 1) wr).alloc (by omega) _).grown hgrow3 (by simp; omega) (fun q hq => (HX.out.lt q hq).1)
        have R : j + 1 ≤ n ∧ Value.int .i64 ((j : Int) + 1) = .int .i64 ((j + 1 : Nat) : Int) ∧ Value.slice (some ⟨g3, 0, none⟩) (j + 1) cap3 = .slice (some ⟨g3, 0, none⟩) (j + 1) cap3
            ∧ w5.ownsRow (w.heap.size + 1) 3 1 (.slice (some ⟨g3, 0, none⟩) (j + 1) cap3) (j + 1) ((List.range (j + 1)).map fun k : Nat => .int .i64 (T k)) ∧ Hid (PicIn w5 w.heap.size 0 0 (.slice none 0 0)) ∧ Below w.heap.size w w5 :=
          ⟨by omega, by simp, rfl, by rw [HM.out]; exact hown3, PR.out.mono hB5 (by omega), HB.out.trans (hB5.mono (by omega))⟩
        first
          | exact ⟨j + 1, some ⟨g3, 0, none⟩, cap3, R⟩
          | ((repeat apply Exists.intro); exact ⟨⟨j + 1, some ⟨g3, 0, none⟩, cap3, R⟩, rfl⟩)
      case measure => simp [intOf]; omega
    · obtain rfl : j = n := by omega
      obtain ⟨⟨u0, g0⟩, ⟨u1, g1⟩, u2, g2⟩ := PR.out
      go_wp2
      refine bodyPost_ret (v := .tuple #[.agg #[.int .i64 A, .int .i64 b, .slice adr j cpr], .nilIface]) (by simp [results, Tryd.results10, go_sem, u0, u1, u2]) rfl ⟨_, rfl, ?_, ?_, fun g hg => by have := (HX.out.lt g hg).1; omega⟩
      · have hlt9 : w.heap.size < w.heap.size + 1 := by omega
        exact own_in (ownsRow_setCell_below (ownsRow_setCell_below (ownsRow_setCell_below HX.out hlt9 _) hlt9 _) hlt9 _)
      · exact ((HB.out.setCell (Nat.le_refl _) _).setCell (Nat.le_refl _) _).setCell (Nat.le_refl _) _
end Go.Proofs.YtckjbecfhgheiaaDoor
