/-
  Lemmas for the law above, joined into one text (PicS, MvB). No statement is proved here.
-/
import Derived.Test.YtfgcngjggdjcjaaDoorTG19
import Derived.Test.YtfgcngjggdjcjaaDoorTG20
import Derived.Test.YtfgcngjggdjcjaaDoorTG21
import Derived.Test.YtfgcngjggdjcjaaDoorTG11
import Derived.Test.YtfgcngjggdjcjaaDoorTG17
import Derived.Laws.MakeOwn
import Derived.Lib.SmallJoins
import Derived.Maps.AppendAt
import Derived.Test.YtfgcngjggdjcjaaDoorTG5
namespace Go.Proofs.YtfgcngjggdjcjaaDoor
open Go.RowKit Go.Maps
set_option linter.unusedVariables false
set_option maxRecDepth 100000

set_option maxHeartbeats 2000000 in
theorem pshift_bad {w : World} {s : Value} {n : Nat} {f : Nat → Int} (a b mx my : Int) (h : IntsIn w s n f) (hx : shiftF a b n f mx my ≠ 0) :
    Calls Tryd.prog 47 #[.agg #[.int .i64 a, .int .i64 b, s], .agg #[.int .i64 mx, .int .i64 my]] w fun e w' => e = .returned (.tuple #[.agg #[.int .i64 0, .int .i64 0, .slice none 0 0], errN (shiftF a b n f mx my)]) ∧ Below w.heap.size w w' := by
  obtain ⟨W1, hW1⟩ : ∃ W1, W1 = w.alloc (.cells #[.int .i64 a, .int .i64 b, s] 40) := ⟨_, rfl⟩
  obtain ⟨W2, hW2⟩ : ∃ W2, W2 = W1.alloc (.cells #[.int .i64 mx, .int .i64 my] 43) := ⟨_, rfl⟩
  obtain ⟨W3, hW3⟩ : ∃ W3, W3 = W2.alloc (.cells #[.int .i64 0, .int .i64 0, .slice none 0 0] 40) := ⟨_, rfl⟩
  have b1 : Below w.heap.size w W1 := hW1 ▸ (Below.refl _ _).alloc (Nat.le_refl _) _
  have b12 : Below W1.heap.size W1 W2 := hW2 ▸ (Below.refl _ _).alloc (Nat.le_refl _) _
  have b23 : Below W2.heap.size W2 W3 := hW3 ▸ (Below.refl _ _).alloc (Nat.le_refl _) _
  have b3 := below_two (below_two b1 b12) b23
  have z1 : W1.heap.size = w.heap.size + 1 := by rw [hW1]; simp
  have z2 : W2.heap.size = w.heap.size + 2 := by rw [hW2]; simp [z1]
  have z3 : W3.heap.size = w.heap.size + 3 := by rw [hW3]; simp [z2]
  have p1 : PicIn W3 w.heap.size a b s := PicIn.below (hW1 ▸ picIn_new w a b s) (below_two b12 b23)
  have p2 : MoveIn W3 (w.heap.size + 1) mx my := by
    have := moveIn_new W1 mx my
    rw [← hW2] at this
    rw [z1] at this
    exact this.below b23
  have p3 : PicIn W3 (w.heap.size + 2) 0 0 (.slice none 0 0) := by
    have := picIn_new W2 0 0 (.slice none 0 0)
    rw [← hW3, z2] at this
    exact this
  have C := hide (pcheck_ok a b (h.below b3))
  have B3 := hide b3
  have P1 := hide p1
  have P2 := hide p2
  have P3 := hide p3
  have FR := hide (fun x w => pfar_ok x w)
  subst hW3
  subst hW2
  subst hW1
  clear h b1 b12 b23 b3 p1 p2 p3 z1 z2 z3
  by_cases hp : picF a b n f = 0
  · rw [hp] at C
    have hfx : shiftF a b n f mx my = farF mx my := by unfold shiftF; rw [if_neg (by omega)]
    have hf1 : farF mx my = 1 := by
      rw [hfx] at hx
      unfold farF at hx ⊢
      split
      · rfl
      · rename_i c; rw [if_neg c] at hx; exact absurd rfl hx
    have HE : Hid (shiftF a b n f mx my = 1) := by unfold Hid; rw [hfx, hf1]
    have hbad : farOk mx = false ∨ (farOk mx = true ∧ farOk my = false) := by
      by_cases c : farOk mx = true
      · refine Or.inr ⟨c, ?_⟩
        rw [farOk_iff] at c
        rw [farOk_not]
        unfold farF at hf1
        split at hf1
        · omega
        · cases hf1
      · exact Or.inl (by simpa using c)
    clear hx hp hfx hf1
    rcases hbad with q1 | ⟨q1, q2⟩
    · have F1 := hide (FR.out mx)
      rw [q1] at F1
      clear q1 FR
      go_enter Tryd.func47, Tryd.ntmps47
      go_wp2_with fail
      refine (C.out).mono ?_
      rintro e w1 ⟨rfl, hb1⟩
      rw [errN_zero]
      obtain ⟨⟨c0, g0⟩, ⟨c1, g1⟩, c2, g2⟩ := P3.out.below hb1
      obtain ⟨m0, m1⟩ := P2.out.below hb1
      have B1 := hide (below_two B3.out hb1)
      clear hb1
      go_wp2_with fail
      refine (F1.out _).mono ?_
      rintro e w2 ⟨rfl, rfl⟩
      go_wp2
      refine bodyPost_ret (v := .tuple #[.agg #[.int .i64 0, .int .i64 0, .slice none 0 0], .iface 55 (.int .i64 1)]) (by simp [results, Tryd.results47, go_sem, c0, c1, c2]) rfl ⟨by rw [HE.out]; rfl, ?_⟩
      exact (((B1.out.setCell (by show w.heap.size ≤ w.heap.size + 1 + 1; omega) _).setCell (by show w.heap.size ≤ w.heap.size + 1 + 1; omega) _).setCell (by show w.heap.size ≤ w.heap.size + 1 + 1; omega) _)
    · have F1 := hide (FR.out mx)
      rw [q1] at F1
      have F2 := hide (FR.out my)
      rw [q2] at F2
      clear q1 q2 FR
      go_enter Tryd.func47, Tryd.ntmps47
      go_wp2_with fail
      refine (C.out).mono ?_
      rintro e w1 ⟨rfl, hb1⟩
      rw [errN_zero]
      obtain ⟨⟨c0, g0⟩, ⟨c1, g1⟩, c2, g2⟩ := P3.out.below hb1
      obtain ⟨m0, m1⟩ := P2.out.below hb1
      have B1 := hide (below_two B3.out hb1)
      clear hb1
      go_wp2_with fail
      refine (F1.out _).mono ?_
      rintro e w2 ⟨rfl, rfl⟩
      go_wp2_with fail
      refine (F2.out _).mono ?_
      rintro e w2 ⟨rfl, rfl⟩
      go_wp2
      refine bodyPost_ret (v := .tuple #[.agg #[.int .i64 0, .int .i64 0, .slice none 0 0], .iface 55 (.int .i64 1)]) (by simp [results, Tryd.results47, go_sem, c0, c1, c2]) rfl ⟨by rw [HE.out]; rfl, ?_⟩
      exact (((B1.out.setCell (by show w.heap.size ≤ w.heap.size + 1 + 1; omega) _).setCell (by show w.heap.size ≤ w.heap.size + 1 + 1; omega) _).setCell (by show w.heap.size ≤ w.heap.size + 1 + 1; omega) _)
  · have HE : Hid (shiftF a b n f mx my = picF a b n f) := by unfold Hid shiftF; rw [if_pos hp]
    have HN := hide (errN_pos hp)
    clear hx hp FR
    generalize picF a b n f = k at *
    go_enter Tryd.func47, Tryd.ntmps47
    go_wp2_with fail
    refine (C.out).mono ?_
    rintro e w1 ⟨rfl, hb1⟩
    rw [HN.out]
    obtain ⟨⟨c0, g0⟩, ⟨c1, g1⟩, c2, g2⟩ := P3.out.below hb1
    have B1 := hide (below_two B3.out hb1)
    clear hb1
    go_wp2
    refine bodyPost_ret (v := .tuple #[.agg #[.int .i64 0, .int .i64 0, .slice none 0 0], .iface 55 (.int .i64 k)]) (by simp [results, Tryd.results47, go_sem, c0, c1, c2]) rfl ⟨by rw [HE.out, HN.out], ?_⟩
    exact (((B1.out.setCell (by show w.heap.size ≤ w.heap.size + 1 + 1; omega) _).setCell (by show w.heap.size ≤ w.heap.size + 1 + 1; omega) _).setCell (by show w.heap.size ≤ w.heap.size + 1 + 1; omega) _)

set_option maxHeartbeats 4000000 in
theorem pshift_own {w : World} {s : Value} {n : Nat} {f : Nat → Int} {a b : Int} {A B : Nat} (mx my : Int) (h : IntsIn w s n f) (o : PicOk a b n f A B) (hm : farF mx my = 0) :
    Calls Tryd.prog 47 #[.agg #[.int .i64 a, .int .i64 b, s], .agg #[.int .i64 mx, .int .i64 my]] w fun e w' => ∃ v, e = .returned (.tuple #[.agg #[.int .i64 a, .int .i64 b, v], .nilIface]) ∧ w'.ownsRow w.heap.size 3 1 v n ((List.range n).map fun k : Nat => .int .i64 (shiftN A B mx my f k)) ∧ Below w.heap.size w w' := by
  obtain ⟨W1, hW1⟩ : ∃ W1, W1 = w.alloc (.cells #[.int .i64 a, .int .i64 b, s] 40) := ⟨_, rfl⟩
  obtain ⟨W2, hW2⟩ : ∃ W2, W2 = W1.alloc (.cells #[.int .i64 mx, .int .i64 my] 43) := ⟨_, rfl⟩
  obtain ⟨W3, hW3⟩ : ∃ W3, W3 = W2.alloc (.cells #[.int .i64 0, .int .i64 0, .slice none 0 0] 40) := ⟨_, rfl⟩
  have b1 : Below w.heap.size w W1 := hW1 ▸ (Below.refl _ _).alloc (Nat.le_refl _) _
  have b12 : Below W1.heap.size W1 W2 := hW2 ▸ (Below.refl _ _).alloc (Nat.le_refl _) _
  have b23 : Below W2.heap.size W2 W3 := hW3 ▸ (Below.refl _ _).alloc (Nat.le_refl _) _
  have b3 := below_two (below_two b1 b12) b23
  have z1 : W1.heap.size = w.heap.size + 1 := by rw [hW1]; simp
  have z2 : W2.heap.size = w.heap.size + 2 := by rw [hW2]; simp [z1]
  have z3 : W3.heap.size = w.heap.size + 3 := by rw [hW3]; simp [z2]
  have p1 : PicIn W3 w.heap.size a b s := PicIn.below (hW1 ▸ picIn_new w a b s) (below_two b12 b23)
  have p2 : MoveIn W3 (w.heap.size + 1) mx my := by
    have := moveIn_new W1 mx my
    rw [← hW2] at this
    rw [z1] at this
    exact this.below b23
  have p3 : PicIn W3 (w.heap.size + 2) 0 0 (.slice none 0 0) := by
    have := picIn_new W2 0 0 (.slice none 0 0)
    rw [← hW3, z2] at this
    exact this
  have C := hide (pcheck_ok a b (h.below b3))
  rw [picF_zero.2 ⟨A, B, o⟩] at C
  have B3 := hide b3
  have P1 := hide p1
  have P2 := hide p2
  have P3 := hide p3
  have HS := hide (h.below b3)
  have F1 := hide (pfar_ok mx)
  have F2 := hide (pfar_ok my)
  obtain ⟨m1, m2, m3, m4⟩ := farF_zero.1 hm
  rw [farOk_iff.2 ⟨m1, m2⟩] at F1
  rw [farOk_iff.2 ⟨m3, m4⟩] at F2
  have hl := o.le
  have h0 := o.pos
  have O := hide o
  have hmany := hide o.many
  have ea := o.wide
  have eb := o.high
  have a1 := o.w1
  have a6 := o.w6
  have o1 := o.h1
  have o6 := o.h6
  obtain ⟨ad, cap, hsl⟩ : ∃ ad cap, s = .slice ad n cap := by
    rcases h with ⟨rfl, a, c, rfl⟩ | ⟨_, b, o, c, rfl, _⟩
    · exact ⟨_, _, rfl⟩
    · exact ⟨_, _, rfl⟩
  subst hsl
  subst hW3
  subst hW2
  subst hW1
  obtain ⟨i0, hi0, hz0, hz1, hz2⟩ := info_parts Tryd.infoInt
  have Hi := hide hi0
  have Hz0 := hide hz0
  have Hz1 := hide hz1
  have Hz2 := hide hz2
  clear h b1 b12 b23 b3 p1 p2 p3 z1 z2 z3 hm o hi0 hz0 hz1 hz2
  subst ea
  subst eb
  go_enter Tryd.func47, Tryd.ntmps47
  go_wp2_with fail
  refine (C.out).mono ?_
  rintro e w1 ⟨rfl, hb1⟩
  rw [errN_zero]
  have PA := hide (P1.out.below hb1)
  have PB := hide (P2.out.below hb1)
  have PC := hide (P3.out.below hb1)
  have HS1 := hide (HS.out.below hb1)
  have B1 := hide (below_two B3.out hb1)
  clear hb1 P1 P2 P3 HS B3
  obtain ⟨⟨c0, _⟩, ⟨c1, _⟩, c2, _⟩ := PA.out
  obtain ⟨d0, d1⟩ := PB.out
  go_wp2_with fail
  refine (F1.out _).mono ?_
  rintro e w2 ⟨rfl, rfl⟩
  go_wp2_with fail
  refine (F2.out _).mono ?_
  rintro e w2 ⟨rfl, rfl⟩
  obtain ⟨w2, hmk, hown, hgrow⟩ := run_make_own (P := Tryd.prog) w1 w1.heap.size 38 3 i0 (.int .i64 0) 1 Tryd.underlying38 Hi.out Hz0.out (by have := Hz1.out; simpa using this) .i64 .i64 n (by rw [Hz2.out]; omega) (by unfold maxLen; omega) (Nat.le_refl _)
  have bg : Below w1.heap.size w1 w2 := (Below.refl _ _).grown hgrow (Nat.le_refl _) (fun k hk => by cases hk)
  obtain ⟨⟨e0, _⟩, ⟨e1, _⟩, e2, _⟩ := PA.out.below bg
  have BG := hide bg
  have HOWN := hide hown
  clear bg hown hgrow
  go_wp2
  go_loopw [7, 34] (fun v i wr => ∃ (r : Nat) (ad : Option Addr) (cp : Nat), r ≤ B ∧ i = .int .i64 r ∧ v = .slice ad (r * A) cp ∧ wr.ownsRow w1.heap.size 3 1 v (r * A) ((List.range (r * A)).map fun k : Nat => .int .i64 (shiftN A B mx my f k)) ∧ Below w1.heap.size w1 wr) (fun _ i _ => B - (intOf i).toNat)
  case atStart => exact ⟨0, _, n, Nat.zero_le _, rfl, by rw [Nat.zero_mul], by rw [Nat.zero_mul]; exact HOWN.out, BG.out⟩
  case round =>
    obtain ⟨r, adr, cpr, hr, rfl, rfl, hA, hb⟩ := hrel
    have HA := hide hA
    have HBR := hide hb
    clear hA
    obtain ⟨⟨t0, _⟩, ⟨t1, _⟩, t2, _⟩ := PA.out.below hb
    clear hb
    by_cases hlt : r < B
    · go_wp2
      go_loopw [7, 39] (fun v i wx => ∃ (c : Nat) (ad : Option Addr) (cp : Nat), c ≤ A ∧ i = .int .i64 c ∧ v = .slice ad (r * A + c) cp ∧ wx.ownsRow w1.heap.size 3 1 v (r * A + c) ((List.range (r * A + c)).map fun k : Nat => .int .i64 (shiftN A B mx my f k)) ∧ Below w1.heap.size w1 wx) (fun _ i _ => A - (intOf i).toNat)
      case atStart => exact ⟨0, adr, cpr, Nat.zero_le _, rfl, rfl, HA.out, HBR.out⟩
      case round =>
        obtain ⟨c, adc, cpc, hc, rfl, rfl, hX, hb2⟩ := hrel
        by_cases hlc : c < A
        · have hple : r * A + c < n := by
            have h3 : (r + 1) * A ≤ B * A := Nat.mul_le_mul_right _ (by omega)
            rw [Nat.add_mul, Nat.one_mul] at h3
            rw [hmany.out, Nat.mul_comm A B]
            omega
          have K := hide (pnear_ok ((c : Int) - mx) ((r : Int) - my) (HS1.out.below hb2) O.out)
          rw [← fromAt_row (B := B) mx my hlc] at K
          obtain ⟨⟨s0, _⟩, ⟨s1, _⟩, s2, _⟩ := PA.out.below hb2
          obtain ⟨s3, s4⟩ := PB.out.below hb2
          have HX := hide hX
          have HB2 := hide hb2
          have hs1 := hb2.size
          clear hX hb2
          have HM : Hid ((List.range (r * A + c + 1)).map (fun k : Nat => Value.int .i64 (shiftN A B mx my f k)) = (List.range (r * A + c)).map (fun k : Nat => Value.int .i64 (shiftN A B mx my f k)) ++ [.int .i64 (f (fromAt A B mx my (r * A + c)))]) := by
            unfold Hid; rw [List.range_succ, List.map_append]; rfl
          generalize f (fromAt A B mx my (r * A + c)) = z at *
          generalize hq : r * A + c = q at *
          have HQ := hide hq
          clear hq
          go_wp2_with fail
          refine (K.out).mono ?_
          rintro e w4 ⟨rfl, hb4⟩
          have HX4 := hide (own_under' HX.out hb4)
          have HB4 := hide (HB2.out.trans (hb4.mono hs1))
          have hs4 := HB4.out.size
          have hz1' := Hz1.out
          go_wp2_with (at_builtin; refine wpList_append_lies _ rfl _ _ 38 rfl w1.heap.size 3 i0 (.int .i64 0) 1 8 Tryd.underlying38 Hi.out Hz0.out Hz1.out Hz2.out rfl (by decide) _ _ _ rfl (HX4.out.alloc _) ⟨w4.heap.size, 0, none⟩ 1 1 [.int .i64 z] rfl rfl (cell_one_new _ _ _) (fun x hx => by simp at hx; subst hx; rfl) (by decide) (by unfold maxLen; omega) (by omega) (by simp; omega) _ rfl ?_; intro g3 cap3 w5 hown3 hgrow3 hat3 hlt3)
          go_roundw
          case rel =>
            have R : c + 1 ≤ A ∧ Value.int .i64 ((c : Int) + 1) = .int .i64 ((c + 1 : Nat) : Int) ∧ Value.slice (some ⟨g3, 0, none⟩) (q + 1) cap3 = .slice (some ⟨g3, 0, none⟩) (r * A + (c + 1)) cap3
                ∧ w5.ownsRow w1.heap.size 3 1 (.slice (some ⟨g3, 0, none⟩) (q + 1) cap3) (r * A + (c + 1)) ((List.range (r * A + (c + 1))).map fun k : Nat => .int .i64 (shiftN A B mx my f k)) ∧ Below w1.heap.size w1 w5 :=
              ⟨by omega, by simp, by rw [← Nat.add_assoc, HQ.out], by rw [← Nat.add_assoc, HQ.out, HM.out]; exact hown3, (HB4.out.alloc hs4 _).grown hgrow3 (by simp; omega) (fun q hq => (HX4.out.lt q hq).1)⟩
            first
              | exact ⟨c + 1, some ⟨g3, 0, none⟩, cap3, R⟩
              | ((repeat apply Exists.intro); exact ⟨⟨c + 1, some ⟨g3, 0, none⟩, cap3, R⟩, rfl⟩)
          case measure => simp [intOf]; omega
        · obtain rfl : c = A := by omega
          have HX := hide hX
          have HB2 := hide hb2
          clear hX hb2
          go_wp2
          go_roundw
          case rel =>
            have e : r * c + c = (r + 1) * c := by rw [Nat.add_mul, Nat.one_mul]
            exact ⟨r + 1, _, cpc, by omega, by go_num, by rw [e], by rw [← e]; exact HX.out, HB2.out⟩
          case measure => simp [intOf]; omega
    · obtain rfl : r = B := by omega
      have e : r * A = n := by rw [hmany.out, Nat.mul_comm]
      rw [e] at HA
      have HI := hide (own_in HA.out)
      obtain ⟨⟨u0, g0⟩, ⟨u1, g1⟩, u2, g2⟩ := PC.out.below HBR.out
      go_wp2
      refine bodyPost_ret (v := .tuple #[.agg #[.int .i64 A, .int .i64 r, .slice adr n cpr], .nilIface]) (by simp [results, Tryd.results47, go_sem, u0, u1, u2]) rfl ⟨_, rfl, ?_, ?_⟩
      · have hlt9 : w.heap.size + 1 + 1 < w1.heap.size := PC.out.lt
        exact Joins.ownsRow_le (ownsRow_setCell_below (ownsRow_setCell_below (ownsRow_setCell_below HA.out hlt9 _) hlt9 _) hlt9 _) B1.out.size
      · exact (((below_two B1.out HBR.out).setCell (by show w.heap.size ≤ w.heap.size + 1 + 1; omega) _).setCell (by show w.heap.size ≤ w.heap.size + 1 + 1; omega) _).setCell (by show w.heap.size ≤ w.heap.size + 1 + 1; omega) _

theorem pshift_ok {w : World} {s : Value} {n : Nat} {f : Nat → Int} {a b : Int} {A B : Nat} (mx my : Int) (h : IntsIn w s n f) (o : PicOk a b n f A B) (hm : farF mx my = 0) :
    Calls Tryd.prog 47 #[.agg #[.int .i64 a, .int .i64 b, s], .agg #[.int .i64 mx, .int .i64 my]] w fun e w' => ∃ v, e = .returned (.tuple #[.agg #[.int .i64 a, .int .i64 b, v], .nilIface]) ∧ IntsIn w' v n (shiftN A B mx my f) ∧ Below w.heap.size w w' := by
  refine (pshift_own mx my h o hm).mono ?_
  rintro e w' ⟨v, rfl, hv, hb⟩
  exact ⟨v, rfl, own_in hv, hb⟩
end Go.Proofs.YtfgcngjggdjcjaaDoor

namespace Go.Proofs.YtfgcngjggdjcjaaDoor
open Go.RowKit Go.Maps
set_option linter.unusedVariables false
set_option maxRecDepth 100000

/-- The best of the first moves, as the program has it: none yet is none, and as far as may be. -/
def mbX (D : Nat → Nat) (j : Nat) : Int := if j = 0 then 0 else mvX (bestI D j)
def mbY (D : Nat → Nat) (j : Nat) : Int := if j = 0 then 0 else mvY (bestI D j)
def mbL (D : Nat → Nat) (j : Nat) : Int := if j = 0 then 9223372036854775807 else (D (bestI D j) : Nat)
theorem mb_take {D : Nat → Nat} {j : Nat} (h : (D j : Int) < mbL D j) : mbX D (j + 1) = mvX j ∧ mbY D (j + 1) = mvY j ∧ mbL D (j + 1) = (D j : Nat) := by
  have e : bestI D (j + 1) = j := by
    rw [bestI_step]
    unfold mbL at h
    by_cases c : j = 0
    · subst c; split <;> rfl
    · rw [if_neg c] at h
      rw [if_pos (by omega)]
  unfold mbX mbY mbL
  rw [if_neg (by omega), if_neg (by omega), if_neg (by omega), e]
  exact ⟨rfl, rfl, rfl⟩
theorem mb_keep {D : Nat → Nat} {j : Nat} (h : ¬ (D j : Int) < mbL D j) (hD : D j ≤ 9180) : mbX D (j + 1) = mbX D j ∧ mbY D (j + 1) = mbY D j ∧ mbL D (j + 1) = mbL D j := by
  unfold mbL at h
  have hj : ¬ j = 0 := by
    intro c
    rw [if_pos c] at h
    omega
  rw [if_neg hj] at h
  have e : bestI D (j + 1) = bestI D j := by rw [bestI_step, if_neg (by omega)]
  unfold mbX mbY mbL
  rw [e]
  simp [hj]
theorem mbL_in {D : Nat → Nat} (h : ∀ i, D i ≤ 9180) (j : Nat) : 0 ≤ mbL D j ∧ mbL D j ≤ 9223372036854775807 := by
  unfold mbL
  split
  · omega
  · have := h (bestI D j); omega
theorem mv_at {r c : Nat} (hc : c < 3) : mvX (3 * r + c) = (c : Int) - 1 ∧ mvY (3 * r + c) = (r : Int) - 1 := by
  unfold mvX mvY; omega

/-- The blocks that Best works over. -/
structure Bs (w wr : World) (a b : Int) (s : Value) (a' b' : Int) (s' : Value) (kb : Nat) (X Y : Int) : Prop where
  p : PicIn wr w.heap.size a b s
  q : PicIn wr (w.heap.size + 1) a' b' s'
  r : MvIn wr (w.heap.size + 1 + 1) 0 0
  m : MvIn wr kb X Y
  hk : w.heap.size + 1 + 1 < kb
  b : Below w.heap.size w wr
theorem Bs.below {w wr w' : World} {a b : Int} {s : Value} {a' b' : Int} {s' : Value} {kb : Nat} {X Y : Int} (h : Bs w wr a b s a' b' s' kb X Y) (hb : Below wr.heap.size wr w') : Bs w w' a b s a' b' s' kb X Y :=
  ⟨h.p.below hb, h.q.below hb, h.r.below hb, h.m.below hb, h.hk, below_two h.b hb⟩
theorem Bs.put {w wr : World} {a b : Int} {s : Value} {a' b' : Int} {s' : Value} {kb : Nat} {X Y : Int} (h : Bs w wr a b s a' b' s' kb X Y) (X' Y' : Int) :
    Bs w ((wr.setCell ⟨kb, 0, none⟩ (.int .i64 X')).setCell ⟨kb, 1, none⟩ (.int .i64 Y')) a b s a' b' s' kb X' Y' := by
  have hk := h.hk
  refine ⟨(h.p.setOther (by omega) _).setOther (by omega) _, (h.q.setOther (by omega) _).setOther (by omega) _, (h.r.setOther (by omega) _).setOther (by omega) _, h.m.put _ _, h.hk, (h.b.setCell ?_ _).setCell ?_ _⟩
  · show w.heap.size ≤ kb; omega
  · show w.heap.size ≤ kb; omega

set_option maxHeartbeats 1000000 in
theorem mbest_bad {w : World} {s s' : Value} {n n' : Nat} {f f' : Nat → Int} (a b a' b' : Int) (h : IntsIn w s n f) (h' : IntsIn w s' n' f') (hx : twoF a b n f a' b' n' f' ≠ 0) :
    Calls Tryd.prog 46 #[.agg #[.int .i64 a, .int .i64 b, s], .agg #[.int .i64 a', .int .i64 b', s']] w fun e w' => e = .returned (.tuple #[.agg #[.int .i64 0, .int .i64 0], errN (twoF a b n f a' b' n' f')]) ∧ Below w.heap.size w w' := by
  obtain ⟨W1, hW1⟩ : ∃ W1, W1 = w.alloc (.cells #[.int .i64 a, .int .i64 b, s] 40) := ⟨_, rfl⟩
  obtain ⟨W2, hW2⟩ : ∃ W2, W2 = W1.alloc (.cells #[.int .i64 a', .int .i64 b', s'] 40) := ⟨_, rfl⟩
  obtain ⟨W3, hW3⟩ : ∃ W3, W3 = W2.alloc (.cells #[.int .i64 0, .int .i64 0] 43) := ⟨_, rfl⟩
  have b1 : Below w.heap.size w W1 := hW1 ▸ (Below.refl _ _).alloc (Nat.le_refl _) _
  have b12 : Below W1.heap.size W1 W2 := hW2 ▸ (Below.refl _ _).alloc (Nat.le_refl _) _
  have b23 : Below W2.heap.size W2 W3 := hW3 ▸ (Below.refl _ _).alloc (Nat.le_refl _) _
  have b3 := below_two (below_two b1 b12) b23
  have z1 : W1.heap.size = w.heap.size + 1 := by rw [hW1]; simp
  have z2 : W2.heap.size = w.heap.size + 1 + 1 := by rw [hW2]; simp [z1]
  have p3 : MvIn W3 (w.heap.size + 1 + 1) 0 0 := by
    have := mvIn_new W2 0 0
    rw [← hW3, z2] at this
    exact this
  have C := hide (punlike_bad a b a' b' (h.below b3) (h'.below b3) hx)
  have B3 := hide b3
  have P3 := hide p3
  rw [errN_pos hx] at *
  subst hW3
  subst hW2
  subst hW1
  clear h h' b1 b12 b23 b3 p3 z1 z2 hx
  generalize twoF a b n f a' b' n' f' = k at *
  go_enter Tryd.func46, Tryd.ntmps46
  go_wp2_with fail
  refine (C.out).mono ?_
  rintro e w1 ⟨rfl, hb1⟩
  obtain ⟨c0, c1, g0, g1⟩ := P3.out.below hb1
  have B1 := hide (below_two B3.out hb1)
  clear hb1
  go_wp2
  refine bodyPost_ret (v := .tuple #[.agg #[.int .i64 0, .int .i64 0], .iface 55 (.int .i64 k)]) (by simp [results, Tryd.results46, go_sem, c0, c1]) rfl ⟨rfl, ?_⟩
  exact ((B1.out.setCell (by show w.heap.size ≤ w.heap.size + 1 + 1; omega) _).setCell (by show w.heap.size ≤ w.heap.size + 1 + 1; omega) _)

set_option maxHeartbeats 4000000 in
theorem mbest_ok {w : World} {s s' : Value} {n : Nat} {f f' : Nat → Int} {a b a' b' : Int} {A B : Nat} (h : IntsIn w s n f) (h' : IntsIn w s' n f') (o : PicOk a b n f A B) (o' : PicOk a' b' n f' A B) :
    Calls Tryd.prog 46 #[.agg #[.int .i64 a, .int .i64 b, s], .agg #[.int .i64 a', .int .i64 b', s']] w fun e w' => e = .returned (.tuple #[.agg #[.int .i64 (bsX A B f f' n), .int .i64 (bsY A B f f' n)], .nilIface]) ∧ Below w.heap.size w w' := by
  obtain ⟨W1, hW1⟩ : ∃ W1, W1 = w.alloc (.cells #[.int .i64 a, .int .i64 b, s] 40) := ⟨_, rfl⟩
  obtain ⟨W2, hW2⟩ : ∃ W2, W2 = W1.alloc (.cells #[.int .i64 a', .int .i64 b', s'] 40) := ⟨_, rfl⟩
  obtain ⟨W3, hW3⟩ : ∃ W3, W3 = W2.alloc (.cells #[.int .i64 0, .int .i64 0] 43) := ⟨_, rfl⟩
  have b1 : Below w.heap.size w W1 := hW1 ▸ (Below.refl _ _).alloc (Nat.le_refl _) _
  have b12 : Below W1.heap.size W1 W2 := hW2 ▸ (Below.refl _ _).alloc (Nat.le_refl _) _
  have b23 : Below W2.heap.size W2 W3 := hW3 ▸ (Below.refl _ _).alloc (Nat.le_refl _) _
  have b3 := below_two (below_two b1 b12) b23
  have z1 : W1.heap.size = w.heap.size + 1 := by rw [hW1]; simp
  have z2 : W2.heap.size = w.heap.size + 1 + 1 := by rw [hW2]; simp [z1]
  have z3 : W3.heap.size = w.heap.size + 1 + 1 + 1 := by rw [hW3]; simp [z2]
  have p1 : PicIn W3 w.heap.size a b s := PicIn.below (hW1 ▸ picIn_new w a b s) (below_two b12 b23)
  have p2 : PicIn W3 (w.heap.size + 1) a' b' s' := by
    have := picIn_new W1 a' b' s'
    rw [← hW2, z1] at this
    exact this.below b23
  have p3 : MvIn W3 (w.heap.size + 1 + 1) 0 0 := by
    have := mvIn_new W2 0 0
    rw [← hW3, z2] at this
    exact this
  have C := hide (punlike_ok (h.below b3) (h'.below b3) o o')
  have B3 := hide b3
  have P1 := hide p1
  have P2 := hide p2
  have P3 := hide p3
  have HS := hide h
  have HS' := hide h'
  have hl := o.le
  have h0 := o.pos
  have KS := hide (fun (wc : World) (x y : Int) (hw : IntsIn wc s n f) (hm : farF x y = 0) => pshift_ok x y hw o hm)
  have KA := hide (fun (wc : World) (u : Value) (x y : Int) (hu : IntsIn wc u n (shiftN A B x y f)) (hw : IntsIn wc s' n f') => mapart_ok hu hw h0 hl (o.shift x y).pix o'.pix)
  have HD := hide (apN_le o o'.pix)
  have HA : Hid (∀ i, apN A B f f' n i = sumN (shiftN A B (mvX i) (mvY i) f) f' n) := fun i => rfl
  have HX : Hid (mbX (apN A B f f' n) 9 = bsX A B f f' n) := rfl
  have HY : Hid (mbY (apN A B f f' n) 9 = bsY A B f f' n) := rfl
  generalize bsX A B f f' n = bx at *
  generalize bsY A B f f' n = by_ at *
  generalize apN A B f f' n = D at *
  generalize mostN f f' n = mm at *
  obtain ⟨ads, caps, rfl⟩ := slice_shape h
  obtain ⟨ads', caps', rfl⟩ := slice_shape h'
  clear h h' b1 b12 b23 b3 p1 p2 p3 z1 z2 o o'
  have z3' := hide z3
  rw [hW3, hW2, hW1] at z3'
  clear z3
  subst hW3
  subst hW2
  subst hW1
  go_enter Tryd.func46, Tryd.ntmps46
  go_wp2_with fail
  refine (C.out).mono ?_
  rintro e w1 ⟨rfl, hb1⟩
  obtain ⟨W4, hW4⟩ : ∃ W4, W4 = w1.alloc (.cells #[.int .i64 0, .int .i64 0] 43) := ⟨_, rfl⟩
  have b14 : Below w1.heap.size w1 W4 := hW4 ▸ (Below.refl _ _).alloc (Nat.le_refl _) _
  have HB0 : Hid (Bs w W4 a b (.slice ads n caps) a' b' (.slice ads' n caps') w1.heap.size 0 0) := by
    refine ⟨(P1.out.below hb1).below b14, (P2.out.below hb1).below b14, (P3.out.below hb1).below b14, hW4 ▸ mvIn_new w1 0 0, ?_, below_two (below_two B3.out hb1) b14⟩
    have := hb1.size
    rw [z3'.out] at this
    omega
  subst hW4
  clear hb1 b14 P1 P2 P3 B3 C z3'
  go_wp2
  go_loopw [9, 10] (fun l y wr => ∃ (r : Nat) (yi : Int), r ≤ 3 ∧ Hid (yi = (r : Int) - 1) ∧ y = .int .i64 yi ∧ l = .int .i64 (mbL D (3 * r)) ∧ Hid (Bs w wr a b (.slice ads n caps) a' b' (.slice ads' n caps') w1.heap.size (mbX D (3 * r)) (mbY D (3 * r)))) (fun _ y _ => 3 - (intOf y + 1).toNat)
  case atStart => exact ⟨0, -1, by omega, by unfold Hid; rfl, rfl, rfl, HB0⟩
  case round =>
    obtain ⟨r, yi, hr, hyi, rfl, rfl, HR⟩ := hrel
    have y0 : -1 ≤ yi := by have := hyi.out; omega
    by_cases hlt : r < 3
    · have y1 : yi ≤ 1 := by have := hyi.out; omega
      have y2 : decide (yi ≤ 1) = true := decide_eq_true y1
      go_wp2
      go_loopw [9, 11] (fun l x wr => ∃ (c : Nat) (xi : Int), c ≤ 3 ∧ Hid (xi = (c : Int) - 1) ∧ x = .int .i64 xi ∧ l = .int .i64 (mbL D (3 * r + c)) ∧ Hid (Bs w wr a b (.slice ads n caps) a' b' (.slice ads' n caps') w1.heap.size (mbX D (3 * r + c)) (mbY D (3 * r + c)))) (fun _ x _ => 3 - (intOf x + 1).toNat)
      case atStart => exact ⟨0, -1, by omega, by unfold Hid; rfl, rfl, rfl, HR⟩
      case round =>
        obtain ⟨c, xi, hc, hxi, rfl, rfl, HC⟩ := hrel
        have x0 : -1 ≤ xi := by have := hxi.out; omega
        by_cases hlc : c < 3
        · have x1 : xi ≤ 1 := by have := hxi.out; omega
          obtain ⟨ex, ey⟩ := mv_at (r := r) hlc
          rw [← hxi.out] at ex
          rw [← hyi.out] at ey
          have hj9 : 3 * r + c < 9 := by omega
          have hfar := mv_far hj9
          have hDj := HD.out (3 * r + c)
          have hLj := mbL_in HD.out (3 * r + c)
          have HT := hide (@mb_take D (3 * r + c))
          have HK := hide (@mb_keep D (3 * r + c))
          have HAj := hide (HA.out (3 * r + c))
          rw [ex, ey] at hfar HAj HT
          generalize hj : 3 * r + c = j at *
          have HJ := hide hj
          clear hj ex ey
          generalize mbX D j = X at *
          generalize mbY D j = Y at *
          generalize mbL D j = L at *
          obtain ⟨l0, l1⟩ := hLj
          obtain ⟨W5, hW5⟩ : ∃ W5, W5 = wr.alloc (.cells #[.int .i64 xi, .int .i64 yi] 43) := ⟨_, rfl⟩
          have b5 : Below wr.heap.size wr W5 := hW5 ▸ (Below.refl _ _).alloc (Nat.le_refl _) _
          have H5 := hide (HC.out.below b5)
          have M5 : Hid (MvIn W5 wr.heap.size xi yi) := hide (hW5 ▸ mvIn_new wr _ _)
          have K5 := hide (KS.out W5 _ _ (HS.out.below H5.out.b) hfar)
          obtain ⟨⟨c0, _⟩, ⟨c1, _⟩, c2, _⟩ := H5.out.p
          obtain ⟨c3, c4, _, _⟩ := M5.out
          subst hW5
          clear b5 HC hfar
          go_wp2_with fail
          refine (K5.out).mono ?_
          rintro e w6 ⟨v, rfl, hv, hb6⟩
          obtain ⟨adv, capv, rfl⟩ := slice_shape hv
          obtain ⟨W7, hW7⟩ : ∃ W7, W7 = w6.alloc (.cells #[.int .i64 a, .int .i64 b, .slice adv n capv] 40) := ⟨_, rfl⟩
          have b7 : Below w6.heap.size w6 W7 := hW7 ▸ (Below.refl _ _).alloc (Nat.le_refl _) _
          have H7 := hide ((H5.out.below hb6).below b7)
          have M7 := hide ((M5.out.below hb6).below b7)
          have Q7 : Hid (PicIn W7 w6.heap.size a b (.slice adv n capv)) := hide (hW7 ▸ picIn_new w6 _ _ _)
          have K7 := hide (KA.out W7 _ _ _ (hv.below b7) (HS'.out.below H7.out.b))
          rw [← HAj.out] at K7
          subst hW7
          clear hv hb6 b7 K5 H5 M5 c0 c1 c2 c3 c4
          obtain ⟨⟨c0, _⟩, ⟨c1, _⟩, c2, _⟩ := Q7.out
          obtain ⟨⟨c3, _⟩, ⟨c4, _⟩, c5, _⟩ := H7.out.q
          generalize D j = d at *
          go_wp2_with fail
          refine (K7.out).mono ?_
          rintro e w8 ⟨rfl, hb8⟩
          have H8 := hide (H7.out.below hb8)
          have M8 := hide (M7.out.below hb8)
          clear hb8 K7 H7 M7 Q7 c0 c1 c2 c3 c4 c5
          obtain ⟨c0, c1, _, _⟩ := M8.out
          obtain ⟨d0, d1, f0, f1⟩ := H8.out.m
          by_cases hd : (d : Int) < L
          · have HT' := hide (HT.out hd)
            have HP := hide (H8.out.put xi yi)
            clear HT HK
            go_wp2
            go_roundw
            case rel =>
              obtain ⟨t0, t1, t2⟩ := HT'.out
              have e4 : Hid (xi + 1 = ((c + 1 : Nat) : Int) - 1) := by have := hxi.out; unfold Hid; omega
              have e : 3 * r + (c + 1) = j + 1 := by have := HJ.out; omega
              have e2 : Value.int .i64 (d : Nat) = .int .i64 (mbL D (3 * r + (c + 1))) := by rw [e, t2]
              have e3 : Hid (Bs w ((w8.setCell ⟨w1.heap.size, 0, none⟩ (.int .i64 xi)).setCell ⟨w1.heap.size, 1, none⟩ (.int .i64 yi)) a b (.slice ads n caps) a' b' (.slice ads' n caps') w1.heap.size (mbX D (3 * r + (c + 1))) (mbY D (3 * r + (c + 1)))) := by
                rw [e, t0, t1]; exact HP
              first
                | exact ⟨c + 1, xi + 1, by omega, e4, rfl, e2, e3⟩
                | ((repeat apply Exists.intro); exact ⟨⟨c + 1, xi + 1, by omega, e4, rfl, e2, e3⟩, rfl⟩)
            case measure => simp [intOf]; omega
          · have HK' := hide (HK.out (by omega) hDj)
            clear HT HK
            go_wp2
            go_roundw
            case rel =>
              obtain ⟨t0, t1, t2⟩ := HK'.out
              have e4 : Hid (xi + 1 = ((c + 1 : Nat) : Int) - 1) := by have := hxi.out; unfold Hid; omega
              have e : 3 * r + (c + 1) = j + 1 := by have := HJ.out; omega
              have e2 : Value.int .i64 L = .int .i64 (mbL D (3 * r + (c + 1))) := by rw [e, t2]
              have e3 : Hid (Bs w w8 a b (.slice ads n caps) a' b' (.slice ads' n caps') w1.heap.size (mbX D (3 * r + (c + 1))) (mbY D (3 * r + (c + 1)))) := by
                rw [e, t0, t1]; exact H8
              first
                | exact ⟨c + 1, xi + 1, by omega, e4, rfl, e2, e3⟩
                | ((repeat apply Exists.intro); exact ⟨⟨c + 1, xi + 1, by omega, e4, rfl, e2, e3⟩, rfl⟩)
            case measure => simp [intOf]; omega
        · obtain rfl : c = 3 := by omega
          have x1 : 1 < xi := by have := hxi.out; omega
          have x2 : xi ≤ 2 := by have := hxi.out; omega
          go_wp2
          go_roundw
          case rel =>
            have e4 : Hid (yi + 1 = ((r + 1 : Nat) : Int) - 1) := by have := hyi.out; unfold Hid; omega
            first
              | exact ⟨r + 1, yi + 1, by omega, e4, rfl, rfl, HC⟩
              | ((repeat apply Exists.intro); exact ⟨⟨r + 1, yi + 1, by omega, e4, rfl, rfl, HC⟩, rfl⟩)
          case measure => simp [intOf]; omega
    · obtain rfl : r = 3 := by omega
      have y1 : 1 < yi := by have := hyi.out; omega
      have y2 : yi ≤ 2 := by have := hyi.out; omega
      have HX' : mbX D (3 * 3) = bx := HX.out
      have HY' : mbY D (3 * 3) = by_ := HY.out
      rw [HX', HY'] at HR
      clear HX' HY' HX HY
      obtain ⟨d0, d1, _, _⟩ := HR.out.m
      obtain ⟨e0, e1, g0, g1⟩ := HR.out.r
      go_wp2
      refine bodyPost_ret (v := .tuple #[.agg #[.int .i64 bx, .int .i64 by_], .nilIface]) (by simp [results, Tryd.results46, go_sem, e0, e1]) rfl ⟨rfl, ?_⟩
      exact ((HR.out.b.setCell (by show w.heap.size ≤ w.heap.size + 1 + 1; omega) _).setCell (by show w.heap.size ≤ w.heap.size + 1 + 1; omega) _)
end Go.Proofs.YtfgcngjggdjcjaaDoor
