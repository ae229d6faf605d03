/-
  Lemmas for the law above, joined into one text (RPicO, RWith, RShift, RMvD). No statement is proved here.
-/
import Derived.Test.YtjhflcgphejddaaDoorHG9
import Derived.Test.YtjhflcgphejddaaDoorHG5
import Derived.Test.YtjhflcgphejddaaDoorHG6
import Derived.Test.YtjhflcgphejddaaDoorHG4
import Derived.Test.YtjhflcgphejddaaDoorHG12
import Derived.Maps.AppendAt
import Derived.Deep.RegionLaw
import Derived.Deep.DrawnRows
import Derived.Deep.DeepCutAuto
import Derived.Deep.QuietTactic
import Derived.BigQuiet
import Derived.Test.YtjhflcgphejddaaDoorHG23
import Derived.Test.YtjhflcgphejddaaDoorHG2
import Derived.Test.YtjhflcgphejddaaDoorHG8
namespace Go.Proofs.YtjhflcgphejddaaDoor
open Go.RowKit
set_option linter.unusedVariables false
set_option maxRecDepth 100000

set_option maxHeartbeats 1000000 in
theorem rpic_ok {w : World} {s : Value} {n : Nat} {f : Nat → Int} (a b : Int) (h : IntsIn w s n f) :
    Calls Tryd.prog 55 #[.agg #[.int .i64 a, .int .i64 b, s]] w fun e w' => e = .returned (.int .i64 (picF a b n f : Nat)) ∧ Below w.heap.size w w' := by
  have hb0 : Below w.heap.size w (w.alloc (.cells #[.int .i64 a, .int .i64 b, s] 46)) := (Below.refl _ _).alloc (Nat.le_refl _) _
  have HB := hide hb0
  have H0 := hide (h.below hb0)
  obtain ⟨⟨c0, _⟩, ⟨c1, _⟩, c2, _⟩ := picIn_new w a b s
  obtain ⟨ad, cap, rfl⟩ : ∃ ad cap, s = .slice ad n cap := by
    rcases h with ⟨rfl, a, c, rfl⟩ | ⟨_, b, o, c, rfl, _⟩
    · exact ⟨_, _, rfl⟩
    · exact ⟨_, _, rfl⟩
  have HP : Hid (picF a b n f = if sidesOk a b = false then 1 else if (n : Int) ≠ a * b then 3 else if pixOk n f = false then 1 else 0) := rfl
  clear hb0 h
  by_cases hs : 1 ≤ a ∧ a ≤ 6 ∧ 1 ≤ b ∧ b ≤ 6
  · have hsid := sidesOk_iff.2 hs
    obtain ⟨s1, s2, s3, s4⟩ := hs
    have hp0 : 0 ≤ a * b := Int.mul_nonneg (by omega) (by omega)
    have hp1 : a * b ≤ 36 := by
      have e1 : a * b ≤ 6 * b := Int.mul_le_mul_of_nonneg_right (by omega) (by omega)
      omega
    rw [hsid, if_neg (by simp)] at HP
    clear hsid
    by_cases hn : (n : Int) = a * b
    · have hn1 : ((n : Int) == a * b) = true := by rw [beq_iff_eq]; exact hn
      have hn3 : ((n : Int) != a * b) = false := by simp [bne, hn1]
      have hn2 : n ≤ 36 := by omega
      have hn0 : 0 < n := by
        have e1 : 1 * b ≤ a * b := Int.mul_le_mul_of_nonneg_right (by omega) (by omega)
        omega
      rw [if_neg (by simp [hn])] at HP
      clear hn
      obtain ⟨bb, oo, rfl, hc⟩ : ∃ bb oo, ad = some ⟨bb, oo, none⟩ ∧ ∀ i, i < n → (w.alloc (.cells #[.int .i64 a, .int .i64 b, .slice ad n cap] 46)).cell? ⟨bb, oo + i, none⟩ = some (.int .i64 (f i)) := by
        rcases H0.out with ⟨h, _⟩ | ⟨_, b', o', c', e, hc⟩
        · omega
        · cases e
          exact ⟨_, _, rfl, hc⟩
      have HC := hide hc
      clear H0 hc
      go_enter Tryd.func55, Tryd.ntmps55
      go_wp2
      go_loop [3] (fun i => ∃ j : Nat, j ≤ n ∧ i = .int .i64 j ∧ ∀ q, q < j → 0 ≤ f q ∧ f q ≤ 255) (fun i => n - (intOf i).toNat)
      case atStart => exact ⟨0, Nat.zero_le _, rfl, fun q hq => absurd hq (Nat.not_lt_zero _)⟩
      case round =>
        obtain ⟨j, hj, rfl, hno⟩ := hrel
        have HN := hide hno
        clear hno
        by_cases hlt : j < n
        · have hcj := HC.out j hlt
          by_cases hx : 0 ≤ f j ∧ f j ≤ 255
          · have HX := hide hx
            obtain ⟨x0, x1⟩ := hx
            generalize hz : f j = z at *
            have HZ := hide hz
            clear hz
            go_wp2
            go_round
            case rel =>
              refine ⟨j + 1, by omega, by go_num, fun q hq => ?_⟩
              by_cases c : q = j
              · rw [c, HZ.out]; exact HX.out
              · exact HN.out q (by omega)
            case measure => simp [intOf]; omega
          · have HE : Hid (picF a b n f = 1) := by
              unfold Hid
              rw [HP.out, if_pos]
              rw [← Bool.not_eq_true, pixOk_iff]
              exact fun h => hx (h j hlt)
            have hx' : f j < 0 ∨ (0 ≤ f j ∧ 255 < f j) := by omega
            clear hx
            generalize f j = z at *
            rcases hx' with x0 | ⟨x0, x1⟩
            · go_wp2
              go_ret
              exact ⟨by rw [HE.out]; rfl, HB.out⟩
            · go_wp2
              go_ret
              exact ⟨by rw [HE.out]; rfl, HB.out⟩
        · obtain rfl : j = n := by omega
          have HE : Hid (picF a b j f = 0) := by
            unfold Hid
            rw [HP.out, if_neg]
            rw [pixOk_iff.2 HN.out]; simp
          go_wp2
          go_ret
          exact ⟨by rw [HE.out]; rfl, HB.out⟩
    · have hn1 : ((n : Int) == a * b) = false := by rw [beq_eq_false_iff_ne]; exact hn
      have hn3 : ((n : Int) != a * b) = true := by simp [bne, hn1]
      have HE : Hid (picF a b n f = 3) := by unfold Hid; rw [HP.out, if_pos hn]
      clear hn HP H0
      go_enter Tryd.func55, Tryd.ntmps55
      go_wp2
      go_ret
      exact ⟨by rw [HE.out]; rfl, HB.out⟩
  · have HE : Hid (picF a b n f = 1) := by
      unfold Hid
      rw [HP.out, if_pos]
      rw [← Bool.not_eq_true, sidesOk_iff]; exact hs
    have h' : a < 1 ∨ (1 ≤ a ∧ 6 < a) ∨ (1 ≤ a ∧ a ≤ 6 ∧ b < 1) ∨ (1 ≤ a ∧ a ≤ 6 ∧ 1 ≤ b ∧ 6 < b) := by omega
    clear hs HP H0
    rcases h' with h | ⟨h1, h⟩ | ⟨h1, h2, h⟩ | ⟨h1, h2, h3, h⟩ <;>
    · go_enter Tryd.func55, Tryd.ntmps55
      go_wp2
      go_ret
      exact ⟨by rw [HE.out]; rfl, HB.out⟩

end Go.Proofs.YtjhflcgphejddaaDoor

namespace Go.Proofs.YtjhflcgphejddaaDoor
open Go.RowKit
set_option linter.unusedVariables false
set_option maxRecDepth 100000

theorem rwithin_ok (x : Int) (m : Nat) (w : World) (hm : 1 ≤ m) :
    Calls Tryd.prog 54 #[.int .i64 x, .int .i64 ((m : Int) - 1)] w fun e w' => e = .returned (.int .i64 (near x m : Nat)) ∧ w = w' := by
  rw [near_int x hm]
  by_cases h : x < 0
  · have e : min (max x 0) ((m : Int) - 1) = 0 := by omega
    rw [e]
    clear e
    go_enter Tryd.func54, Tryd.ntmps54
    go_wp2
    go_ret
    exact ⟨rfl, rfl⟩
  · by_cases h2 : (m : Int) - 1 < x
    · have e : min (max x 0) ((m : Int) - 1) = (m : Int) - 1 := by omega
      rw [e]
      clear e
      go_enter Tryd.func54, Tryd.ntmps54
      go_wp2
      go_ret
      exact ⟨rfl, rfl⟩
    · have e : min (max x 0) ((m : Int) - 1) = x := by omega
      rw [e]
      clear e
      go_enter Tryd.func54, Tryd.ntmps54
      go_wp2
      go_ret
      exact ⟨rfl, rfl⟩
end Go.Proofs.YtjhflcgphejddaaDoor

namespace Go.Proofs.YtjhflcgphejddaaDoor
open Go.RowKit Go.Maps
set_option linter.unusedVariables false
set_option maxRecDepth 100000

/-- The blocks that dropref2's Shift works over, behind so many pixels. -/
structure RSh (w wr : World) (a b : Int) (s : Value) (n : Nat) (mx my : Int) (v : Value) (j : Nat) (F : Nat → Int) : Prop where
  p : PicIn wr w.heap.size a b s
  m : MoveIn wr (w.heap.size + 1) mx my
  r : PicIn wr (w.heap.size + 1 + 1) 0 0 (.slice none 0 0)
  q : PicIn wr (w.heap.size + 1 + 1 + 1) a b v
  own : wr.ownsRow (w.heap.size + 1 + 1 + 1 + 1) 3 1 v j ((List.range j).map fun k : Nat => .int .i64 (F k))
  big : w.heap.size + 1 + 1 + 1 + 1 ≤ wr.heap.size
  b : Below w.heap.size w wr
theorem RSh.below {w wr w' : World} {a b : Int} {s : Value} {n : Nat} {mx my : Int} {v : Value} {j : Nat} {F : Nat → Int} (h : RSh w wr a b s n mx my v j F) (hb : Below wr.heap.size wr w') : RSh w w' a b s n mx my v j F :=
  ⟨h.p.below hb, h.m.below hb, h.r.below hb, h.q.below hb, own_under' h.own hb, Nat.le_trans h.big hb.size, below_two h.b hb⟩
theorem RSh.stored {w wr w' : World} {a b : Int} {s : Value} {n : Nat} {mx my : Int} {v : Value} {j : Nat} {F : Nat → Int} (h : RSh w wr a b s n mx my v j F) (hb : Below (w.heap.size + 1 + 1 + 1 + 1) wr w') {v' : Value}
    (hown : w'.ownsRow (w.heap.size + 1 + 1 + 1 + 1) 3 1 v' (j + 1) ((List.range (j + 1)).map fun k : Nat => .int .i64 (F k))) : RSh w (w'.setCell ⟨w.heap.size + 1 + 1 + 1, 2, none⟩ v') a b s n mx my v' (j + 1) F :=
  ⟨(h.p.mono hb (by omega)).setOther (by omega) _, (h.m.mono hb (by omega)).setOther (by omega) _, (h.r.mono hb (by omega)).setOther (by omega) _, (h.q.mono hb (by omega)).setPix _,
    ownsRow_setCell_below hown (by show w.heap.size + 1 + 1 + 1 < w.heap.size + 1 + 1 + 1 + 1; omega) _, Nat.le_trans h.big (by have := hb.size; simpa [World.setCell] using this), (h.b.trans (hb.mono (by omega))).setCell (by show w.heap.size ≤ w.heap.size + 1 + 1 + 1; omega) _⟩

set_option maxHeartbeats 4000000 in
theorem rshift_ok {w : World} {s : Value} {n : Nat} {f : Nat → Int} {a b : Int} {A B : Nat} (mx my : Int) (h : IntsIn w s n f) (o : PicOk a b n f A B) (hm : farF mx my = 0) :
    Calls Tryd.prog 56 #[.agg #[.int .i64 a, .int .i64 b, s], .agg #[.int .i64 mx, .int .i64 my]] w fun e w' => ∃ v, e = .returned (.agg #[.int .i64 a, .int .i64 b, v]) ∧ IntsIn w' v n (shiftN A B mx my f) ∧ Below w.heap.size w w' ∧ ∀ g, v.ownBlock = some g → w.heap.size ≤ g := by
  obtain ⟨W1, hW1⟩ : ∃ W1, W1 = w.alloc (.cells #[.int .i64 a, .int .i64 b, s] 46) := ⟨_, rfl⟩
  obtain ⟨W2, hW2⟩ : ∃ W2, W2 = W1.alloc (.cells #[.int .i64 mx, .int .i64 my] 38) := ⟨_, rfl⟩
  obtain ⟨W3, hW3⟩ : ∃ W3, W3 = W2.alloc (.cells #[.int .i64 0, .int .i64 0, .slice none 0 0] 46) := ⟨_, rfl⟩
  obtain ⟨W4, hW4⟩ : ∃ W4, W4 = W3.alloc (.cells #[.int .i64 a, .int .i64 b, .slice none 0 0] 46) := ⟨_, rfl⟩
  have b1 : Below w.heap.size w W1 := hW1 ▸ (Below.refl _ _).alloc (Nat.le_refl _) _
  have b12 : Below W1.heap.size W1 W2 := hW2 ▸ (Below.refl _ _).alloc (Nat.le_refl _) _
  have b23 : Below W2.heap.size W2 W3 := hW3 ▸ (Below.refl _ _).alloc (Nat.le_refl _) _
  have b34 : Below W3.heap.size W3 W4 := hW4 ▸ (Below.refl _ _).alloc (Nat.le_refl _) _
  have b4 := below_two (below_two (below_two b1 b12) b23) b34
  have z1 : W1.heap.size = w.heap.size + 1 := by rw [hW1]; simp
  have z2 : W2.heap.size = w.heap.size + 1 + 1 := by rw [hW2]; simp [z1]
  have z3 : W3.heap.size = w.heap.size + 1 + 1 + 1 := by rw [hW3]; simp [z2]
  have z4 : W4.heap.size = w.heap.size + 1 + 1 + 1 + 1 := by rw [hW4]; simp [z3]
  have H0 : RSh w W4 a b s n mx my (.slice none 0 0) 0 (shiftN A B mx my f) := by
    refine ⟨PicIn.below (hW1 ▸ picIn_new w a b s) (below_two (below_two b12 b23) b34), ?_, ?_, ?_, World.ownsRow_nil _ _ _ _, by omega, b4⟩
    · have := moveIn_new W1 mx my
      rw [← hW2, z1] at this
      exact this.below (below_two b23 b34)
    · have := picIn_new W2 0 0 (.slice none 0 0)
      rw [← hW3, z2] at this
      exact this.below b34
    · have := picIn_new W3 a b (.slice none 0 0)
      rw [← hW4, z3] at this
      exact this
  have HR0 := hide H0
  obtain ⟨m1, m2, m3, m4⟩ := farF_zero.1 hm
  have hl := o.le
  have h0 := o.pos
  obtain ⟨ads, os, caps, rfl, hc⟩ : ∃ ad oo cap, s = .slice (some ⟨ad, oo, none⟩) n cap ∧ ∀ i, i < n → w.cell? ⟨ad, oo + i, none⟩ = some (.int .i64 (f i)) := by
    rcases h with ⟨h, _⟩ | ⟨_, b, o, c, rfl, hc⟩
    · omega
    · exact ⟨_, _, _, rfl, hc⟩
  have HC := hide hc
  have ea := o.wide
  have eb := o.high
  subst ea
  subst eb
  have a1 := o.w1
  have a6 := o.w6
  have o1 := o.h1
  have o6 := o.h6
  have hmany := hide o.many
  obtain ⟨⟨c0, _⟩, ⟨c1, _⟩, c2, _⟩ := H0.p
  obtain ⟨⟨c3, _⟩, ⟨c4, _⟩, c5, _⟩ := H0.q
  subst hW4
  subst hW3
  subst hW2
  subst hW1
  obtain ⟨i0, hi0, hz0, hz1, hz2⟩ := info_parts Tryd.infoInt
  have Hi := hide hi0
  have Hz0 := hide hz0
  have Hz1 := hide hz1
  have Hz2 := hide hz2
  clear h o hm hc H0 b1 b12 b23 b34 b4 z1 z2 z3 z4 hi0 hz0 hz1 hz2
  go_enter Tryd.func56, Tryd.ntmps56
  go_wp2
  clear c0 c1 c2 c3 c4 c5
  go_loopw [6, 7, 8] (fun i _ _ wr => ∃ (j : Nat) (v : Value), j ≤ n ∧ i = .int .i64 j ∧ RSh w wr A B (.slice (some ⟨ads, os, none⟩) n caps) n mx my v j (shiftN A B mx my f)) (fun i _ _ _ => n - (intOf i).toNat)
  case atStart => exact ⟨0, _, Nat.zero_le _, rfl, HR0.out⟩
  case round =>
    obtain ⟨j, v, hj, rfl, hr⟩ := hrel
    have HR := hide hr
    obtain ⟨⟨c0, _⟩, ⟨c1, _⟩, c2, _⟩ := hr.p
    obtain ⟨c3, c4⟩ := hr.m
    by_cases hlt : j < n
    · have hq1 : j / A < B := Nat.div_lt_of_lt_mul (by rw [← hmany.out]; exact hlt)
      have hr1 : j % A < A := Nat.mod_lt _ (by omega)
      have e1 : (j : Int) / (A : Int) = ((j / A : Nat) : Int) := (Int.natCast_ediv j A).symm
      have e2 : (j : Int) % (A : Int) = ((j % A : Nat) : Int) := (Int.natCast_emod j A).symm
      have e3 : (j : Int).tdiv (A : Int) = ((j / A : Nat) : Int) := by rw [Int.tdiv_eq_ediv_of_nonneg (by omega)]; exact e1
      have e4 : (j : Int).tmod (A : Int) = ((j % A : Nat) : Int) := by rw [Int.tmod_eq_emod_of_nonneg (by omega)]; exact e2
      have K1 := hide (fun w => rwithin_ok (((j % A : Nat) : Int) - mx) A w a1)
      have K2 := hide (fun w => rwithin_ok (((j / A : Nat) : Int) - my) B w o1)
      have n1 := near_lt (((j % A : Nat) : Int) - mx) a1
      have n2 := near_lt (((j / A : Nat) : Int) - my) o1
      have hfrom : Hid (fromAt A B mx my j = near (((j / A : Nat) : Int) - my) B * A + near (((j % A : Nat) : Int) - mx) A) := rfl
      have hfl := fromAt_lt a1 o1 mx my j
      rw [← hmany.out] at hfl
      have hcell : Hid (∀ w', Below w.heap.size w w' → w'.cell? ⟨ads, os + fromAt A B mx my j, none⟩ = some (.int .i64 (shiftN A B mx my f j))) := fun w' hb => cell_below hb (HC.out _ hfl)
      have HM : Hid ((List.range (j + 1)).map (fun k : Nat => Value.int .i64 (shiftN A B mx my f k)) = (List.range j).map (fun k : Nat => Value.int .i64 (shiftN A B mx my f k)) ++ [.int .i64 (shiftN A B mx my f j)]) := by
        unfold Hid; rw [List.range_succ, List.map_append]; rfl
      generalize shiftN A B mx my f j = z at *
      generalize hF : fromAt A B mx my j = fr at *
      clear hF
      generalize near (((j / A : Nat) : Int) - my) B = yy at *
      generalize near (((j % A : Nat) : Int) - mx) A = xx at *
      generalize j / A = jq at *
      generalize j % A = jr at *
      have hfi : (yy : Int) * (A : Int) + (xx : Int) = (fr : Int) := by rw [hfrom.out, Int.natCast_add, Int.natCast_mul]
      have hp0 : (0 : Int) ≤ (yy : Int) * (A : Int) := Int.mul_nonneg (by omega) (by omega)
      have hp1 : (yy : Int) * (A : Int) ≤ 36 := by omega
      have HB := hide hr.b
      have hA0 : ¬ A = 0 := by omega
      have hwj : IntKind.i64.wrap (jq : Int) = (jq : Int) := by rw [IntKind.wrap_i64]; omega
      have hwk : IntKind.i64.wrap ((jq : Int) - my) = (jq : Int) - my := by rw [IntKind.wrap_i64]; omega
      have hwl : IntKind.i64.wrap ((B : Int) - 1) = (B : Int) - 1 := by rw [IntKind.wrap_i64]; omega
      clear hr
      go_wp2_with fail
      go_quiet ((go_at_call 54; exact Calls.quiet_of_same ((K1.out _).mono fun e w' ⟨h1, h2⟩ => ⟨h1, h2.symm⟩)))
      have HR1 := hide (HR.out.below (below_drewN (Below.refl _ wr) nq))
      clear c0 c1 c2 c3 c4
      generalize wr.drewN nq = v1 at *
      obtain ⟨⟨c0, _⟩, ⟨c1, _⟩, c2, _⟩ := HR1.out.p
      obtain ⟨c3, c4⟩ := HR1.out.m
      go_wp2_with fail
      go_quiet ((go_at_call 54; exact Calls.quiet_of_same ((K2.out _).mono fun e w' ⟨h1, h2⟩ => ⟨h1, h2.symm⟩)))
      have HR2 := hide (HR1.out.below (below_drewN (Below.refl _ v1) nq))
      clear c0 c1 c2 c3 c4 HR HR1 HB
      generalize v1.drewN nq = v2 at *
      obtain ⟨⟨c0, _⟩, ⟨c1, _⟩, c2, _⟩ := HR2.out.p
      obtain ⟨⟨c3, _⟩, ⟨c4, _⟩, c5, g5⟩ := HR2.out.q
      have hcj := hcell.out v2 HR2.out.b
      have hbig := HR2.out.big
      obtain ⟨adv, capv, rfl⟩ : ∃ a c, v = .slice a j c := by
        rcases HR2.out.own.2 with ⟨rfl, rfl⟩ | ⟨g, cap, cur, rfl, _⟩
        · exact ⟨_, _, rfl⟩
        · exact ⟨_, _, rfl⟩
      go_wp2_with fail
      have HOW := hide (own_under' HR2.out.own (show Below v2.heap.size v2 (v2.drew.alloc (.cells #[.int .i64 z] 3)) from (Below.refl _ v2).drew.alloc (Nat.le_refl _) _))
      have hwx : IntKind.i64.wrap ((yy : Int) * (A : Int)) = (yy : Int) * (A : Int) := by rw [IntKind.wrap_i64]; omega
      have hwy : IntKind.i64.wrap (fr : Int) = (fr : Int) := by rw [IntKind.wrap_i64]; omega
      have hne5 : some (w.heap.size + 1 + 1 + 1) ≠ (Value.slice adv j capv).ownBlock := fun e => by have := (HR2.out.own.lt _ e.symm).1; omega
      have HZ5 : Hid (∀ (W w5 : World), Below v2.heap.size v2 W → W.grownBy w5 (Value.slice adv j capv).ownBlock → w5.cell? ⟨w.heap.size + 1 + 1 + 1, 2, none⟩ = some (.slice adv j capv) ∧ w5.frozen? ⟨w.heap.size + 1 + 1 + 1, 2, none⟩ = false) := by
        intro W w5 hb hg
        have hs := hb.size
        refine ⟨(hg.cell_far ⟨w.heap.size + 1 + 1 + 1, 2, none⟩ (by show w.heap.size + 1 + 1 + 1 < W.heap.size; omega) hne5).trans ((hb.cell (p := ⟨w.heap.size + 1 + 1 + 1, 2, none⟩) (by show w.heap.size + 1 + 1 + 1 < v2.heap.size; omega)).trans c5), ?_⟩
        exact (hg.frozen_far ⟨w.heap.size + 1 + 1 + 1, 2, none⟩ (by show w.heap.size + 1 + 1 + 1 < W.heap.size; omega) hne5).trans ((hb.frozen (p := ⟨w.heap.size + 1 + 1 + 1, 2, none⟩) (by show w.heap.size + 1 + 1 + 1 < v2.heap.size; omega)).trans g5)
      have HBW : Hid (Below v2.heap.size v2 (v2.drew.alloc (.cells #[.int .i64 z] 3))) := (Below.refl _ v2).drew.alloc (Nat.le_refl _) _
      have hca : (v2.alloc (.cells #[.int .i64 z] 3)).cell? ⟨w.heap.size + 1 + 1 + 1, 2, none⟩ = some (.slice adv j capv) := cell_below ((Below.refl _ v2).alloc (Nat.le_refl _) _) c5
      go_region_law
        ((refine step_append_lies _ rfl (.tmp 44) (.tmp 55) 36 rfl (w.heap.size + 1 + 1 + 1 + 1) 3 i0 (.int .i64 0) 1 8 Tryd.underlying36 Hi.out Hz0.out Hz1.out Hz2.out rfl (by decide) (.slice adv j capv) j ((List.range j).map fun k : Nat => .int .i64 (shiftN A B mx my f k)) rfl HOW.out ⟨v2.heap.size, 0, none⟩ 1 1 [.int .i64 z] (by rfl) (by rfl) (World.news_of_block (cs := #[.int .i64 z]) (t := 3) (fr := (0, 0)) (heap_alloc_new v2 _)) (fun x hx => by simp at hx; subst hx; rfl) (by omega) (by unfold maxLen; omega) (by omega) (by simp; omega) (v2.heap.size + 1) (by simp) ?_; intro gg cap w5 hown5 hgrow5 hat5 hlt5; have hcz := (HZ5.out _ w5 HBW.out hgrow5).1; have hfz := (HZ5.out _ w5 HBW.out hgrow5).2))
      all_goals
        have hn5 := HM.out ▸ hown5
        have HR5 := hide (HR2.out.stored (HBW.out.mono (by omega) |>.grown hgrow5 (Nat.le_trans hbig HBW.out.size) (fun q hq => (HR2.out.own.lt q hq).1)) hn5)
        go_wp2_with fail
        go_roundw
        case rel => exact ⟨j + 1, _, by omega, by go_num, HR5.out⟩
        case measure => simp [intOf]; omega
    · obtain rfl : j = n := by omega
      have HI := hide (own_in hr.own)
      obtain ⟨⟨c5, g5⟩, ⟨c6, g6⟩, c7, g7⟩ := hr.r
      obtain ⟨⟨d5, _⟩, ⟨d6, _⟩, d7, _⟩ := hr.q
      have hbig := hr.big
      obtain ⟨adv, capv, rfl⟩ := slice_shape (own_in hr.own)
      go_wp2
      refine bodyPost_ret (v := .agg #[.int .i64 A, .int .i64 B, .slice adv j capv]) (by simp [results, Tryd.results56, go_sem, c5, c6, c7]) rfl ⟨_, rfl, ?_, ?_, fun g hg => by have := (HR.out.own.lt g hg).1; omega⟩
      · exact own_in (ownsRow_setCell_below (ownsRow_setCell_below (ownsRow_setCell_below HR.out.own (by show w.heap.size + 1 + 1 < w.heap.size + 1 + 1 + 1 + 1; omega) _) (by show w.heap.size + 1 + 1 < w.heap.size + 1 + 1 + 1 + 1; omega) _) (by show w.heap.size + 1 + 1 < w.heap.size + 1 + 1 + 1 + 1; omega) _)
      · exact ((HR.out.b.setCell (by show w.heap.size ≤ w.heap.size + 1 + 1; omega) _).setCell (by show w.heap.size ≤ w.heap.size + 1 + 1; omega) _).setCell (by show w.heap.size ≤ w.heap.size + 1 + 1; omega) _
end Go.Proofs.YtjhflcgphejddaaDoor

namespace Go.Proofs.YtjhflcgphejddaaDoor
open Go.RowKit Go.Maps
set_option linter.unusedVariables false
set_option maxRecDepth 100000

set_option maxHeartbeats 2000000 in
theorem rbehind_bad {w : World} {s s' : Value} {n n' : Nat} {f f' : Nat → Int} (a b : Int) (al : Bool) (x y st : Int) (h : IntsIn w s n f) (h' : IntsIn w s' n' f') (hx : mdeF a b n f al x y n' f' st ≠ 0) :
    Calls Tryd.prog 36 #[.agg #[.int .i64 a, .int .i64 b, s], .agg #[.bool al, .int .i64 x, .int .i64 y, s'], .int .i64 st] w fun e w' => e = .returned (.tuple #[.agg #[.int .i64 0, .int .i64 0, .slice none 0 0], .int .i64 (mdeF a b n f al x y n' f' st : Nat)]) ∧ Below w.heap.size w w' := by
  obtain ⟨W1, hW1⟩ : ∃ W1, W1 = w.alloc (.cells #[.int .i64 a, .int .i64 b, s] 46) := ⟨_, rfl⟩
  obtain ⟨W2, hW2⟩ : ∃ W2, W2 = W1.alloc (.cells #[.bool al, .int .i64 x, .int .i64 y, s'] 40) := ⟨_, rfl⟩
  obtain ⟨W3, hW3⟩ : ∃ W3, W3 = W2.alloc (.cells #[.int .i64 0, .int .i64 0, .slice none 0 0] 46) := ⟨_, rfl⟩
  have b1 : Below w.heap.size w W1 := hW1 ▸ (Below.refl _ _).alloc (Nat.le_refl _) _
  have b12 : Below W1.heap.size W1 W2 := hW2 ▸ (Below.refl _ _).alloc (Nat.le_refl _) _
  have b23 : Below W2.heap.size W2 W3 := hW3 ▸ (Below.refl _ _).alloc (Nat.le_refl _) _
  have b3 := below_two (below_two b1 b12) b23
  have z1 : W1.heap.size = w.heap.size + 1 := by rw [hW1]; simp
  have z2 : W2.heap.size = w.heap.size + 1 + 1 := by rw [hW2]; simp [z1]
  have p1 : PicIn W3 w.heap.size a b s := PicIn.below (hW1 ▸ picIn_new w a b s) (below_two b12 b23)
  have p2 : CodIn W3 (w.heap.size + 1) al x y s' := by
    have := codIn_new W1 al x y s'
    rw [← hW2, z1] at this
    exact this.below b23
  have p3 : PicIn W3 (w.heap.size + 1 + 1) 0 0 (.slice none 0 0) := by
    have := picIn_new W2 0 0 (.slice none 0 0)
    rw [← hW3, z2] at this
    exact this
  have C := hide (rpic_ok a b (h.below b3))
  have B3 := hide b3
  have P1 := hide p1
  have P2 := hide p2
  have P3 := hide p3
  have HD : Hid (mdeF a b n f al x y n' f' st = if picF a b n f ≠ 0 then picF a b n f else if stepOk st = false then 1 else if al = true then 3 else if mvOk x y = false then 1 else restsF n' f' n) := rfl
  have hn := picF_zero (a := a) (b := b) (n := n) (f := f)
  obtain ⟨ads, caps, rfl⟩ := slice_shape h
  obtain ⟨⟨c0, _⟩, ⟨c1, _⟩, c2, _⟩ := p1
  by_cases hok : picF a b n f = 0 ∧ stepOk st = true ∧ al = false ∧ mvOk x y = true
  · obtain ⟨hp, hs, rfl, hm⟩ := hok
    obtain ⟨A, B, o⟩ := hn.1 hp
    have hl := o.le
    have KR := hide (fun (wx : World) (hb : Below w.heap.size w wx) => rrests_ok n (h'.below hb) (by omega))
    rw [hp, hs, hm, if_neg (by simp), if_neg (by simp), if_neg (by simp), if_neg (by simp)] at HD
    rw [HD.out] at hx
    rw [hp] at C
    have z0 : ((restsF n' f' n : Int) == 0) = false := by rw [beq_eq_false_iff_ne]; omega
    have z5 : ((restsF n' f' n : Int) != 0) = true := by simp [bne, z0]
    obtain ⟨s1, s2⟩ := stepOk_iff.1 hs
    obtain ⟨m1, m2, m3, m4⟩ := mvOk_iff.1 hm
    obtain ⟨ads', caps', rfl⟩ := slice_shape h'
    subst hW3
    subst hW2
    subst hW1
    clear h h' b1 b12 b23 b3 p2 p3 z1 z2 hp hs hm hn o hx
    generalize restsF n' f' n = k at *
    go_enter Tryd.func36, Tryd.ntmps36
    go_wp2_with fail
    refine (C.out).mono ?_
    rintro e w1 ⟨rfl, hb1⟩
    have B1 := hide (below_two B3.out hb1)
    have Q1 := hide (P1.out.below hb1)
    have Q2 := hide (P2.out.below hb1)
    have Q3 := hide (P3.out.below hb1)
    have K1 := hide (KR.out w1 B1.out)
    clear hb1 c0 c1 c2
    obtain ⟨⟨c0, _⟩, ⟨c1, _⟩, c2, _⟩ := Q1.out
    obtain ⟨e0, e1, e2, e3, _, _, _, _⟩ := Q2.out
    go_wp2_with fail
    refine (K1.out).mono ?_
    rintro e w2 ⟨rfl, rfl⟩
    obtain ⟨⟨d0, g0⟩, ⟨d1, g1⟩, d2, g2⟩ := Q3.out
    go_wp2
    refine bodyPost_ret (v := .tuple #[.agg #[.int .i64 0, .int .i64 0, .slice none 0 0], .int .i64 (k : Nat)]) (by simp [results, Tryd.results36, go_sem, d0, d1, d2]) rfl ⟨by rw [HD.out], ?_⟩
    exact (((B1.out.setCell (by show w.heap.size ≤ w.heap.size + 1 + 1; omega) _).setCell (by show w.heap.size ≤ w.heap.size + 1 + 1; omega) _).setCell (by show w.heap.size ≤ w.heap.size + 1 + 1; omega) _)
  · by_cases hp : picF a b n f = 0
    · rw [hp] at C
      rw [hp, if_neg (by simp)] at HD
      obtain ⟨ads', caps', rfl⟩ := slice_shape h'
      subst hW3
      subst hW2
      subst hW1
      have hw : ∃ k : Nat, Hid (mdeF a b n f al x y n' f' st = k) ∧ ((k = 1 ∧ st < 1) ∨ (k = 1 ∧ 1 ≤ st ∧ 64 < st) ∨ (1 ≤ st ∧ st ≤ 64 ∧ ((k = 3 ∧ al = true) ∨ (al = false ∧ k = 1 ∧ (x < -1 ∨ (-1 ≤ x ∧ 1 < x) ∨ (-1 ≤ x ∧ x ≤ 1 ∧ y < -1) ∨ (-1 ≤ x ∧ x ≤ 1 ∧ -1 ≤ y ∧ 1 < y)))))) := by
        unfold Hid at HD ⊢
        cases hs : stepOk st with
        | false =>
          rw [hs, if_pos rfl] at HD
          have := stepOk_not.1 hs
          exact ⟨1, HD, by omega⟩
        | true =>
          rw [hs, if_neg (by simp)] at HD
          obtain ⟨s1, s2⟩ := stepOk_iff.1 hs
          cases al with
          | true => exact ⟨3, by rw [HD, if_pos rfl], Or.inr (Or.inr ⟨s1, s2, Or.inl ⟨rfl, rfl⟩⟩)⟩
          | false =>
            rw [if_neg (by simp)] at HD
            cases hm : mvOk x y with
            | true => exact absurd ⟨hp, hs, rfl, hm⟩ hok
            | false =>
              rw [hm, if_pos rfl] at HD
              have h9 : ¬ (-1 ≤ x ∧ x ≤ 1 ∧ -1 ≤ y ∧ y ≤ 1) := by rw [← mvOk_iff, hm]; simp
              exact ⟨1, HD, Or.inr (Or.inr ⟨s1, s2, Or.inr ⟨rfl, rfl, by omega⟩⟩)⟩
      obtain ⟨k, HE, hw⟩ := hw
      clear h h' b1 b12 b23 b3 p2 p3 z1 z2 hp hn hx hok HD
      rcases hw with ⟨rfl, v1⟩ | ⟨rfl, v1, v2⟩ | ⟨v1, v2, ⟨rfl, rfl⟩ | ⟨rfl, rfl, v3 | ⟨v3, v4⟩ | ⟨v3, v4, v5⟩ | ⟨v3, v4, v5, v6⟩⟩⟩
      all_goals
        go_enter Tryd.func36, Tryd.ntmps36
        go_wp2_with fail
        refine (C.out).mono ?_
        rintro e w1 ⟨rfl, hb1⟩
        have B1 := hide (below_two B3.out hb1)
        have Q2 := hide (P2.out.below hb1)
        have Q3 := hide (P3.out.below hb1)
        clear hb1 c0 c1 c2
        obtain ⟨e0, e1, e2, e3, _, _, _, _⟩ := Q2.out
        obtain ⟨⟨d0, g0⟩, ⟨d1, g1⟩, d2, g2⟩ := Q3.out
        go_wp2
        refine bodyPost_ret (v := .tuple #[.agg #[.int .i64 0, .int .i64 0, .slice none 0 0], .int .i64 (mdeF a b n f _ x y n' f' st : Nat)]) (by rw [HE.out]; simp [results, Tryd.results36, go_sem, d0, d1, d2]) rfl ⟨rfl, ?_⟩
        exact (((B1.out.setCell (by show w.heap.size ≤ w.heap.size + 1 + 1; omega) _).setCell (by show w.heap.size ≤ w.heap.size + 1 + 1; omega) _).setCell (by show w.heap.size ≤ w.heap.size + 1 + 1; omega) _)
    · rw [if_pos hp] at HD
      have z0 : ((picF a b n f : Int) == 0) = false := by rw [beq_eq_false_iff_ne]; omega
      have z5 : ((picF a b n f : Int) != 0) = true := by simp [bne, z0]
      obtain ⟨ads', caps', rfl⟩ := slice_shape h'
      subst hW3
      subst hW2
      subst hW1
      clear h h' b1 b12 b23 b3 p2 p3 z1 z2 hp hn hx hok
      generalize picF a b n f = k at *
      go_enter Tryd.func36, Tryd.ntmps36
      go_wp2_with fail
      refine (C.out).mono ?_
      rintro e w1 ⟨rfl, hb1⟩
      have B1 := hide (below_two B3.out hb1)
      obtain ⟨⟨d0, g0⟩, ⟨d1, g1⟩, d2, g2⟩ := P3.out.below hb1
      clear hb1
      go_wp2
      refine bodyPost_ret (v := .tuple #[.agg #[.int .i64 0, .int .i64 0, .slice none 0 0], .int .i64 (k : Nat)]) (by simp [results, Tryd.results36, go_sem, d0, d1, d2]) rfl ⟨by rw [HD.out], ?_⟩
      exact (((B1.out.setCell (by show w.heap.size ≤ w.heap.size + 1 + 1; omega) _).setCell (by show w.heap.size ≤ w.heap.size + 1 + 1; omega) _).setCell (by show w.heap.size ≤ w.heap.size + 1 + 1; omega) _)
end Go.Proofs.YtjhflcgphejddaaDoor
