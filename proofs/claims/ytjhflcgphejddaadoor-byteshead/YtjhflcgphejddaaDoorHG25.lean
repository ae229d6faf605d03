/-
  Lemmas for the law above, joined into one text (RMvE, RFlS, RFlT, RByB). No statement is proved here.
-/
import Derived.Test.YtjhflcgphejddaaDoorHG24
import Derived.Test.YtjhflcgphejddaaDoorHG15
import Derived.Test.YtjhflcgphejddaaDoorHG16
import Derived.Test.YtjhflcgphejddaaDoorHG1
import Derived.Test.YtjhflcgphejddaaDoorHG2
import Derived.Test.YtjhflcgphejddaaDoorHG23
import Derived.Deep.RegionHeld3
import Derived.Deep.DeepCutAuto
namespace Go.Proofs.YtjhflcgphejddaaDoor
open Go.RowKit Go.Maps
set_option linter.unusedVariables false
set_option maxRecDepth 100000

/-- The blocks that dropref2's Behind works over, behind so many pixels. -/
structure Bh (w wr : World) (a b : Int) (s : Value) (x y : Int) (s' : Value) (gb base : Nat) (sv : Value) (n : Nat) (G : Nat → Int) (v : Value) (j : Nat) (F : Nat → Int) : Prop where
  p : PicIn wr w.heap.size a b s
  c : CodIn wr (w.heap.size + 1) false x y s'
  r : PicIn wr (w.heap.size + 1 + 1) 0 0 (.slice none 0 0)
  g : PicIn wr gb a b sv
  i : IntsIn wr sv n G
  own : wr.ownsRow base 3 1 v j ((List.range j).map fun k : Nat => .int .i64 (F k))
  hr : w.heap.size + 1 + 1 < gb
  hg : gb < base
  hv : ∀ k, sv.ownBlock = some k → k < base
  big : base ≤ wr.heap.size
  b : Below w.heap.size w wr
theorem Bh.mono {w wr w' : World} {a b : Int} {s : Value} {x y : Int} {s' : Value} {gb base : Nat} {sv : Value} {n : Nat} {G : Nat → Int} {v : Value} {j : Nat} {F : Nat → Int} (h : Bh w wr a b s x y s' gb base sv n G v j F) (hb : Below base wr w') {v' : Value} {j' : Nat}
    (hown : w'.ownsRow base 3 1 v' j' ((List.range j').map fun k : Nat => .int .i64 (F k))) : Bh w w' a b s x y s' gb base sv n G v' j' F := by
  have h1 := h.hr
  have h2 := h.hg
  exact ⟨h.p.mono hb (by omega), h.c.mono hb (by omega), h.r.mono hb (by omega), h.g.mono hb (by omega), ints_mono h.i hb h.hv, hown, h.hr, h.hg, h.hv, Nat.le_trans h.big hb.size, h.b.trans (hb.mono (by omega))⟩

set_option maxHeartbeats 4000000 in
theorem rbehind_new {w : World} {s s' : Value} {n : Nat} {f f' : Nat → Int} {a b : Int} {A B : Nat} (x y st : Int) (h : IntsIn w s n f) (h' : IntsIn w s' n f') (o : PicOk a b n f A B) (s1 : 1 ≤ st) (s2 : st ≤ 64) (hm : -1 ≤ x ∧ x ≤ 1 ∧ -1 ≤ y ∧ y ≤ 1) (hr : ∀ i, i < n → -255 ≤ f' i ∧ f' i ≤ 255) :
    Calls Tryd.prog 36 #[.agg #[.int .i64 a, .int .i64 b, s], .agg #[.bool false, .int .i64 x, .int .i64 y, s'], .int .i64 st] w fun e w' => ∃ u, e = .returned (.tuple #[.agg #[.int .i64 a, .int .i64 b, u], .int .i64 0]) ∧ IntsIn w' u n (toldF (shiftN A B x y f) f' st) ∧ Below w.heap.size w w' ∧ ∀ k, u.ownBlock = some k → w.heap.size ≤ k := by
  obtain ⟨W1, hW1⟩ : ∃ W1, W1 = w.alloc (.cells #[.int .i64 a, .int .i64 b, s] 46) := ⟨_, rfl⟩
  obtain ⟨W2, hW2⟩ : ∃ W2, W2 = W1.alloc (.cells #[.bool false, .int .i64 x, .int .i64 y, s'] 40) := ⟨_, rfl⟩
  obtain ⟨W3, hW3⟩ : ∃ W3, W3 = W2.alloc (.cells #[.int .i64 0, .int .i64 0, .slice none 0 0] 46) := ⟨_, rfl⟩
  have b1 : Below w.heap.size w W1 := hW1 ▸ (Below.refl _ _).alloc (Nat.le_refl _) _
  have b12 : Below W1.heap.size W1 W2 := hW2 ▸ (Below.refl _ _).alloc (Nat.le_refl _) _
  have b23 : Below W2.heap.size W2 W3 := hW3 ▸ (Below.refl _ _).alloc (Nat.le_refl _) _
  have b3 := below_two (below_two b1 b12) b23
  have z1 : W1.heap.size = w.heap.size + 1 := by rw [hW1]; simp
  have z2 : W2.heap.size = w.heap.size + 1 + 1 := by rw [hW2]; simp [z1]
  have z3 : W3.heap.size = w.heap.size + 1 + 1 + 1 := by rw [hW3]; simp [z2]
  have p1 : PicIn W3 w.heap.size a b s := PicIn.below (hW1 ▸ picIn_new w a b s) (below_two b12 b23)
  have p2 : CodIn W3 (w.heap.size + 1) false x y s' := by
    have := codIn_new W1 false x y s'
    rw [← hW2, z1] at this
    exact this.below b23
  have p3 : PicIn W3 (w.heap.size + 1 + 1) 0 0 (.slice none 0 0) := by
    have := picIn_new W2 0 0 (.slice none 0 0)
    rw [← hW3, z2] at this
    exact this
  have hl := o.le
  have h0 := o.pos
  have C := hide (rpic_ok a b (h.below b3))
  rw [picF_zero.2 ⟨A, B, o⟩] at C
  have KR := hide (fun (wx : World) (hb : Below w.heap.size w wx) => rrests_ok n (h'.below hb) (by omega))
  rw [restsF_zero.2 ⟨rfl, hr⟩] at KR
  have KS := hide (fun (wx : World) (hb : Below w.heap.size w wx) => rshift_ok x y (h.below hb) o (farF_zero.2 (by omega)))
  have B3 := hide b3
  have P1 := hide p1
  have P2 := hide p2
  have P3 := hide p3
  have HR := hide hr
  have HGI := hide (o.shift x y).pix
  have HT : Hid (∀ i, toldF (shiftN A B x y f) f' st i = clamp (shiftN A B x y f i + f' i * st)) := fun i => rfl
  generalize toldF (shiftN A B x y f) f' st = T at *
  generalize shiftN A B x y f = G at *
  obtain ⟨m1, m2, m3, m4⟩ := hm
  obtain ⟨ads, caps, rfl⟩ := slice_shape h
  obtain ⟨bb', oo', caps', rfl, hcb⟩ : ∃ ad oo cap, s' = .slice (some ⟨ad, oo, none⟩) n cap ∧ ∀ i, i < n → w.cell? ⟨ad, oo + i, none⟩ = some (.int .i64 (f' i)) := by
    rcases h' with ⟨h, _⟩ | ⟨_, b, o, c, rfl, hc⟩
    · omega
    · exact ⟨_, _, _, rfl, hc⟩
  have HCB := hide hcb
  obtain ⟨i0, hi0, hz0, hz1, hz2⟩ := info_parts Tryd.infoInt
  have Hi := hide hi0
  have Hz0 := hide hz0
  have Hz1 := hide hz1
  have Hz2 := hide hz2
  obtain ⟨⟨c0, _⟩, ⟨c1, _⟩, c2, _⟩ := p1
  have z3' := hide z3
  rw [hW3, hW2, hW1] at z3'
  subst hW3
  subst hW2
  subst hW1
  clear h h' b1 b12 b23 b3 p2 p3 z1 z2 z3 o hcb hr hi0 hz0 hz1 hz2
  go_enter Tryd.func36, Tryd.ntmps36
  go_wp2_with fail
  refine (C.out).mono ?_
  rintro e w1 ⟨rfl, hb1⟩
  have Q1 := hide (P1.out.below hb1)
  have Q2 := hide (P2.out.below hb1)
  have Q3 := hide (P3.out.below hb1)
  have B1 := hide (below_two B3.out hb1)
  have hs1 : w.heap.size + 1 + 1 < w1.heap.size := by have := hb1.size; rw [z3'.out] at this; omega
  have K1 := hide (KR.out w1 B1.out)
  have K2 := hide (KS.out w1 B1.out)
  clear hb1 c0 c1 c2 C P1 P2 P3 B3 z3' KR KS
  obtain ⟨⟨c0, _⟩, ⟨c1, _⟩, c2, _⟩ := Q1.out
  obtain ⟨e0, e1, e2, e3, _, _, _, _⟩ := Q2.out
  go_wp2_with fail
  refine (K1.out).mono ?_
  rintro e w2 ⟨rfl, rfl⟩
  go_wp2_with fail
  refine (K2.out).mono ?_
  rintro e w3 ⟨v, rfl, hv, hb3, _⟩
  obtain ⟨gg, go, gcp, rfl, hgc⟩ : ∃ g o c, v = .slice (some ⟨g, o, none⟩) n c ∧ ∀ i, i < n → w3.cell? ⟨g, o + i, none⟩ = some (.int .i64 (G i)) := by
    rcases hv with ⟨h, _⟩ | ⟨_, b, o, c, e, hc⟩
    · omega
    · exact ⟨_, _, _, e, hc⟩
  obtain ⟨W4, hW4⟩ : ∃ W4, W4 = w3.alloc (.cells #[.int .i64 a, .int .i64 b, .slice (some ⟨gg, go, none⟩) n gcp] 46) := ⟨_, rfl⟩
  have b4 : Below w3.heap.size w3 W4 := hW4 ▸ (Below.refl _ _).alloc (Nat.le_refl _) _
  have z4 : W4.heap.size = w3.heap.size + 1 := by rw [hW4]; simp
  have E4 : Hid (Bh w W4 a b (.slice ads n caps) x y (.slice (some ⟨bb', oo', none⟩) n caps') w3.heap.size (w3.heap.size + 1) (.slice (some ⟨gg, go, none⟩) n gcp) n G (.slice none 0 0) 0 T) := by
    have hs3 := hb3.size
    refine ⟨(Q1.out.below hb3).below b4, (Q2.out.below hb3).below b4, (Q3.out.below hb3).below b4, hW4 ▸ picIn_new w3 _ _ _, hv.below b4, World.ownsRow_nil _ _ _ _, by omega, by omega, fun k hk => ?_, by omega, below_two (below_two B1.out hb3) b4⟩
    have := ints_lt hv h0 k hk
    omega
  subst hW4
  clear hv hgc hb3 b4 z4 K1 K2 Q1 Q2 Q3 B1 hs1 c0 c1 c2 e0 e1 e2 e3
  obtain ⟨⟨c0, _⟩, ⟨c1, _⟩, c2, _⟩ := E4.out.g
  go_wp2
  clear c0 c1 c2
  generalize w3.alloc (.cells #[.int .i64 a, .int .i64 b, .slice (some ⟨gg, go, none⟩) n gcp] 46) = W4 at *
  go_loopw [10, 11] (fun u i wr => ∃ (j : Nat) (ad : Option Addr) (cp : Nat), j ≤ n ∧ i = .int .i64 j ∧ u = .slice ad j cp ∧ Hid (Bh w wr a b (.slice ads n caps) x y (.slice (some ⟨bb', oo', none⟩) n caps') w3.heap.size (w3.heap.size + 1) (.slice (some ⟨gg, go, none⟩) n gcp) n G (.slice ad j cp) j T)) (fun _ i _ => n - (intOf i).toNat)
  case atStart => exact ⟨0, none, 0, Nat.zero_le _, rfl, rfl, E4⟩
  case round =>
    obtain ⟨j, adr, cpr, hj, rfl, rfl, ER⟩ := hrel
    have hbig := ER.out.big
    obtain ⟨⟨c0, _⟩, ⟨c1, _⟩, c2, _⟩ := ER.out.g
    by_cases hlt : j < n
    · obtain ⟨e0, e1, e2, e3, _, _, _, _⟩ := ER.out.c
      have hcb := cell_below ER.out.b (HCB.out j hlt)
      have hga : wr.cell? ⟨gg, go + j, none⟩ = some (.int .i64 (G j)) := by
        rcases ER.out.i with ⟨h, _⟩ | ⟨_, b, o, c, e, hc⟩
        · omega
        · cases e; exact hc j hlt
      obtain ⟨x0, x1⟩ := HR.out j hlt
      obtain ⟨y0, y1⟩ := HGI.out j hlt
      have HTj := HT.out j
      have HM : Hid ((List.range (j + 1)).map (fun k : Nat => Value.int .i64 (T k)) = (List.range j).map (fun k : Nat => Value.int .i64 (T k)) ++ [.int .i64 (T j)]) := by
        unfold Hid; rw [List.range_succ, List.map_append]; rfl
      generalize f' j = r at *
      generalize hG : G j = q at *
      have p0 : -255 * st ≤ r * st := Int.mul_le_mul_of_nonneg_right x0 (by omega)
      have p1 : r * st ≤ 255 * st := Int.mul_le_mul_of_nonneg_right x1 (by omega)
      have p2 : -16320 ≤ r * st := by omega
      have p3 : r * st ≤ 16320 := by omega
      have K := hide (fun wx => rclamp_ok (q + r * st) wx)
      rw [← HTj] at K
      generalize T j = z at *
      clear p0 p1 hG HTj
      have hwx : IntKind.i64.wrap (r * st) = r * st := by rw [IntKind.wrap_i64]; omega
      have hwy : IntKind.i64.wrap (q + r * st) = q + r * st := by rw [IntKind.wrap_i64]; omega
      have HOW := hide (own_under' ER.out.own (show Below wr.heap.size wr (wr.drew.alloc (.cells #[.int .i64 z] 3)) from (Below.refl _ wr).drew.alloc (Nat.le_refl _) _))
      have HBW : Hid (Below wr.heap.size wr (wr.drew.alloc (.cells #[.int .i64 z] 3))) := (Below.refl _ wr).drew.alloc (Nat.le_refl _) _
      go_upto_region 17 with fail
      go_region_law ((first
        | (refine step_append_lies _ (by rfl) _ _ _ (by rfl) (w3.heap.size + 1) 3 i0 (.int .i64 0) 1 8 Tryd.underlying36 Hi.out Hz0.out Hz1.out Hz2.out rfl (by decide) (.slice adr j cpr) j ((List.range j).map fun k : Nat => .int .i64 (T k)) (by rfl) HOW.out ⟨wr.heap.size, 0, none⟩ 1 1 [.int .i64 z] (by rfl) (by rfl) (World.news_of_block (cs := #[.int .i64 z]) (t := 3) (fr := (0, 0)) (heap_alloc_new wr _)) (fun x hx => by simp at hx; subst hx; rfl) (by omega) (by unfold maxLen; omega) (by omega) (by simp; omega) (wr.heap.size + 1) (by simp) ?_; intro gq cap w5 hown5 hgrow5 hat5 hlt5)
        | (rw [if_pos (by rfl)]; go_simp; go_at_call 54; refine (K.out _).mono ?_; rintro e w5 ⟨rfl, rfl⟩)))
      all_goals
        have hn5 := HM.out ▸ hown5
        have ER5 := hide (ER.out.mono (HBW.out.mono hbig |>.grown hgrow5 (Nat.le_trans hbig HBW.out.size) (fun q hq => (ER.out.own.lt q hq).1)) hn5)
        clear hown5 hn5
        go_wp2_with fail
        go_roundw
        case rel =>
          first
            | exact ⟨j + 1, some ⟨gq, 0, none⟩, cap, by omega, by go_num, rfl, ER5⟩
            | ((repeat apply Exists.intro); exact ⟨⟨j + 1, some ⟨gq, 0, none⟩, cap, by omega, by go_num, rfl, ER5⟩, rfl⟩)
        case measure => simp [intOf]; omega
    · obtain rfl : j = n := by omega
      obtain ⟨⟨d0, g0⟩, ⟨d1, g1⟩, d2, g2⟩ := ER.out.r
      obtain ⟨⟨k0, _⟩, ⟨k1, _⟩, k2, _⟩ := ER.out.p
      go_wp2
      refine bodyPost_ret (v := .tuple #[.agg #[.int .i64 a, .int .i64 b, .slice adr j cpr], .int .i64 0]) (by simp [results, Tryd.results36, go_sem, d0, d1, d2]) rfl ⟨_, rfl, ?_, ?_, fun k e => by have := (ER.out.own.lt k e).1; have := ER.out.hr; omega⟩
      · have hlt9 : w.heap.size + 1 + 1 < w3.heap.size + 1 := by have := ER.out.hr; omega
        exact own_in (ownsRow_setCell_below (ownsRow_setCell_below (ownsRow_setCell_below ER.out.own hlt9 _) hlt9 _) hlt9 _)
      · exact ((ER.out.b.setCell (by show w.heap.size ≤ w.heap.size + 1 + 1; omega) _).setCell (by show w.heap.size ≤ w.heap.size + 1 + 1; omega) _).setCell (by show w.heap.size ≤ w.heap.size + 1 + 1; omega) _
theorem rbehind_ok {w : World} {s s' : Value} {n : Nat} {f f' : Nat → Int} {a b : Int} {A B : Nat} (x y st : Int) (h : IntsIn w s n f) (h' : IntsIn w s' n f') (o : PicOk a b n f A B) (s1 : 1 ≤ st) (s2 : st ≤ 64) (hm : -1 ≤ x ∧ x ≤ 1 ∧ -1 ≤ y ∧ y ≤ 1) (hr : ∀ i, i < n → -255 ≤ f' i ∧ f' i ≤ 255) :
    Calls Tryd.prog 36 #[.agg #[.int .i64 a, .int .i64 b, s], .agg #[.bool false, .int .i64 x, .int .i64 y, s'], .int .i64 st] w fun e w' => ∃ u, e = .returned (.tuple #[.agg #[.int .i64 a, .int .i64 b, u], .int .i64 0]) ∧ IntsIn w' u n (toldF (shiftN A B x y f) f' st) ∧ Below w.heap.size w w' :=
  (rbehind_new x y st h h' o s1 s2 hm hr).mono fun e w' ⟨u, he, h1, hb, _⟩ => ⟨u, he, h1, hb⟩
end Go.Proofs.YtjhflcgphejddaaDoor

namespace Go.Proofs.YtjhflcgphejddaaDoor
open Go.RowKit Go.Maps
set_option linter.unusedVariables false
set_option maxRecDepth 100000

theorem rtold_all {w : World} {v : Value} {n : Nat} {f : Nat → Int} (a b s : Int) (h : IntsIn w v n f) :
    Calls Tryd.prog 35 #[.int .i64 a, .int .i64 b, .int .i64 s, v] w fun e w' => ∃ ad cp, e = .returned (.tuple #[.agg #[.int .i64 (deX a b s n f), .int .i64 (deY a b s n f), .slice ad (deM a b s n f) cp], .int .i64 (decF a b s n f : Nat)]) ∧ IntsIn w' (.slice ad (deM a b s n f) cp) (deM a b s n f) (deG a s f) ∧ Below w.heap.size w w' ∧ ∀ k, (Value.slice ad (deM a b s n f) cp).ownBlock = some k → w.heap.size ≤ k := by
  by_cases hx : decF a b s n f = 0
  · obtain ⟨A, B, o⟩ := decF_zero.1 hx
    refine (rtold_new h o).mono ?_
    rintro e w' ⟨u, rfl, hu, hb, hn⟩
    obtain ⟨ad, cp, rfl⟩ := slice_shape hu
    have e1 : deX a b s n f = a := if_pos hx
    have e2 : deY a b s n f = b := if_pos hx
    have e3 : deM a b s n f = n := if_pos hx
    have e4 : deG a s f = tellF A s fun i _ => f i := by unfold deG; rw [o.wide]; rfl
    rw [e1, e2, e3, e4, hx]
    exact ⟨ad, cp, rfl, hu, hb, hn⟩
  · refine (rtold_bad a b s h hx).mono ?_
    rintro e w' ⟨rfl, hb⟩
    have e1 : deX a b s n f = 0 := if_neg hx
    have e2 : deY a b s n f = 0 := if_neg hx
    have e3 : deM a b s n f = 0 := if_neg hx
    rw [e1, e2, e3]
    exact ⟨none, 0, rfl, Or.inl ⟨rfl, _, _, rfl⟩, hb, fun k h => by cases h⟩
theorem rbehind_all {w : World} {s s' : Value} {n n' : Nat} {f f' : Nat → Int} (a b : Int) (al : Bool) (x y st : Int) (h : IntsIn w s n f) (h' : IntsIn w s' n' f') :
    Calls Tryd.prog 36 #[.agg #[.int .i64 a, .int .i64 b, s], .agg #[.bool al, .int .i64 x, .int .i64 y, s'], .int .i64 st] w fun e w' => ∃ ad cp, e = .returned (.tuple #[.agg #[.int .i64 (mdX a b n f al x y n' f' st), .int .i64 (mdY a b n f al x y n' f' st), .slice ad (mdM a b n f al x y n' f' st) cp], .int .i64 (mdeF a b n f al x y n' f' st : Nat)]) ∧ IntsIn w' (.slice ad (mdM a b n f al x y n' f' st) cp) (mdM a b n f al x y n' f' st) (mdG a b f x y f' st) ∧ Below w.heap.size w w' ∧ ∀ k, (Value.slice ad (mdM a b n f al x y n' f' st) cp).ownBlock = some k → w.heap.size ≤ k := by
  by_cases hx : mdeF a b n f al x y n' f' st = 0
  · obtain ⟨hp, ⟨s1, s2⟩, hc⟩ := mdeF_zero.1 hx
    obtain ⟨A, B, o⟩ := picF_zero.1 hp
    obtain ⟨rfl, hm, hn, hr⟩ := chkF_zero.1 hc
    obtain rfl : n' = n := by omega
    refine (rbehind_new x y st h h' o s1 s2 hm hr).mono ?_
    rintro e w' ⟨u, rfl, hu, hb, hn⟩
    obtain ⟨ad, cp, rfl⟩ := slice_shape hu
    have e1 : mdX a b n' f false x y n' f' st = a := if_pos hx
    have e2 : mdY a b n' f false x y n' f' st = b := if_pos hx
    have e3 : mdM a b n' f false x y n' f' st = n' := if_pos hx
    have e4 : mdG a b f x y f' st = toldF (shiftN A B x y f) f' st := by unfold mdG; rw [o.wide, o.high]; rfl
    rw [e1, e2, e3, e4, hx]
    exact ⟨ad, cp, rfl, hu, hb, hn⟩
  · refine (rbehind_bad a b al x y st h h' hx).mono ?_
    rintro e w' ⟨rfl, hb⟩
    have e1 : mdX a b n f al x y n' f' st = 0 := if_neg hx
    have e2 : mdY a b n f al x y n' f' st = 0 := if_neg hx
    have e3 : mdM a b n f al x y n' f' st = 0 := if_neg hx
    rw [e1, e2, e3]
    exact ⟨none, 0, rfl, Or.inl ⟨rfl, _, _, rfl⟩, hb, fun k h => by cases h⟩

theorem seeF_none (a b s : Int) (C : Nat → Cd) : seeF a b s 0 C = 5 := rfl
theorem seeF_many {a b s : Int} {N : Nat} {C : Nat → Cd} (h : 6 < N) : seeF a b s N C = 4 := by unfold seeF; rw [if_neg (by omega), if_pos h]
theorem seeF_side {a b s : Int} {N : Nat} {C : Nat → Cd} (h0 : 0 < N) (h6 : N ≤ 6) (h : ¬ (1 ≤ a ∧ a ≤ 6 ∧ 1 ≤ b ∧ b ≤ 6 ∧ 1 ≤ s ∧ s ≤ 64)) : seeF a b s N C = 1 := by
  unfold seeF sidF
  rw [if_neg (by omega), if_neg (by omega), if_neg h, if_pos (by omega)]
theorem seeF_first {a b s : Int} {N : Nat} {C : Nat → Cd} (h0 : 0 < N) (h6 : N ≤ 6) (h : 1 ≤ a ∧ a ≤ 6 ∧ 1 ≤ b ∧ b ≤ 6 ∧ 1 ≤ s ∧ s ≤ 64) (hc : (C 0).al = false) : seeF a b s N C = 3 := by
  unfold seeF sidF
  rw [if_neg (by omega), if_neg (by omega), if_pos h, if_neg (by simp), if_pos hc]
theorem seeF_go {a b s : Int} {N : Nat} {C : Nat → Cd} (h0 : 0 < N) (h6 : N ≤ 6) (h : 1 ≤ a ∧ a ≤ 6 ∧ 1 ≤ b ∧ b ≤ 6 ∧ 1 ≤ s ∧ s ≤ 64) (hc : (C 0).al = true) : seeF a b s N C = (seeS a b s C N).1 := by
  unfold seeF sidF
  rw [if_neg (by omega), if_neg (by omega), if_pos h, if_neg (by simp), if_neg (by simp [hc])]

set_option maxHeartbeats 4000000 in
/-- Where nothing is read: none, too many, a side or a step, the first not alone. -/
theorem rseen_bad {w : World} {v : Value} {N : Nat} {C : Nat → Cd} (a b st : Int) (h : CodsIn w v N C) (hx : N = 0 ∨ 6 < N ∨ ¬ (1 ≤ a ∧ a ≤ 6 ∧ 1 ≤ b ∧ b ≤ 6 ∧ 1 ≤ st ∧ st ≤ 64) ∨ (C 0).al = false) :
    Calls Tryd.prog 15 #[.int .i64 a, .int .i64 b, .int .i64 st, v] w fun e w' => e = .returned (.tuple #[.slice none 0 0, .int .i64 (seeF a b st N C : Nat)]) ∧ w = w' := by
  obtain ⟨ad, cap, rfl, _, _, h3⟩ := h
  by_cases c0 : N = 0
  · subst c0
    clear h3
    go_enter Tryd.func15, Tryd.ntmps15
    go_wp2
    go_ret2
    exact ⟨rfl, rfl⟩
  · have hNe : ((N : Int) == 0) = false := by rw [beq_eq_false_iff_ne]; omega
    by_cases c6 : 6 < N
    · have HE := hide (seeF_many (a := a) (b := b) (s := st) (C := C) c6)
      clear h3
      go_enter Tryd.func15, Tryd.ntmps15
      go_wp2
      go_ret2
      exact ⟨by rw [HE.out]; rfl, rfl⟩
    · by_cases cs : 1 ≤ a ∧ a ≤ 6 ∧ 1 ≤ b ∧ b ≤ 6 ∧ 1 ≤ st ∧ st ≤ 64
      · have hal : (C 0).al = false := by
          rcases hx with h | h | h | h
          · omega
          · omega
          · exact absurd cs h
          · exact h
        have HE := hide (seeF_first (N := N) (C := C) (by omega) (by omega) cs hal)
        obtain ⟨bb, o, rfl, hc⟩ := h3 (by omega)
        obtain ⟨s, d0, _, _, _, _⟩ := hc 0 (by omega)
        rw [hal, show o + 0 * 4 = o by omega] at d0
        obtain ⟨a1, a6, b1, b6, s1, s6⟩ := cs
        clear hc h3 hal hx
        go_enter Tryd.func15, Tryd.ntmps15
        go_wp2
        go_ret2
        exact ⟨by rw [HE.out]; rfl, rfl⟩
      · have HE := hide (seeF_side (N := N) (C := C) (by omega) (by omega) cs)
        have hw : a < 1 ∨ (1 ≤ a ∧ 6 < a) ∨ (1 ≤ a ∧ a ≤ 6 ∧ b < 1) ∨ (1 ≤ a ∧ a ≤ 6 ∧ 1 ≤ b ∧ 6 < b) ∨ (1 ≤ a ∧ a ≤ 6 ∧ 1 ≤ b ∧ b ≤ 6 ∧ st < 1) ∨ (1 ≤ a ∧ a ≤ 6 ∧ 1 ≤ b ∧ b ≤ 6 ∧ 1 ≤ st ∧ 64 < st) := by omega
        clear h3 cs hx
        rcases hw with h | ⟨h1, h⟩ | ⟨h1, h2, h⟩ | ⟨h1, h2, h3, h⟩ | ⟨h1, h2, h3, h4, h⟩ | ⟨h1, h2, h3, h4, h5, h⟩ <;>
        · go_enter Tryd.func15, Tryd.ntmps15
          go_wp2
          go_ret2
          exact ⟨by rw [HE.out]; rfl, rfl⟩
end Go.Proofs.YtjhflcgphejddaaDoor

namespace Go.Proofs.YtjhflcgphejddaaDoor
open Go.RowKit Go.Maps
set_option linter.unusedVariables false
set_option maxRecDepth 100000

theorem cell_put {w : World} {b k o : Nat} {x y s u : Value} (h : w.cell? ⟨k, o, none⟩ = some u) (hne : k ≠ b) : (((w.setCell ⟨b, 0, none⟩ x).setCell ⟨b, 1, none⟩ y).setCell ⟨b, 2, none⟩ s).cell? ⟨k, o, none⟩ = some u := by
  rw [World.cell?_setCell_other _ _ _ _ (fun e => hne (congrArg Addr.block e).symm), World.cell?_setCell_other _ _ _ _ (fun e => hne (congrArg Addr.block e).symm), World.cell?_setCell_other _ _ _ _ (fun e => hne (congrArg Addr.block e).symm)]
  exact h

set_option maxHeartbeats 8000000 in
theorem rseen_ok {w : World} {v : Value} {N : Nat} {C : Nat → Cd} {a b st : Int} (h : CodsIn w v N C) (h0 : 0 < N) (h6 : N ≤ 6) (hr : 1 ≤ a ∧ a ≤ 6 ∧ 1 ≤ b ∧ b ≤ 6 ∧ 1 ≤ st ∧ st ≤ 64) (hal : (C 0).al = true) :
    Calls Tryd.prog 15 #[.int .i64 a, .int .i64 b, .int .i64 st, v] w fun e w' => (((seeS a b st C N).1 ≠ 0 ∧ e = .returned (.tuple #[.slice none 0 0, .int .i64 ((seeS a b st C N).1 : Nat)])) ∨ ((seeS a b st C N).1 = 0 ∧ ∃ u, e = .returned (.tuple #[u, .int .i64 0]) ∧ PicsIn w' u N (seeP a b st C))) ∧ Below w.heap.size w w' := by
  obtain ⟨a1, a6, b1, b6, s1, s6⟩ := hr
  obtain ⟨ad, cap, rfl, _, _, h3⟩ := h
  obtain ⟨bb, o, rfl, hc⟩ := h3 h0
  have HC := hide hc
  have HA0 := hide hal
  have HBb : Hid (bb < w.heap.size) := by obtain ⟨s9, h9, _⟩ := hc 0 h0; exact cell_lt h9
  have hNe : ((N : Int) == 0) = false := by rw [beq_eq_false_iff_ne]; omega
  obtain ⟨s0, d0, _, _, _, _⟩ := hc 0 h0
  rw [hal, show o + 0 * 4 = o by omega] at d0
  obtain ⟨i0, hi0, hz0, hz1, hz2⟩ := info_parts Tryd.infoPic
  have Hi := hide hi0
  have Hz0 := hide hz0
  have Hz1 := hide hz1
  have Hz2 := hide hz2
  have HSt := hide (fun j => seeS_step (a := a) (b := b) (s := st) (C := C) (i := j))
  have HSp : Hid (∀ j, j ≤ N → (seeS a b st C j).1 ≠ 0 → seeS a b st C N = seeS a b st C j) := fun j hj h => seeS_stop h hj
  have HPs : Hid (∀ i, seeP a b st C i = (seeS a b st C (i + 1)).2) := fun i => rfl
  have HS0 : Hid ((seeS a b st C 0).1 = 0) := rfl
  clear hc h3 hal hi0 hz0 hz1 hz2
  generalize hSS : seeS a b st C = SS at *
  generalize hPP : seeP a b st C = PP at *
  clear hSS hPP
  go_enter Tryd.func15, Tryd.ntmps15
  go_wp2
  go_loopw [10, 11] (fun u i wr => ∃ (j : Nat) (adu : Option Addr) (cpu : Nat), j ≤ N ∧ i = .int .i64 j ∧ u = .slice adu j cpu ∧ Hid (PicR wr w.heap.size u j PP) ∧ Hid ((SS j).1 = 0) ∧ Below w.heap.size w wr) (fun _ i _ => N - (intOf i).toNat)
  case atStart => exact ⟨0, none, 0, Nat.zero_le _, rfl, rfl, ⟨fun _ => .slice none 0 0, rowS_nil _ _ _ _ _ _ _ _⟩, HS0.out, Below.refl _ _⟩
  case round =>
    obtain ⟨j, adu, cpu, hj, rfl, rfl, HR, HE, hb⟩ := hrel
    have HB := hide hb
    have hsz := hb.size
    clear hb
    by_cases hlt : j < N
    · obtain ⟨s, e0, e1, e2, e3, hi⟩ := HC.out j hlt
      have hstep := HSt.out j HE.out
      obtain ⟨W1, hW1⟩ : ∃ W1, W1 = wr.alloc (.cells #[.int .i64 0, .int .i64 0, .slice none 0 0] 46) := ⟨_, rfl⟩
      have hB1 : Below wr.heap.size wr W1 := hW1 ▸ (Below.refl _ _).alloc (Nat.le_refl _) _
      have HB1 := hide hB1
      have hz1 : W1.heap.size = wr.heap.size + 1 := by rw [hW1]; simp
      have HP1 := hide (hW1 ▸ picIn_new wr 0 0 (.slice none 0 0) : PicIn W1 wr.heap.size 0 0 (.slice none 0 0))
      have hbw := below_two HB.out hB1
      have f0 := cell_below hbw e0
      have f1 := cell_below hbw e1
      have f2 := cell_below hbw e2
      have f3 := cell_below hbw e3
      have HI1 := hide (hi.below hbw)
      have HCj : Hid (stpC a b st (C j) (SS j).2 = SS (j + 1)) := hstep.symm
      clear hi e0 e1 e2 e3 hstep hbw hB1
      go_upto_region 14 with fail
      rw [← hW1]
      have HW1 := hide hW1
      have Hz1' := hide hz1
      clear hW1 hz1
      have HRW := hide (fun W (hW : Below wr.heap.size wr W) => HR.out.below hW)
      have HOB : Hid (∀ k, (Value.slice adu j cpu).ownBlock = some k → k < wr.heap.size) := fun k e => by obtain ⟨S, hS⟩ := HR.out; exact (hS.own.lt k e).2
      have hprev : 0 < j → ∃ g c, Value.slice adu j cpu = .slice (some ⟨g, 0, none⟩) j c ∧ ∃ sp, PicC wr g (0 + (j - 1) * 3) (PP (j - 1)) sp := fun h0 => by
        obtain ⟨S, hS⟩ := HR.out
        obtain ⟨g, c, e, _, _, hcc⟩ := hS.cells h0
        exact ⟨g, c, e, S (j - 1), by simpa [picH] using hcc (j - 1) 0 (by omega) (by omega), by simpa [picH] using hcc (j - 1) 1 (by omega) (by omega), by simpa [picH] using hcc (j - 1) 2 (by omega) (by omega), hS.ints (j - 1) (by omega)⟩
      have HPv := hide hprev
      have HP0 : Hid (∀ i, i + 1 = j → PP i = (SS j).2) := fun i e => by rw [HPs.out, e]
      have HA1 : Hid ((C j).al = false → 0 < j) := fun h => by
        refine Nat.pos_of_ne_zero (fun e => ?_)
        rw [e, HA0.out] at h; cases h
      clear hprev
      generalize hE' : SS (j + 1) = E at *
      have HE' := hide hE'
      clear hE'
      go_upto_if 57 with fail
      go_cut [13] (fun t wx => ∃ (qa qb : Int) (qn : Nat) (aq : Option Addr) (cq : Nat) (qf : Nat → Int), t = .int .i64 (E.1 : Nat) ∧ Hid (PicIn wx wr.heap.size qa qb (.slice aq qn cq)) ∧ Hid (IntsIn wx (.slice aq qn cq) qn qf) ∧ Hid (∀ k, (Value.slice aq qn cq).ownBlock = some k → wr.heap.size < k) ∧ Hid (E.1 = 0 → E.2 = ⟨qa, qb, qn, qf⟩) ∧ Hid (Below wr.heap.size wr wx))
      case first =>
        cases hal : (C j).al with
        | true =>
          rw [hal] at f0
          have HCj2 : Hid (E = if (C j).x ≠ 0 ∨ (C j).y ≠ 0 then (3, Pc.none) else (decF a b st (C j).n (C j).f, ⟨deX a b st (C j).n (C j).f, deY a b st (C j).n (C j).f, deM a b st (C j).n (C j).f, deG a st (C j).f⟩)) := by
            unfold Hid
            rw [← HCj.out]
            unfold stpC
            rw [if_pos hal]
          have K := hide (rtold_all a b st HI1.out)
          clear hal HCj HI1 HPv HA1
          generalize (C j).x = cx at *
          generalize (C j).y = cy at *
          generalize (C j).n = cn at *
          generalize (C j).f = cf at *
          by_cases hx : cx = 0
          · by_cases hy : cy = 0
            · subst hx hy
              have n1 : ((0 : Int) != 0) = false := rfl
              rw [if_neg (by simp)] at HCj2
              generalize deX a b st cn cf = dx at *
              generalize deY a b st cn cf = dy at *
              generalize deM a b st cn cf = dm at *
              generalize decF a b st cn cf = df at *
              generalize deG a st cf = dg at *
              go_wp2_with fail
              refine (K.out).mono ?_
              rintro e w2 ⟨ad2, cp2, rfl, hi2, hb2, hn2⟩
              have HP2 := HP1.out.below hb2
              have HPp := hide (HP2.put dx dy (.slice ad2 dm cp2))
              have hb9 : Below wr.heap.size wr (((w2.setCell ⟨wr.heap.size, 0, none⟩ (.int .i64 dx)).setCell ⟨wr.heap.size, 1, none⟩ (.int .i64 dy)).setCell ⟨wr.heap.size, 2, none⟩ (.slice ad2 dm cp2)) :=
                (((below_two HB1.out hb2).setCell (Nat.le_refl _) _).setCell (Nat.le_refl _) _).setCell (Nat.le_refl _) _
              have HB9 := hide hb9
              have hne : ∀ k, (Value.slice ad2 dm cp2).ownBlock = some k → k ≠ wr.heap.size := fun k e => by have := hn2 k e; have := Hz1'.out; omega
              have HI9 := hide (ints_set (o := 2) (ints_set (o := 1) (ints_set (o := 0) hi2 hne (.int .i64 dx)) hne (.int .i64 dy)) hne (.slice ad2 dm cp2))
              have HN9 : Hid (∀ k, (Value.slice ad2 dm cp2).ownBlock = some k → wr.heap.size < k) := fun k e => by have := hn2 k e; have := Hz1'.out; omega
              obtain ⟨⟨c0, g0⟩, ⟨c1, g1⟩, c2, g2⟩ := HP2
              clear hi2 hb2 hn2 hne hb9 K
              go_wp2
              go_meet
              exact ⟨dx, dy, dm, ad2, cp2, dg, by rw [HCj2.out], HPp, HI9, HN9, fun _ => by rw [HCj2.out], HB9⟩
            · have n1 : (cy != 0) = true := by simp [bne, hy]
              rw [if_pos (Or.inr hy)] at HCj2
              subst hx
              clear hy K
              go_wp2
              go_meet
              exact ⟨0, 0, 0, none, 0, fun _ => 0, by rw [HCj2.out]; rfl, HP1, Or.inl ⟨rfl, _, _, rfl⟩, (fun k e => by cases e), (fun h => by rw [HCj2.out] at h; cases h), HB1⟩
          · have n1 : (cx != 0) = true := by simp [bne, hx]
            rw [if_pos (Or.inl hx)] at HCj2
            clear hx K
            go_wp2
            go_meet
            exact ⟨0, 0, 0, none, 0, fun _ => 0, by rw [HCj2.out]; rfl, HP1, Or.inl ⟨rfl, _, _, rfl⟩, (fun k e => by cases e), (fun h => by rw [HCj2.out] at h; cases h), HB1⟩
        | false =>
          rw [hal] at f0
          obtain ⟨p, rfl⟩ : ∃ p, j = p + 1 := ⟨j - 1, by have := HA1.out hal; omega⟩
          obtain ⟨gg, c, hge, sp, hp0, hp1, hp2, hpi⟩ := HPv.out (by omega)
          obtain ⟨rfl, rfl⟩ : adu = some ⟨gg, 0, none⟩ ∧ cpu = c := by cases hge; exact ⟨rfl, rfl⟩
          simp only [Nat.add_sub_cancel, Nat.zero_add] at hp0 hp1 hp2 hpi
          have r0 := cell_below HB1.out hp0
          have r1 := cell_below HB1.out hp1
          have r2 := cell_below HB1.out hp2
          have HCj2 : Hid (E = (mdeF (PP p).a (PP p).b (PP p).n (PP p).f false (C (p + 1)).x (C (p + 1)).y (C (p + 1)).n (C (p + 1)).f st, ⟨mdX (PP p).a (PP p).b (PP p).n (PP p).f false (C (p + 1)).x (C (p + 1)).y (C (p + 1)).n (C (p + 1)).f st, mdY (PP p).a (PP p).b (PP p).n (PP p).f false (C (p + 1)).x (C (p + 1)).y (C (p + 1)).n (C (p + 1)).f st, mdM (PP p).a (PP p).b (PP p).n (PP p).f false (C (p + 1)).x (C (p + 1)).y (C (p + 1)).n (C (p + 1)).f st, mdG (PP p).a (PP p).b (PP p).f (C (p + 1)).x (C (p + 1)).y (C (p + 1)).f st⟩)) := by
            unfold Hid
            rw [← HCj.out, ← HP0.out p rfl]
            unfold stpC
            rw [if_neg (by rw [hal]; simp), hal]
          have HIp := hide (hpi.below HB1.out)
          have K := hide (fun W (hW : Below W1.heap.size W1 W) => rbehind_all (PP p).a (PP p).b false (C (p + 1)).x (C (p + 1)).y st (HIp.out.below hW) (HI1.out.below hW))
          clear hal HCj HI1 HPv HA1 hge hp0 hp1 hp2 hpi HIp
          generalize mdeF (PP p).a (PP p).b (PP p).n (PP p).f false (C (p + 1)).x (C (p + 1)).y (C (p + 1)).n (C (p + 1)).f st = df at *
          generalize mdX (PP p).a (PP p).b (PP p).n (PP p).f false (C (p + 1)).x (C (p + 1)).y (C (p + 1)).n (C (p + 1)).f st = dx at *
          generalize mdY (PP p).a (PP p).b (PP p).n (PP p).f false (C (p + 1)).x (C (p + 1)).y (C (p + 1)).n (C (p + 1)).f st = dy at *
          generalize mdM (PP p).a (PP p).b (PP p).n (PP p).f false (C (p + 1)).x (C (p + 1)).y (C (p + 1)).n (C (p + 1)).f st = dm at *
          generalize mdG (PP p).a (PP p).b (PP p).f (C (p + 1)).x (C (p + 1)).y (C (p + 1)).f st = dg at *
          generalize (C (p + 1)).x = cx at *
          generalize (C (p + 1)).y = cy at *
          generalize (PP p).a = pa at *
          generalize (PP p).b = pb at *
          have q1 : 0 ≤ (p : Int) ∧ (p : Int) < ((p + 1 : Nat) : Int) := by omega
          have q2 : 0 ≤ (p : Int) ∧ (p : Int) < (p : Int) + 1 := by omega
          have q3 : 0 ≤ ((p + 1 : Nat) : Int) ∧ ((p + 1 : Nat) : Int) < (N : Int) := by omega
          have q4 : 0 ≤ (p : Int) + 1 ∧ (p : Int) + 1 < (N : Int) := by omega
          have q5 : (p : Int) + 1 - 1 = (p : Int) := by omega
          have q6 : ((p : Int) + 1).toNat = p + 1 := by omega
          have q7 : IntKind.i64.wrap (p : Int) = (p : Int) := by rw [IntKind.wrap_i64]; omega
          have q8 : IntKind.i64.wrap (((p + 1 : Nat) : Int) - 1) = (p : Int) := by rw [IntKind.wrap_i64]; omega
          have q9 : IntKind.i64.wrap ((p : Int) + 1 - 1) = (p : Int) := by rw [IntKind.wrap_i64]; omega
          have hgb : gg ≠ wr.heap.size := fun e => by have := HOB.out gg rfl; omega
          have hbb : bb ≠ wr.heap.size := fun e => by have := HBb.out; omega
          have HP1f := HP1
          obtain ⟨⟨y0, y1⟩, ⟨y2, y3⟩, y4, y5⟩ := HP1f.out
          go_wp2_with fail
          go_region_held3 (fun w' => w'.cell? ⟨gg, p * 3, none⟩ = some (.int .i64 pa) ∧ w'.cell? ⟨gg, p * 3 + 1, none⟩ = some (.int .i64 pb) ∧ w'.cell? ⟨gg, p * 3 + 2, none⟩ = some sp ∧ w'.cell? ⟨bb, o + (p + 1) * 4, none⟩ = some (.bool false) ∧ w'.cell? ⟨bb, o + (p + 1) * 4 + 1, none⟩ = some (.int .i64 cx) ∧ w'.cell? ⟨bb, o + (p + 1) * 4 + 2, none⟩ = some (.int .i64 cy) ∧ w'.cell? ⟨bb, o + (p + 1) * 4 + 3, none⟩ = some s) (first | go_keep | exact ⟨cell_below hb2 r0, cell_below hb2 r1, cell_below hb2 r2, cell_below hb2 f0, cell_below hb2 f1, cell_below hb2 f2, cell_below hb2 f3⟩ | exact ⟨cell_put (cell_below hb2 r0) hgb, cell_put (cell_below hb2 r1) hgb, cell_put (cell_below hb2 r2) hgb, cell_put (cell_below hb2 f0) hbb, cell_put (cell_below hb2 f1) hbb, cell_put (cell_below hb2 f2) hbb, cell_put (cell_below hb2 f3) hbb⟩)
            (first | (go_at_call 36; refine (K.out W1.drew ⟨rfl, rfl, rfl, Nat.le_refl _, fun _ _ => rfl⟩).mono ?_; rintro e w2 ⟨ad2, cp2, rfl, hi2, hb2', hn2⟩; have hb2 : Below W1.heap.size W1 w2 := ⟨hb2'.os, hb2'.tape, hb2'.output, hb2'.size, hb2'.block⟩; obtain ⟨⟨z0, z1⟩, ⟨z2, z3⟩, z4, z5⟩ := HP1f.out.below hb2))
          have HPp := hide ((HP1f.out.below hb2).put dx dy (.slice ad2 dm cp2))
          have HB9 : Hid (Below wr.heap.size wr (((w2.setCell ⟨wr.heap.size, 0, none⟩ (.int .i64 dx)).setCell ⟨wr.heap.size, 1, none⟩ (.int .i64 dy)).setCell ⟨wr.heap.size, 2, none⟩ (.slice ad2 dm cp2))) :=
            (((below_two HB1.out hb2).setCell (Nat.le_refl _) _).setCell (Nat.le_refl _) _).setCell (Nat.le_refl _) _
          have hne : ∀ k, (Value.slice ad2 dm cp2).ownBlock = some k → k ≠ wr.heap.size := fun k e => by have h9 : W1.heap.size ≤ k := hn2 k e; have := Hz1'.out; omega
          have HI9 := hide (ints_set (o := 2) (ints_set (o := 1) (ints_set (o := 0) hi2 hne (.int .i64 dx)) hne (.int .i64 dy)) hne (.slice ad2 dm cp2))
          have HN9 : Hid (∀ k, (Value.slice ad2 dm cp2).ownBlock = some k → wr.heap.size < k) := fun k e => by have h9 : W1.heap.size ≤ k := hn2 k e; have := Hz1'.out; omega
          clear hi2 hb2 hb2' hn2 hne K z0 z1 z2 z3 z4 z5 y0 y1 y2 y3 y4 y5 r0 r1 r2 f0 f1 f2 f3
          go_wp2_with fail
          go_meet
          exact ⟨dx, dy, dm, ad2, cp2, dg, by rw [HCj2.out], HPp, HI9, HN9, fun _ => by rw [HCj2.out], HB9⟩
      case rest =>
        obtain ⟨qa, qb, qn, aq, cq, qf, rfl, HPq, HIq, HNq, HEq, HBq⟩ := hcut
        clear HCj HI1 HPv HA1 HP1 HB1 HW1 HP0 f0 f1 f2 f3
        have HBw : Hid (Below w.heap.size w wc) := below_two HB.out HBq.out
        by_cases hE : E.1 = 0
        · obtain ⟨S, hS⟩ := HR.out
          have hSw := hS.below HBq.out
          have HX := hide hSw
          have HPj : Hid (PP j = ⟨qa, qb, qn, qf⟩) := by
            unfold Hid
            rw [HPs.out, HE'.out, HEq.out hE]
          obtain ⟨⟨x0, x1⟩, ⟨x2, x3⟩, x4, x5⟩ := HPq.out
          have hE9 : Hid ((SS (j + 1)).1 = 0) := by unfold Hid; rw [HE'.out]; exact hE
          have hszc := HBw.out.size
          rw [hE]
          clear hS hSw
          go_wp2_with (at_builtin; refine wpList_append_lies _ rfl _ _ 41 rfl w.heap.size 46 i0 (.agg #[.int .i64 0, .int .i64 0, .slice none 0 0]) 3 40 Tryd.underlying41 Hi.out Hz0.out Hz1.out Hz2.out rfl (by decide) _ _ _ rfl (HX.out.own.alloc _) ⟨wc.heap.size, 0, none⟩ 1 1 [.int .i64 qa, .int .i64 qb, .slice aq qn cq] rfl rfl (World.news_of_block (cs := #[.int .i64 qa, .int .i64 qb, .slice aq qn cq]) (t := 46) (fr := (0, 0)) (heap_alloc_new wc _)) (fun x hx => by simp at hx; rcases hx with rfl | rfl | rfl <;> rfl) (by decide) (by unfold maxLen; omega) (by omega) (by simp; omega) _ rfl ?_; intro g3 cap3 w5 hown3 hgrow3 hat3 hlt3)
          go_roundw
          case rel =>
            have hB5 : Below w.heap.size wc w5 := ((Below.refl w.heap.size wc).alloc hszc _).grown hgrow3 (by simp; omega) (fun q hq => (HX.out.own.lt q hq).1)
            have HPR : Hid (PicR w5 w.heap.size (.slice (some ⟨g3, 0, none⟩) (j + 1) cap3) (j + 1) PP) := by
              refine PicR.snoc (s := .slice aq qn cq) HX.out ?_ hgrow3 hat3 ?_ (fun k e => ?_) (fun k e e2 => ?_)
              · rw [HPj.out]; exact hown3
              · rw [HPj.out]; exact HIq.out
              · have := HNq.out k e; omega
              · have h1 := HNq.out k e; have h2 := HOB.out k e2; omega
            have R : j + 1 ≤ N ∧ Value.int .i64 ((j : Int) + 1) = .int .i64 ((j + 1 : Nat) : Int) ∧ Value.slice (some ⟨g3, 0, none⟩) (j + 1) cap3 = .slice (some ⟨g3, 0, none⟩) (j + 1) cap3 ∧ Hid (PicR w5 w.heap.size (.slice (some ⟨g3, 0, none⟩) (j + 1) cap3) (j + 1) PP) ∧ Hid ((SS (j + 1)).1 = 0) ∧ Below w.heap.size w w5 :=
              ⟨by omega, by simp, rfl, HPR, hE9, HBw.out.trans hB5⟩
            first
              | exact ⟨j + 1, some ⟨g3, 0, none⟩, cap3, R⟩
              | ((repeat apply Exists.intro); exact ⟨⟨j + 1, some ⟨g3, 0, none⟩, cap3, R⟩, rfl⟩)
          case measure => simp [intOf]; omega
        · have hEn : ((E.1 : Int) != 0) = true := by
            have : ((E.1 : Int) == 0) = false := by rw [beq_eq_false_iff_ne]; omega
            simp [bne, this]
          have HN : Hid (SS N = E) := by
            unfold Hid
            rw [HSp.out (j + 1) (by omega) (by rw [HE'.out]; exact hE), HE'.out]
          go_wp2
          go_ret2
          exact ⟨Or.inl ⟨by rw [HN.out]; exact hE, by show Ending.returned (.tuple #[.slice none 0 0, .int .i64 (E.1 : Nat)]) = _; rw [HN.out]⟩, HBw.out⟩
    · obtain rfl : j = N := by omega
      go_wp2
      go_ret2
      exact ⟨Or.inr ⟨HE.out, _, rfl, HR.out.pics⟩, HB.out⟩
end Go.Proofs.YtjhflcgphejddaaDoor

namespace Go.Proofs.YtjhflcgphejddaaDoor
open Go.RowKit
set_option linter.unusedVariables false
set_option maxRecDepth 100000

theorem rseen_any {w : World} {v : Value} {N : Nat} {C : Nat → Cd} (a b st : Int) (h : CodsIn w v N C) :
    Calls Tryd.prog 15 #[.int .i64 a, .int .i64 b, .int .i64 st, v] w fun e w' => ((seeF a b st N C ≠ 0 ∧ e = .returned (.tuple #[.slice none 0 0, .int .i64 (seeF a b st N C : Nat)])) ∨ (seeF a b st N C = 0 ∧ ∃ u, e = .returned (.tuple #[u, .int .i64 0]) ∧ PicsIn w' u N (seeP a b st C))) ∧ Below w.heap.size w w' := by
  by_cases hx : N = 0 ∨ 6 < N ∨ ¬ (1 ≤ a ∧ a ≤ 6 ∧ 1 ≤ b ∧ b ≤ 6 ∧ 1 ≤ st ∧ st ≤ 64) ∨ (C 0).al = false
  · refine (rseen_bad a b st h hx).mono ?_
    rintro e w' ⟨rfl, rfl⟩
    refine ⟨Or.inl ⟨?_, rfl⟩, Below.refl _ _⟩
    unfold seeF
    split
    · simp
    · rename_i c1
      split
      · simp
      · rename_i c2
        split
        · simp
        · rename_i c3
          split
          · simp
          · rename_i c4
            rcases hx with h1 | h1 | h1 | h1
            · exact absurd h1 c1
            · exact absurd h1 c2
            · refine absurd ?_ c3
              unfold sidF
              rw [if_neg h1]
              simp
            · exact absurd h1 c4
  · have h0 : 0 < N := Nat.pos_of_ne_zero (fun e => hx (Or.inl e))
    have h6 : N ≤ 6 := Nat.le_of_not_lt (fun e => hx (Or.inr (Or.inl e)))
    have hr : 1 ≤ a ∧ a ≤ 6 ∧ 1 ≤ b ∧ b ≤ 6 ∧ 1 ≤ st ∧ st ≤ 64 := Classical.byContradiction fun e => hx (Or.inr (Or.inr (Or.inl e)))
    have hal : (C 0).al = true := by
      cases hc : (C 0).al with
      | true => rfl
      | false => exact absurd (Or.inr (Or.inr (Or.inr hc))) hx
    have e : seeF a b st N C = (seeS a b st C N).1 := by
      unfold seeF sidF
      rw [if_neg (by omega), if_neg (by omega), if_pos hr, if_neg (by simp), if_neg (by rw [hal]; simp)]
    rw [e]
    exact rseen_ok h h0 h6 hr hal

set_option maxHeartbeats 1000000 in
theorem rbytes_bad {w : World} {v : Value} {N : Nat} {C : Nat → Cd} (a b st : Int) (h : CodsIn w v N C) (hx : seeF a b st N C ≠ 0) :
    Calls Tryd.prog 6 #[.int .i64 a, .int .i64 b, .int .i64 st, v] w fun e w' => e = .returned (.tuple #[.string ByteArray.empty, .int .i64 (seeF a b st N C : Nat)]) ∧ Below w.heap.size w w' := by
  have K := hide (rseen_any a b st h)
  obtain ⟨ad, cap, rfl, _, _, h3⟩ := h
  have hne : ((seeF a b st N C : Int) != 0) = true := by
    have : ((seeF a b st N C : Int) == 0) = false := by rw [beq_eq_false_iff_ne]; omega
    simp [bne, this]
  clear h3
  generalize seeF a b st N C = k at *
  have HX := hide hx
  clear hx
  go_enter Tryd.func6, Tryd.ntmps6
  go_wp2_with fail
  refine (K.out).mono ?_
  rintro e w1 ⟨h9, hb1⟩
  obtain ⟨_, rfl⟩ := h9.resolve_right (fun q => HX.out q.1)
  have HB := hide hb1
  clear hb1 h9
  go_wp2
  go_ret2
  exact ⟨rfl, HB.out⟩
end Go.Proofs.YtjhflcgphejddaaDoor
