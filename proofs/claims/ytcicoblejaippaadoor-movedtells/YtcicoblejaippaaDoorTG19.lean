/-
  Lemmas for the law above, joined into one text (RMvB, RMvM). No statement is proved here.
-/
import Derived.Test.YtcicoblejaippaaDoorTG15
import Derived.Test.YtcicoblejaippaaDoorTG7
import Derived.Test.YtcicoblejaippaaDoorTG9
import Derived.Test.YtcicoblejaippaaDoorTG17
namespace Go.Proofs.YtcicoblejaippaaDoor
open Go.RowKit Go.Maps
set_option linter.unusedVariables false
set_option maxRecDepth 100000

/-- The least so far, as the document's function has it: none yet is -1. -/
def rbL (D : Nat → Nat) (j : Nat) : Int := if j = 0 then -1 else (D (bestI D j) : Nat)
theorem rb_take {D : Nat → Nat} {j : Nat} (h : rbL D j < 0 ∨ (D j : Int) < rbL D j) : mbX D (j + 1) = mvX j ∧ mbY D (j + 1) = mvY j ∧ rbL D (j + 1) = (D j : Nat) := by
  have e : bestI D (j + 1) = j := by
    rw [bestI_step]
    unfold rbL at h
    by_cases c : j = 0
    · subst c; split <;> rfl
    · rw [if_neg c] at h
      rw [if_pos (by omega)]
  unfold mbX mbY rbL
  rw [e]
  simp
theorem rb_keep {D : Nat → Nat} {j : Nat} (h : 0 ≤ rbL D j) (h2 : rbL D j ≤ (D j : Int)) : mbX D (j + 1) = mbX D j ∧ mbY D (j + 1) = mbY D j ∧ rbL D (j + 1) = rbL D j := by
  unfold rbL at h h2
  have hj : ¬ j = 0 := by
    intro c
    rw [if_pos c] at h
    omega
  rw [if_neg hj] at h2
  have e : bestI D (j + 1) = bestI D j := by rw [bestI_step, if_neg (by omega)]
  unfold mbX mbY rbL
  rw [e]
  simp [hj]
theorem rbL_in {D : Nat → Nat} (h : ∀ i, D i ≤ 9180) (j : Nat) : -1 ≤ rbL D j ∧ rbL D j ≤ 9180 := by
  unfold rbL
  split
  · omega
  · have := h (bestI D j); omega

set_option maxHeartbeats 4000000 in
theorem rbest_ok {w : World} {s s' : Value} {n : Nat} {f f' : Nat → Int} {a b a' b' : Int} {A B : Nat} (h : IntsIn w s n f) (h' : IntsIn w s' n f') (o : PicOk a b n f A B) (o' : PicOk a' b' n f' A B) :
    Calls Tryd.prog 6 #[.agg #[.int .i64 a, .int .i64 b, s], .agg #[.int .i64 a', .int .i64 b', s']] w fun e w' => e = .returned (.agg #[.int .i64 (bsX A B f f' n), .int .i64 (bsY A B f f' n)]) ∧ Below w.heap.size w w' := by
  obtain ⟨W1, hW1⟩ : ∃ W1, W1 = w.alloc (.cells #[.int .i64 a, .int .i64 b, s] 24) := ⟨_, rfl⟩
  obtain ⟨W2, hW2⟩ : ∃ W2, W2 = W1.alloc (.cells #[.int .i64 a', .int .i64 b', s'] 24) := ⟨_, rfl⟩
  obtain ⟨W3, hW3⟩ : ∃ W3, W3 = W2.alloc (.cells #[.int .i64 0, .int .i64 0] 26) := ⟨_, rfl⟩
  obtain ⟨W4, hW4⟩ : ∃ W4, W4 = W3.alloc (.cells #[.int .i64 0, .int .i64 0] 26) := ⟨_, rfl⟩
  have b1 : Below w.heap.size w W1 := hW1 ▸ (Below.refl _ _).alloc (Nat.le_refl _) _
  have b12 : Below W1.heap.size W1 W2 := hW2 ▸ (Below.refl _ _).alloc (Nat.le_refl _) _
  have b23 : Below W2.heap.size W2 W3 := hW3 ▸ (Below.refl _ _).alloc (Nat.le_refl _) _
  have b34 : Below W3.heap.size W3 W4 := hW4 ▸ (Below.refl _ _).alloc (Nat.le_refl _) _
  have b4 := below_two (below_two (below_two b1 b12) b23) b34
  have z1 : W1.heap.size = w.heap.size + 1 := by rw [hW1]; simp
  have z2 : W2.heap.size = w.heap.size + 1 + 1 := by rw [hW2]; simp [z1]
  have z3 : W3.heap.size = w.heap.size + 1 + 1 + 1 := by rw [hW3]; simp [z2]
  have HB0 : Hid (Bs w W4 a b s a' b' s' (w.heap.size + 1 + 1 + 1) 0 0) := by
    refine ⟨PicIn.below (hW1 ▸ picIn_new w a b s) (below_two (below_two b12 b23) b34), ?_, ?_, ?_, by omega, b4⟩
    · have := picIn_new W1 a' b' s'
      rw [← hW2, z1] at this
      exact this.below (below_two b23 b34)
    · have := mvIn_new W2 0 0
      rw [← hW3, z2] at this
      exact this.below b34
    · have := mvIn_new W3 0 0
      rw [← hW4, z3] at this
      exact this
  have HS := hide h
  have hl := o.le
  have h0 := o.pos
  have KS := hide (fun (wc : World) (x y : Int) (hw : IntsIn wc s n f) (hm : farF x y = 0) => rshift_ok x y hw o hm)
  have KP := hide (fun (x y : Int) => (o.shift x y).pix)
  have HP' := hide o'.pix
  have HD := hide (apN_le o o'.pix)
  have HA : Hid (∀ i, apN A B f f' n i = sumN (shiftN A B (mvX i) (mvY i) f) f' n) := fun i => rfl
  have HX : Hid (mbX (apN A B f f' n) 9 = bsX A B f f' n) := rfl
  have HY : Hid (mbY (apN A B f f' n) 9 = bsY A B f f' n) := rfl
  generalize bsX A B f f' n = bx at *
  generalize bsY A B f f' n = by_ at *
  generalize apN A B f f' n = D at *
  obtain ⟨ads, caps, rfl⟩ := slice_shape h
  obtain ⟨bb', oo', caps', rfl, hcb⟩ : ∃ ad oo cap, s' = .slice (some ⟨ad, oo, none⟩) n cap ∧ ∀ i, i < n → w.cell? ⟨ad, oo + i, none⟩ = some (.int .i64 (f' i)) := by
    rcases h' with ⟨h, _⟩ | ⟨_, b, o, c, rfl, hc⟩
    · omega
    · exact ⟨_, _, _, rfl, hc⟩
  have HCB := hide hcb
  subst hW4
  subst hW3
  subst hW2
  subst hW1
  clear h h' b1 b12 b23 b34 b4 z1 z2 z3 o o' hcb
  go_enter Tryd.func6, Tryd.ntmps6
  go_wp2
  go_loopw [6, 7] (fun l i wr => ∃ j : Nat, j ≤ 9 ∧ i = .int .i64 j ∧ l = .int .i64 (rbL D j) ∧ Hid (Bs w wr a b (.slice ads n caps) a' b' (.slice (some ⟨bb', oo', none⟩) n caps') (w.heap.size + 1 + 1 + 1) (mbX D j) (mbY D j))) (fun _ i _ => 9 - (intOf i).toNat)
  case atStart => exact ⟨0, by omega, rfl, rfl, HB0⟩
  case round =>
    obtain ⟨j, hj, rfl, rfl, HR⟩ := hrel
    by_cases hlt : j < 9
    · have hfar := mv_far hlt
      have hxy : mvX j = ((j % 3 : Nat) : Int) - 1 ∧ mvY j = ((j / 3 : Nat) : Int) - 1 := ⟨rfl, rfl⟩
      have e1 : (j : Int) / 3 = ((j / 3 : Nat) : Int) := by omega
      have e2 : (j : Int) % 3 = ((j % 3 : Nat) : Int) := by omega
      have e3 : (j : Int).tdiv 3 = ((j / 3 : Nat) : Int) := by rw [Int.tdiv_eq_ediv_of_nonneg (by omega)]; exact e1
      have e4 : (j : Int).tmod 3 = ((j % 3 : Nat) : Int) := by rw [Int.tmod_eq_emod_of_nonneg (by omega)]; exact e2
      have n1 : j % 3 ≤ 2 := by omega
      have n2 : j / 3 ≤ 2 := by omega
      have hLj := rbL_in HD.out j
      have hDj := HD.out j
      have HT := hide (@rb_take D j)
      have HK := hide (@rb_keep D j)
      have HAj := hide (HA.out j)
      rw [hxy.1, hxy.2] at hfar HAj HT
      generalize mbX D j = X at *
      generalize mbY D j = Y at *
      generalize rbL D j = L at *
      clear hxy
      generalize j % 3 = jr at *
      generalize j / 3 = jq at *
      obtain ⟨l0, l1⟩ := hLj
      obtain ⟨W5, hW5⟩ : ∃ W5, W5 = wr.alloc (.cells #[.int .i64 ((jr : Int) - 1), .int .i64 ((jq : Int) - 1)] 26) := ⟨_, rfl⟩
      have b5 : Below wr.heap.size wr W5 := hW5 ▸ (Below.refl _ _).alloc (Nat.le_refl _) _
      have H5 := hide (HR.out.below b5)
      have M5 : Hid (MvIn W5 wr.heap.size ((jr : Int) - 1) ((jq : Int) - 1)) := hide (hW5 ▸ mvIn_new wr _ _)
      have K5 := hide (KS.out W5 _ _ (HS.out.below H5.out.b) hfar)
      obtain ⟨⟨c0, _⟩, ⟨c1, _⟩, c2, _⟩ := H5.out.p
      obtain ⟨c3, c4, _, _⟩ := M5.out
      have HPS := hide (KP.out ((jr : Int) - 1) ((jq : Int) - 1))
      subst hW5
      generalize shiftN A B ((jr : Int) - 1) ((jq : Int) - 1) f = G at *
      clear b5 HR hfar
      go_wp2_with fail
      refine (K5.out).mono ?_
      rintro e w6 ⟨v, rfl, hv, hb6, _⟩
      obtain ⟨gg, go, gcp, rfl, hgc⟩ : ∃ g o c, v = .slice (some ⟨g, o, none⟩) n c ∧ ∀ i, i < n → w6.cell? ⟨g, o + i, none⟩ = some (.int .i64 (G i)) := by
        rcases hv with ⟨h, _⟩ | ⟨_, b, o, c, e, hc⟩
        · omega
        · exact ⟨_, _, _, e, hc⟩
      obtain ⟨W7, hW7⟩ : ∃ W7, W7 = w6.alloc (.cells #[.int .i64 a, .int .i64 b, .slice (some ⟨gg, go, none⟩) n gcp] 24) := ⟨_, rfl⟩
      have b7 : Below w6.heap.size w6 W7 := hW7 ▸ (Below.refl _ _).alloc (Nat.le_refl _) _
      have H7 := hide ((H5.out.below hb6).below b7)
      have M7 := hide ((M5.out.below hb6).below b7)
      have Q7 : Hid (PicIn W7 w6.heap.size a b (.slice (some ⟨gg, go, none⟩) n gcp)) := hide (hW7 ▸ picIn_new w6 _ _ _)
      have HGC : Hid (∀ i, i < n → W7.cell? ⟨gg, go + i, none⟩ = some (.int .i64 (G i))) := fun i hi => cell_below b7 (hgc i hi)
      clear c0 c1 c2 c3 c4
      subst hW7
      clear hv hgc hb6 b7 K5 H5 M5
      obtain ⟨⟨c0, _⟩, ⟨c1, _⟩, c2, _⟩ := Q7.out
      obtain ⟨⟨c3, _⟩, ⟨c4, _⟩, c5, _⟩ := H7.out.q
      go_wp2
      clear c0 c1 c2 c3 c4 c5
      generalize w6.alloc (.cells #[.int .i64 a, .int .i64 b, .slice (some ⟨gg, go, none⟩) n gcp] 24) = W7 at *
      go_loopw [10, 11] (fun m k wx => ∃ q : Nat, q ≤ n ∧ k = .int .i64 q ∧ m = .int .i64 (sumN G f' q : Nat) ∧ Below W7.heap.size W7 wx) (fun _ k _ => n - (intOf k).toNat)
      case atStart => exact ⟨0, Nat.zero_le _, rfl, rfl, Below.refl _ _⟩
      case round =>
        obtain ⟨q, hq, rfl, rfl, hb⟩ := hrel
        have Q8 := hide (Q7.out.below hb)
        have H8 := hide (H7.out.below hb)
        have M8 := hide (M7.out.below hb)
        by_cases hlq : q < n
        · have l1 := cell_below hb (HGC.out q hlq)
          have l2 := cell_below H8.out.b (HCB.out q hlq)
          obtain ⟨⟨c0, _⟩, ⟨c1, _⟩, c2, _⟩ := Q8.out
          obtain ⟨⟨c3, _⟩, ⟨c4, _⟩, c5, _⟩ := H8.out.q
          have hx := HPS.out q hlq
          have hy := HP'.out q hlq
          have hm := sumN_le (f := G) (g := f') (n := q) (fun i hi => HPS.out i (by omega)) (fun i hi => HP'.out i (by omega))
          have HM : Hid (sumN G f' (q + 1) = sumN G f' q + (G q - f' q).natAbs) := rfl
          have K := hide (fun wz => rapart_ok (G q) (f' q) wz hx hy)
          have hd : (G q - f' q).natAbs ≤ 255 := by omega
          generalize (G q - f' q).natAbs = d at *
          generalize G q = x at *
          generalize f' q = y at *
          generalize sumN G f' q = m at *
          have hm2 : m ≤ 9180 := by omega
          clear hm hx hy
          go_wp2_with fail
          go_quiet ((go_at_call 17; exact Calls.quiet_of_same ((K.out _).mono fun e w' ⟨h1, h2⟩ => ⟨h1, h2.symm⟩)))
          go_wp2
          go_roundw
          case rel =>
            refine ⟨q + 1, by omega, by go_num, ?_, below_drewN hb _⟩
            rw [HM.out]
            congr 1
          case measure => simp [intOf]; omega
        · obtain rfl : q = n := by omega
          obtain ⟨⟨c3, _⟩, ⟨c4, _⟩, c5, _⟩ := H8.out.q
          obtain ⟨c0, c1, _, _⟩ := M8.out
          obtain ⟨d0, d1, f0, f1⟩ := H8.out.m
          rw [← HAj.out]
          by_cases hd : L < 0 ∨ (D j : Int) < L
          · have HT' := hide (HT.out hd)
            have HP := hide (H8.out.put ((jr : Int) - 1) ((jq : Int) - 1))
            clear HT HK HAj
            generalize D j = d at *
            have hw : L < 0 ∨ (0 ≤ L ∧ (d : Int) < L) := by omega
            clear hd
            rcases hw with hw | ⟨hw, hw2⟩
            all_goals
              go_wp2
              go_roundw
              case rel =>
                obtain ⟨t0, t1, t2⟩ := HT'.out
                have e2 : Value.int .i64 (d : Nat) = .int .i64 (rbL D (j + 1)) := by rw [t2]
                have e3 : Hid (Bs w ((wr.setCell ⟨w.heap.size + 1 + 1 + 1, 0, none⟩ (.int .i64 ((jr : Int) - 1))).setCell ⟨w.heap.size + 1 + 1 + 1, 1, none⟩ (.int .i64 ((jq : Int) - 1))) a b (.slice ads q caps) a' b' (.slice (some ⟨bb', oo', none⟩) q caps') (w.heap.size + 1 + 1 + 1) (mbX D (j + 1)) (mbY D (j + 1))) := by
                  rw [t0, t1]; exact HP
                first
                  | exact ⟨j + 1, by omega, by go_num, e2, e3⟩
                  | ((repeat apply Exists.intro); exact ⟨⟨j + 1, by omega, by go_num, e2, e3⟩, rfl⟩)
              case measure => simp [intOf]; omega
          · have HK' := hide (HK.out (by omega) (by omega))
            have hw : 0 ≤ L := by omega
            have hw2 : L ≤ (D j : Int) := by omega
            clear HT HK HAj hd
            generalize D j = d at *
            go_wp2
            go_roundw
            case rel =>
              obtain ⟨t0, t1, t2⟩ := HK'.out
              have e2 : Value.int .i64 L = .int .i64 (rbL D (j + 1)) := by rw [t2]
              have e3 : Hid (Bs w wr a b (.slice ads q caps) a' b' (.slice (some ⟨bb', oo', none⟩) q caps') (w.heap.size + 1 + 1 + 1) (mbX D (j + 1)) (mbY D (j + 1))) := by
                rw [t0, t1]; exact H8
              first
                | exact ⟨j + 1, by omega, by go_num, e2, e3⟩
                | ((repeat apply Exists.intro); exact ⟨⟨j + 1, by omega, by go_num, e2, e3⟩, rfl⟩)
            case measure => simp [intOf]; omega
    · obtain rfl : j = 9 := by omega
      rw [HX.out, HY.out] at HR
      clear HX HY
      obtain ⟨d0, d1, _, _⟩ := HR.out.m
      obtain ⟨e0, e1, g0, g1⟩ := HR.out.r
      go_wp2
      refine bodyPost_ret (v := .agg #[.int .i64 bx, .int .i64 by_]) (by simp [results, Tryd.results6, go_sem, e0, e1]) rfl ⟨rfl, ?_⟩
      exact ((HR.out.b.setCell (by show w.heap.size ≤ w.heap.size + 1 + 1; omega) _).setCell (by show w.heap.size ≤ w.heap.size + 1 + 1; omega) _)
end Go.Proofs.YtcicoblejaippaaDoor

namespace Go.Proofs.YtcicoblejaippaaDoor
open Go.RowKit Go.Maps
set_option linter.unusedVariables false
set_option maxRecDepth 100000

/-- The blocks that dropref2's Moved works over, behind so many pixels. -/
structure Mw (w wr : World) (a b a' b' : Int) (s' : Value) (cb gb base : Nat) (X Y : Int) (sv : Value) (n : Nat) (G : Nat → Int) (v : Value) (j : Nat) (F : Nat → Int) : Prop where
  q : PicIn wr (w.heap.size + 1) a' b' s'
  r : CodIn wr (w.heap.size + 1 + 1) false 0 0 (.slice none 0 0)
  c : CodIn wr cb false X Y v
  g : PicIn wr gb a b sv
  i : IntsIn wr sv n G
  own : wr.ownsRow base 3 1 v j ((List.range j).map fun k : Nat => .int .i64 (F k))
  hr : w.heap.size + 1 + 1 < cb
  hc : cb < gb
  hg : gb < base
  hv : ∀ k, sv.ownBlock = some k → k < base ∧ k ≠ cb
  big : base ≤ wr.heap.size
  b : Below w.heap.size w wr
theorem Mw.below {w wr w' : World} {a b a' b' : Int} {s' : Value} {cb gb base : Nat} {X Y : Int} {sv : Value} {n : Nat} {G : Nat → Int} {v : Value} {j : Nat} {F : Nat → Int} (h : Mw w wr a b a' b' s' cb gb base X Y sv n G v j F) (hb : Below wr.heap.size wr w') : Mw w w' a b a' b' s' cb gb base X Y sv n G v j F :=
  ⟨h.q.below hb, h.r.below hb, h.c.below hb, h.g.below hb, h.i.below hb, own_under' h.own hb, h.hr, h.hc, h.hg, h.hv, Nat.le_trans h.big hb.size, below_two h.b hb⟩
theorem Mw.stored {w wr w' : World} {a b a' b' : Int} {s' : Value} {cb gb base : Nat} {X Y : Int} {sv : Value} {n : Nat} {G : Nat → Int} {v : Value} {j : Nat} {F : Nat → Int} (h : Mw w wr a b a' b' s' cb gb base X Y sv n G v j F) (hb : Below base wr w') {v' : Value}
    (hown : w'.ownsRow base 3 1 v' (j + 1) ((List.range (j + 1)).map fun k : Nat => .int .i64 (F k))) : Mw w (w'.setCell ⟨cb, 3, none⟩ v') a b a' b' s' cb gb base X Y sv n G v' (j + 1) F := by
  have h1 := h.hr
  have h2 := h.hc
  have h3 := h.hg
  refine ⟨(h.q.mono hb (by omega)).setOther (by omega) _, (h.r.mono hb (by omega)).setOther (by omega) _, (h.c.mono hb (by omega)).setRest _, (h.g.mono hb (by omega)).setOther (by omega) _, ints_set (ints_mono h.i hb fun k hk => (h.hv k hk).1) (fun k hk => (h.hv k hk).2) _, ownsRow_setCell_below hown (by show cb < base; omega) _, h.hr, h.hc, h.hg, h.hv, Nat.le_trans h.big (by have := hb.size; simpa [World.setCell] using this), (h.b.trans (hb.mono (by omega))).setCell (by show w.heap.size ≤ cb; omega) _⟩

set_option maxHeartbeats 4000000 in
theorem rmoved_ok {w : World} {s s' : Value} {n : Nat} {f f' : Nat → Int} {a b a' b' : Int} {A B : Nat} (st : Int) (h : IntsIn w s n f) (h' : IntsIn w s' n f') (o : PicOk a b n f A B) (o' : PicOk a' b' n f' A B) (s1 : 1 ≤ st) (s2 : st ≤ 64) :
    Calls Tryd.prog 9 #[.agg #[.int .i64 a, .int .i64 b, s], .agg #[.int .i64 a', .int .i64 b', s'], .int .i64 st] w fun e w' => ∃ u, e = .returned (.agg #[.bool false, .int .i64 (bsX A B f f' n), .int .i64 (bsY A B f f' n), u]) ∧ IntsIn w' u n (mrF A B f f' n st) ∧ Below w.heap.size w w' ∧ ∀ k, u.ownBlock = some k → w.heap.size ≤ k := by
  obtain ⟨W1, hW1⟩ : ∃ W1, W1 = w.alloc (.cells #[.int .i64 a, .int .i64 b, s] 24) := ⟨_, rfl⟩
  obtain ⟨W2, hW2⟩ : ∃ W2, W2 = W1.alloc (.cells #[.int .i64 a', .int .i64 b', s'] 24) := ⟨_, rfl⟩
  obtain ⟨W3, hW3⟩ : ∃ W3, W3 = W2.alloc (.cells #[.bool false, .int .i64 0, .int .i64 0, .slice none 0 0] 28) := ⟨_, rfl⟩
  have b1 : Below w.heap.size w W1 := hW1 ▸ (Below.refl _ _).alloc (Nat.le_refl _) _
  have b12 : Below W1.heap.size W1 W2 := hW2 ▸ (Below.refl _ _).alloc (Nat.le_refl _) _
  have b23 : Below W2.heap.size W2 W3 := hW3 ▸ (Below.refl _ _).alloc (Nat.le_refl _) _
  have b3 := below_two (below_two b1 b12) b23
  have z1 : W1.heap.size = w.heap.size + 1 := by rw [hW1]; simp
  have z2 : W2.heap.size = w.heap.size + 1 + 1 := by rw [hW2]; simp [z1]
  have z3 : W3.heap.size = w.heap.size + 1 + 1 + 1 := by rw [hW3]; simp [z2]
  have p1 : PicIn W3 w.heap.size a b s := PicIn.below (hW1 ▸ picIn_new w a b s) (below_two b12 b23)
  have p2 : PicIn W3 (w.heap.size + 1) a' b' s' := by
    have := picIn_new W1 a' b' s'
    rw [← hW2, z1] at this
    exact this.below b23
  have p3 : CodIn W3 (w.heap.size + 1 + 1) false 0 0 (.slice none 0 0) := by
    have := codIn_new W2 false 0 0 (.slice none 0 0)
    rw [← hW3, z2] at this
    exact this
  have C := hide (rbest_ok (h.below b3) (h'.below b3) o o')
  have B3 := hide b3
  have P1 := hide p1
  have P2 := hide p2
  have P3 := hide p3
  have HS := hide h
  have hl := o.le
  have h0 := o.pos
  have hbs := bs_in A B f f' n
  have KS := hide (fun (wc : World) (hw : IntsIn wc s n f) => rshift_ok (bsX A B f f' n) (bsY A B f f' n) hw o (farF_zero.2 (by omega)))
  have HF : Hid (∀ i, mrF A B f f' n st i = rnd (f' i - bgN A B f f' n i) st) := fun i => rfl
  have HGI := hide (bgN_in o f')
  have HPI := hide o'.pix
  have HGE : Hid (shiftN A B (bsX A B f f' n) (bsY A B f f' n) f = bgN A B f f' n) := rfl
  rw [HGE.out] at KS
  generalize bsX A B f f' n = bx at *
  generalize bsY A B f f' n = by_ at *
  generalize bgN A B f f' n = G at *
  generalize hFF : mrF A B f f' n st = F at *
  obtain ⟨ads, caps, rfl⟩ := slice_shape h
  obtain ⟨bb', oo', caps', rfl, hcb⟩ : ∃ ad oo cap, s' = .slice (some ⟨ad, oo, none⟩) n cap ∧ ∀ i, i < n → w.cell? ⟨ad, oo + i, none⟩ = some (.int .i64 (f' i)) := by
    rcases h' with ⟨h, _⟩ | ⟨_, b, o, c, rfl, hc⟩
    · omega
    · exact ⟨_, _, _, rfl, hc⟩
  have HCB := hide hcb
  obtain ⟨i0, hi0, hz0, hz1, hz2⟩ := info_parts Tryd.infoInt
  have Hi := hide hi0
  have Hz0 := hide hz0
  have Hz1 := hide hz1
  have Hz2 := hide hz2
  have z3' := hide z3
  rw [hW3, hW2, hW1] at z3'
  obtain ⟨⟨c0, _⟩, ⟨c1, _⟩, c2, _⟩ := p1
  obtain ⟨⟨c3, _⟩, ⟨c4, _⟩, c5, _⟩ := p2
  subst hW3
  subst hW2
  subst hW1
  clear h h' b1 b12 b23 b3 p3 z1 z2 z3 o o' hcb hi0 hz0 hz1 hz2 HGE hbs hFF
  go_enter Tryd.func9, Tryd.ntmps9
  go_wp2_with fail
  refine (C.out).mono ?_
  rintro e w1 ⟨rfl, hb1⟩
  obtain ⟨W4, hW4⟩ : ∃ W4, W4 = w1.alloc (.cells #[.bool false, .int .i64 bx, .int .i64 by_, .slice none 0 0] 28) := ⟨_, rfl⟩
  have b4 : Below w1.heap.size w1 W4 := hW4 ▸ (Below.refl _ _).alloc (Nat.le_refl _) _
  have z4 : W4.heap.size = w1.heap.size + 1 := by rw [hW4]; simp
  have P14 := hide ((P1.out.below hb1).below b4)
  have P24 := hide ((P2.out.below hb1).below b4)
  have P34 := hide ((P3.out.below hb1).below b4)
  have M4 : Hid (CodIn W4 w1.heap.size false bx by_ (.slice none 0 0)) := hide (hW4 ▸ codIn_new w1 _ _ _ _)
  have B4 := hide (below_two (below_two B3.out hb1) b4)
  have K4 := hide (KS.out W4 (HS.out.below B4.out))
  have hs1 : Hid (w.heap.size + 1 + 1 < w1.heap.size ∧ w1.heap.size < W4.heap.size) := by have := hb1.size; rw [z3'.out] at this; unfold Hid; omega
  clear c0 c1 c2 c3 c4 c5
  obtain ⟨⟨c0, _⟩, ⟨c1, _⟩, c2, _⟩ := P14.out
  obtain ⟨c3, c4, c5, c6, _, _, _, _⟩ := M4.out
  subst hW4
  clear hb1 b4 P1 P2 P3 B3 C z3' KS z4
  go_wp2_with fail
  refine (K4.out).mono ?_
  rintro e w5 ⟨v, rfl, hv, hb5, hnv⟩
  obtain ⟨gg, go, gcp, rfl, hgc⟩ : ∃ g o c, v = .slice (some ⟨g, o, none⟩) n c ∧ ∀ i, i < n → w5.cell? ⟨g, o + i, none⟩ = some (.int .i64 (G i)) := by
    rcases hv with ⟨h, _⟩ | ⟨_, b, o, c, e, hc⟩
    · omega
    · exact ⟨_, _, _, e, hc⟩
  obtain ⟨W6, hW6⟩ : ∃ W6, W6 = w5.alloc (.cells #[.int .i64 a, .int .i64 b, .slice (some ⟨gg, go, none⟩) n gcp] 24) := ⟨_, rfl⟩
  have b6 : Below w5.heap.size w5 W6 := hW6 ▸ (Below.refl _ _).alloc (Nat.le_refl _) _
  have z6 : W6.heap.size = w5.heap.size + 1 := by rw [hW6]; simp
  have E6 : Hid (Mw w W6 a b a' b' (.slice (some ⟨bb', oo', none⟩) n caps') w1.heap.size w5.heap.size (w5.heap.size + 1) bx by_ (.slice (some ⟨gg, go, none⟩) n gcp) n G (.slice none 0 0) 0 F) := by
    have hs5 := hb5.size
    have e1 := hs1.out
    refine ⟨(P24.out.below hb5).below b6, (P34.out.below hb5).below b6, (M4.out.below hb5).below b6, hW6 ▸ picIn_new w5 _ _ _, hv.below b6, World.ownsRow_nil _ _ _ _, by omega, by omega, by omega, fun k hk => ?_, by omega, below_two (below_two B4.out hb5) b6⟩
    have := ints_lt hv h0 k hk
    have := hnv k hk
    omega
  clear c0 c1 c2 c3 c4 c5 c6
  obtain ⟨⟨c0, _⟩, ⟨c1, _⟩, c2, _⟩ := E6.out.q
  subst hW6
  clear hv hgc hnv hb5 b6 z6 K4 P14 P24 P34 M4 B4 hs1
  go_wp2
  clear c0 c1 c2
  generalize w5.alloc (.cells #[.int .i64 a, .int .i64 b, .slice (some ⟨gg, go, none⟩) n gcp] 24) = W6 at *
  go_loopw [9] (fun i wr => ∃ (j : Nat) (v : Value), j ≤ n ∧ i = .int .i64 j ∧ Hid (Mw w wr a b a' b' (.slice (some ⟨bb', oo', none⟩) n caps') w1.heap.size w5.heap.size (w5.heap.size + 1) bx by_ (.slice (some ⟨gg, go, none⟩) n gcp) n G v j F)) (fun i _ => n - (intOf i).toNat)
  case atStart => exact ⟨0, _, Nat.zero_le _, rfl, E6⟩
  case round =>
    obtain ⟨j, v, hj, rfl, ER⟩ := hrel
    obtain ⟨adv, capv, rfl⟩ : ∃ a c, v = .slice a j c := slice_shape (own_in ER.out.own)
    obtain ⟨⟨c0, _⟩, ⟨c1, _⟩, c2, _⟩ := ER.out.q
    by_cases hlt : j < n
    · obtain ⟨⟨c3, _⟩, ⟨c4, _⟩, c5, _⟩ := ER.out.g
      have hcb := cell_below ER.out.b (HCB.out j hlt)
      have hga : wr.cell? ⟨gg, go + j, none⟩ = some (.int .i64 (G j)) := by
        rcases ER.out.i with ⟨h, _⟩ | ⟨_, b, o, c, e, hc⟩
        · omega
        · cases e; exact hc j hlt
      have HRF := HF.out j
      obtain ⟨x0, x1⟩ := HPI.out j hlt
      obtain ⟨y0, y1⟩ := HGI.out j hlt
      have HM : Hid ((List.range (j + 1)).map (fun k : Nat => Value.int .i64 (F k)) = (List.range j).map (fun k : Nat => Value.int .i64 (F k)) ++ [.int .i64 (F j)]) := by
        unfold Hid; rw [List.range_succ, List.map_append]; rfl
      generalize f' j = x at *
      generalize G j = y at *
      have K := hide (fun wx => rround_ok (x - y) st wx (by omega) (by omega) s1 s2)
      rw [← HRF] at K
      generalize F j = z at *
      clear HRF
      go_wp2_with fail
      go_quiet ((go_at_call 22; exact Calls.quiet_of_same ((K.out _).mono fun e w' ⟨h1, h2⟩ => ⟨h1, h2.symm⟩)))
      have ER1 := hide (ER.out.below (below_drewN (Below.refl _ wr) nq))
      clear ER c0 c1 c2 c3 c4 c5 hcb hga
      generalize wr.drewN nq = v1 at *
      have hbig1 := ER1.out.big
      have hz1' := Hz1.out
      obtain ⟨c0, c1, c2, c3, g0, g1, g2, g3⟩ := ER1.out.c
      have hne5 : some w1.heap.size ≠ (Value.slice adv j capv).ownBlock := fun e => by have := (ER1.out.own.lt _ e.symm).1; have := ER1.out.hc; have := ER1.out.hg; omega
      have hlt5 : w1.heap.size < v1.heap.size := ER1.out.c.lt
      have HBW : Hid (Below v1.heap.size v1 (v1.alloc (.cells #[.int .i64 z] 3))) := (Below.refl _ v1).alloc (Nat.le_refl _) _
      have HZ5 : Hid (∀ (w5' : World), (v1.alloc (.cells #[.int .i64 z] 3)).grownBy w5' (Value.slice adv j capv).ownBlock → w5'.cell? ⟨w1.heap.size, 3, none⟩ = some (.slice adv j capv) ∧ w5'.frozen? ⟨w1.heap.size, 3, none⟩ = false) := by
        intro w5' hg
        have hs := HBW.out.size
        refine ⟨(hg.cell_far ⟨w1.heap.size, 3, none⟩ (by show w1.heap.size < (v1.alloc (.cells #[.int .i64 z] 3)).heap.size; omega) hne5).trans ((HBW.out.cell (p := ⟨w1.heap.size, 3, none⟩) hlt5).trans c3), ?_⟩
        exact (hg.frozen_far ⟨w1.heap.size, 3, none⟩ (by show w1.heap.size < (v1.alloc (.cells #[.int .i64 z] 3)).heap.size; omega) hne5).trans ((HBW.out.frozen (p := ⟨w1.heap.size, 3, none⟩) hlt5).trans g3)
      go_wp2_with (at_builtin; refine wpList_append_lies _ rfl _ _ 22 rfl (w5.heap.size + 1) 3 i0 (.int .i64 0) 1 8 Tryd.underlying22 Hi.out Hz0.out Hz1.out Hz2.out rfl (by decide) _ _ _ rfl (ER1.out.own.alloc _) ⟨v1.heap.size, 0, none⟩ 1 1 [.int .i64 z] rfl rfl (cell_one_new _ _ _) (fun x hx => by simp at hx; subst hx; rfl) (by decide) (by unfold maxLen; omega) (by omega) (by simp; omega) _ rfl ?_; intro g3' cap3 w9 hown3 hgrow3 hat3 hlt3; have hcz := (HZ5.out _ hgrow3).1; have hfz := (HZ5.out _ hgrow3).2)
      have hn5 := HM.out ▸ hown3
      have ER5 := hide (ER1.out.stored (((Below.refl (w5.heap.size + 1) v1).alloc hbig1 _).grown hgrow3 (by simp; omega) (fun q hq => (ER1.out.own.lt q hq).1)) hn5)
      clear HZ5 HBW hown3
      go_roundw
      case rel => exact ⟨j + 1, _, by omega, by go_num, ER5⟩
      case measure => simp [intOf]; omega
    · obtain rfl : j = n := by omega
      have HI := hide (own_in ER.out.own)
      obtain ⟨d0, d1, d2, d3, g0, g1, g2, g3⟩ := ER.out.r
      obtain ⟨e0, e1, e2, e3, _, _, _, _⟩ := ER.out.c
      go_wp2
      refine bodyPost_ret (v := .agg #[.bool false, .int .i64 bx, .int .i64 by_, .slice adv j capv]) (by simp [results, Tryd.results9, go_sem, d0, d1, d2, d3]) rfl ⟨_, rfl, ?_, ?_, fun k hk => by have := (ER.out.own.lt k hk).1; have := ER.out.hr; have := ER.out.hc; omega⟩
      · have hlt9 : w.heap.size + 1 + 1 < w5.heap.size + 1 := by have := ER.out.hr; have := ER.out.hc; omega
        exact own_in (ownsRow_setCell_below (ownsRow_setCell_below (ownsRow_setCell_below (ownsRow_setCell_below ER.out.own hlt9 _) hlt9 _) hlt9 _) hlt9 _)
      · exact ((((ER.out.b.setCell (by show w.heap.size ≤ w.heap.size + 1 + 1; omega) _).setCell (by show w.heap.size ≤ w.heap.size + 1 + 1; omega) _).setCell (by show w.heap.size ≤ w.heap.size + 1 + 1; omega) _).setCell (by show w.heap.size ≤ w.heap.size + 1 + 1; omega) _)
end Go.Proofs.YtcicoblejaippaaDoor
