/-
  PictureTells: what is wrong with any picture, a flat one, how far any two are apart, and any shifted, are as the document says: for every input. Our own walk of the law.
-/
import Derived.Test.YtikkpppkjfploaaDoorPicTlN
import Derived.Test.YtikkpppkjfploaaDoorPicA
import Derived.Test.YtikkpppkjfploaaDoorTop
import Derived.Deep.DeepCutAuto
namespace Go.Proofs.YtikkpppkjfploaaDoor
open Go.ChangeShapes Go.WideShapes Go.ChangeAt Go.RowKit Go.Maps
set_option linter.unusedVariables false
set_option maxRecDepth 100000

set_option maxHeartbeats 8000000 in
theorem tells_walk {w : World} (a b : Int) (s : Value) (n : Nat) (f : Nat → Int) (hs : IntsIn w s n f) (a' b' : Int) (s' : Value) (n' : Nat) (f' : Nat → Int) (hs' : IntsIn w s' n' f') (mx my wide high k : Int) (hg : HasErr w) :
    Calls Tryd.prog 3 #[.agg #[.int .i64 a, .int .i64 b, s], .agg #[.int .i64 a', .int .i64 b', s'], .agg #[.int .i64 mx, .int .i64 my], .int .i64 wide, .int .i64 high, .int .i64 k] w fun e w' => e = .returned (.bool true) ∧ Below w.heap.size w w' := by
  have HGL := hide hg.lt
  have EK := hide (fun (k : Nat) (W : World) (hb : Below w.heap.size w W) => error_right k (errN k) W (hg.below hg.lt hb) (errIs_N k))
  have HT0 := hide (tl_new w a b s a' b' s' mx my)
  have HS := hide hs
  have HS' := hide hs'
  obtain ⟨ads, caps, rfl⟩ := slice_shape hs
  obtain ⟨ads', caps', rfl⟩ := slice_shape hs'
  have K1 := hide (rpic_ok a b (HS.out.below HT0.out.b))
  have K2 := hide (fun w1 (hb : Below w.heap.size w w1) => pcheck_ok a b (HS.out.below hb))
  have K9 := hide (fun w1 (hb : Below w.heap.size w w1) => pshift_any a b mx my (HS.out.below hb))
  have K11 := hide (fun w1 (hb : Below w.heap.size w w1) => rtwo_ok a b a' b' (HS.out.below hb) (HS'.out.below hb))
  have K19 := hide (fun w1 (hb : Below w.heap.size w w1) => punlike_any a b a' b' (HS.out.below hb) (HS'.out.below hb))
  have HMle := hide (shM_le a b n f mx my)
  have HF : Hid (shiftF a b n f mx my = if picF a b n f ≠ 0 then picF a b n f else farF mx my) := rfl
  have HX : Hid (shX a b n f mx my = if shiftF a b n f mx my = 0 then a else 0) := rfl
  have HY : Hid (shY a b n f mx my = if shiftF a b n f mx my = 0 then b else 0) := rfl
  have HM : Hid (shM a b n f mx my = if shiftF a b n f mx my = 0 then n else 0) := rfl
  have HU : Hid (unM a b n f a' b' n' f' = if twoF a b n f a' b' n' f' = 0 then mostN f f' n else 0) := rfl
  have HOK : Hid (picF a b n f = 0 → ∃ A B, PicOk a b n f A B) := fun h => picF_zero.1 h
  have HTW : Hid (twoF a b n f a' b' n' f' = 0 → ∃ A B, PicOk a b n f A B ∧ PicOk a' b' n f' A B ∧ n = n') := by
    intro h
    obtain ⟨hp, hq, ea, eb⟩ := twoF_zero.1 h
    obtain ⟨A, B, o⟩ := picF_zero.1 hp
    obtain ⟨A', B', o'⟩ := picF_zero.1 hq
    have e1 : A = A' := by have := o.wide; have := o'.wide; omega
    have e2 : B = B' := by have := o.high; have := o'.high; omega
    subst e1
    subst e2
    have en : n = n' := by rw [o'.many, o.many]
    subst en
    exact ⟨A, B, o, o', rfl⟩
  have HSH : Hid (∀ A B, PicOk a b n f A B → shG a b n f mx my = shiftN A B mx my f) := fun A B o => by unfold shG; rw [o.wide, o.high]; rfl
  clear hs hs' hg
  generalize picF a b n f = e0 at *
  generalize shX a b n f mx my = X at *
  generalize shY a b n f mx my = Y at *
  generalize shM a b n f mx my = M at *
  generalize shG a b n f mx my = G at *
  generalize shiftF a b n f mx my = Fl0 at *
  generalize unM a b n f a' b' n' f' = U at *
  generalize twoF a b n f a' b' n' f' = e2 at *
  go_enter Tryd.func3, Tryd.ntmps3
  go_wp2_with fail
  refine (K1.out).mono ?_
  rintro e w1 ⟨rfl, hb1⟩
  have T1 := hide (HT0.out.below hb1)
  have K2' := hide (K2.out w1 T1.out.b)
  obtain ⟨c1, c2, c3, c4, c5, c6, c7, c8⟩ := T1.out.cells
  clear hb1 K1 K2 HT0
  go_wp2_with fail
  refine (K2'.out).mono ?_
  rintro e w2 ⟨rfl, hb2⟩
  have T2 := hide (T1.out.below hb2)
  have E2 := hide (EK.out e0 w2 T2.out.b)
  clear hb2 K2' T1 c1 c2 c3 c4 c5 c6 c7 c8
  go_wp2_with fail
  refine (E2.out).mono ?_
  rintro e w3 ⟨rfl, hb3⟩
  have T3 := hide (T2.out.below hb3)
  have hk3 : w.heap.size + 1 + 1 < w3.heap.size := cell_lt T3.out.m.1
  have T4 : Hid (Tl w (w3.alloc (.cells #[.int .i64 0, .int .i64 0, .slice none 0 0] 24)) a b (.slice ads n caps) a' b' (.slice ads' n' caps') mx my) := T3.out.below ((Below.refl _ _).alloc (Nat.le_refl _) _)
  have P4 := hide (picIn_new w3 0 0 (.slice none 0 0))
  obtain ⟨c1, c2, c3, c4, c5, c6, c7, c8⟩ := T4.out.cells
  clear hb3 E2 T2 T3
  go_upto_region 5 with fail
  go_cut [55] (fun t wx => ∃ q : Bool, t = .bool q ∧ (q = true ↔ e0 = 0 ∧ farF mx my ≠ 0) ∧ Hid (Tl w wx a b (.slice ads n caps) a' b' (.slice ads' n' caps') mx my) ∧ Hid (PicIn wx w3.heap.size 0 0 (.slice none 0 0)))
  case first =>
    by_cases h0 : e0 = 0
    · have z0 : ((e0 : Int) == 0) = true := by rw [beq_iff_eq]; omega
      have H0 := hide h0
      clear h0
      have hw : mx < -6 ∨ (-6 ≤ mx ∧ 6 < mx) ∨ (-6 ≤ mx ∧ mx ≤ 6 ∧ my < -6) ∨ (-6 ≤ mx ∧ mx ≤ 6 ∧ -6 ≤ my ∧ 6 < my) ∨ (-6 ≤ mx ∧ mx ≤ 6 ∧ -6 ≤ my ∧ my ≤ 6) := by omega
      rcases hw with h | ⟨h1, h⟩ | ⟨h1, h2, h⟩ | ⟨h1, h2, h3, h⟩ | ⟨h1, h2, h3, h⟩
      · go_wp2
        go_meet
        exact ⟨true, by first | rfl | (simp; done) | (simp; omega), ⟨fun _ => ⟨H0.out, fun hf => by have := farF_zero.1 hf; omega⟩, fun _ => rfl⟩, T4, P4⟩
      · go_wp2
        go_meet
        exact ⟨true, by first | rfl | (simp; done) | (simp; omega), ⟨fun _ => ⟨H0.out, fun hf => by have := farF_zero.1 hf; omega⟩, fun _ => rfl⟩, T4, P4⟩
      · go_wp2
        go_meet
        exact ⟨true, by first | rfl | (simp; done) | (simp; omega), ⟨fun _ => ⟨H0.out, fun hf => by have := farF_zero.1 hf; omega⟩, fun _ => rfl⟩, T4, P4⟩
      · go_wp2
        go_meet
        exact ⟨true, by first | rfl | (simp; done) | (simp; omega), ⟨fun _ => ⟨H0.out, fun hf => by have := farF_zero.1 hf; omega⟩, fun _ => rfl⟩, T4, P4⟩
      · go_wp2
        go_meet
        exact ⟨false, by first | rfl | (simp; done) | (simp; omega), ⟨fun hh => Bool.noConfusion hh, fun hh => absurd (farF_zero.2 ⟨by omega, by omega, by omega, by omega⟩) hh.2⟩, T4, P4⟩
    · have z0 : ((e0 : Int) == 0) = false := by rw [beq_eq_false_iff_ne]; omega
      have H0 := hide h0
      clear h0
      go_wp2
      go_meet
      exact ⟨false, rfl, ⟨fun hh => Bool.noConfusion hh, fun hh => absurd hh.1 H0.out⟩, T4, P4⟩
  case rest =>
  obtain ⟨q, rfl, hq, T5, P5⟩ := hcut
  have HQ := hide hq
  clear hq T4 P4 c1 c2 c3 c4 c5 c6 c7 c8
  go_upto_if 55 with fail
  go_cut [15] (fun t wx => ∃ v : Value, t = .int .i64 (Fl0 : Nat) ∧ Hid (Tl w wx a b (.slice ads n caps) a' b' (.slice ads' n' caps') mx my) ∧ Hid (PicIn wx w3.heap.size X Y v) ∧ Hid (IntsIn wx v M G))
  case first =>
    by_cases h0 : e0 = 0
    · have z0 : ((e0 : Int) == 0) = true := by rw [beq_iff_eq]; omega
      by_cases hf : farF mx my = 0
      · obtain rfl : q = false := by
          cases q with
          | false => rfl
          | true => exact absurd hf (HQ.out.1 rfl).2
        have hF0 : Fl0 = 0 := by rw [HF.out, if_neg (by omega), hf]
        obtain ⟨A, B, o⟩ := HOK.out h0
        have hX : Hid (X = a) := by unfold Hid; rw [HX.out, if_pos hF0]
        have hY : Hid (Y = b) := by unfold Hid; rw [HY.out, if_pos hF0]
        have hM : Hid (M = n) := by unfold Hid; rw [HM.out, if_pos hF0]
        have hG : Hid (G = shiftN A B mx my f) := HSH.out A B o
        have K8 := hide (rshift_ok mx my (HS.out.below T5.out.b) o hf)
        have HF0 := hide hF0
        have H00 := hide h0
        obtain ⟨c1, c2, c3, c4, c5, c6, c7, c8⟩ := T5.out.cells
        clear h0 hf hF0 o
        go_wp2_with fail
        refine (K8.out).mono ?_
        rintro e w5 ⟨v5, rfl, hv5, hb5, hown5⟩
        obtain ⟨ad5, cap5, rfl⟩ := slice_shape hv5
        have T6 := hide (T5.out.below hb5)
        have P6 := hide (P5.out.below hb5)
        have HV := hide hv5
        have HO := hide hown5
        have hlt5 := hide P5.out.lt
        obtain ⟨⟨d0, g0⟩, ⟨d1, g1⟩, d2, g2⟩ := P6.out
        clear hb5 hv5 hown5
        go_wp2
        go_meet
        have hne : ∀ g, (Value.slice ad5 n cap5).ownBlock = some g → g ≠ w3.heap.size := fun g hg => by have := HO.out g hg; have := hlt5.out; omega
        refine ⟨.slice ad5 n cap5, by rw [HF0.out, H00.out], ((T6.out.set hk3 _ _).set hk3 _ _).set hk3 _ _, ?_, ?_⟩
        · rw [hX.out, hY.out]; exact P6.out.put a b _
        · rw [hM.out, hG.out]; exact intsIn_set (intsIn_set (intsIn_set HV.out hne _ _) hne _ _) hne _ _
      · obtain rfl : q = true := HQ.out.2 ⟨h0, hf⟩
        have hF1 : Fl0 = 1 := by
          rw [HF.out, if_neg (by omega)]
          unfold farF at hf ⊢
          split
          · rfl
          · rename_i c; rw [if_neg c] at hf; exact absurd rfl hf
        have hX : Hid (X = 0) := by unfold Hid; rw [HX.out, if_neg (by omega)]
        have hY : Hid (Y = 0) := by unfold Hid; rw [HY.out, if_neg (by omega)]
        have hM : Hid (M = 0) := by unfold Hid; rw [HM.out, if_neg (by omega)]
        have HF1 := hide hF1
        clear h0 hf hF1
        go_wp2
        go_meet
        refine ⟨.slice none 0 0, by rw [HF1.out]; rfl, T5, ?_, ?_⟩
        · rw [hX.out, hY.out]; exact P5
        · rw [hM.out]; exact Or.inl ⟨rfl, _, _, rfl⟩
    · have z0 : ((e0 : Int) == 0) = false := by rw [beq_eq_false_iff_ne]; omega
      obtain rfl : q = false := by
        cases q with
        | false => rfl
        | true => exact absurd (HQ.out.1 rfl).1 h0
      have hF1 : Fl0 = e0 := by rw [HF.out, if_pos h0]
      have hX : Hid (X = 0) := by unfold Hid; rw [HX.out, if_neg (by omega)]
      have hY : Hid (Y = 0) := by unfold Hid; rw [HY.out, if_neg (by omega)]
      have hM : Hid (M = 0) := by unfold Hid; rw [HM.out, if_neg (by omega)]
      have HF1 := hide hF1
      clear h0 hF1
      go_wp2
      go_meet
      refine ⟨.slice none 0 0, by rw [HF1.out], T5, ?_, ?_⟩
      · rw [hX.out, hY.out]; exact P5
      · rw [hM.out]; exact Or.inl ⟨rfl, _, _, rfl⟩
  case rest =>
  obtain ⟨v5, rfl, T6, P6, V6⟩ := hcut
  obtain ⟨ad5, cap5, rfl⟩ := slice_shape V6.out
  clear HQ T5 P5 HF HX HY HM HOK HSH
  have K9' := hide (K9.out wc T6.out.b)
  obtain ⟨c1, c2, c3, c4, c5, c6, c7, c8⟩ := T6.out.cells
  clear K9
  go_wp2_with fail
  refine (K9'.out).mono ?_
  rintro e w6 ⟨v6, rfl, hv6, hb6⟩
  obtain ⟨ad6, cap6, rfl⟩ := slice_shape hv6
  have hkl : w3.heap.size < w6.heap.size := (P6.out.below hb6).lt
  have b66 : Below w6.heap.size w6 (w6.alloc (.cells #[.int .i64 X, .int .i64 Y, .slice ad6 M cap6] 24)) := (Below.refl _ _).alloc (Nat.le_refl _) _
  have T7 := hide ((T6.out.below hb6).below b66)
  have P7 := hide ((P6.out.below hb6).below b66)
  have X7 := hide (picIn_new w6 X Y (.slice ad6 M cap6))
  have V7 := hide ((V6.out.below hb6).below b66)
  have V7' := hide (hv6.below b66)
  have E7 := hide (EK.out Fl0 _ T7.out.b)
  clear hb6 b66 hv6 T6 P6 V6 K9' c1 c2 c3 c4 c5 c6 c7 c8
  go_wp2_with fail
  refine (E7.out).mono ?_
  rintro e w8 ⟨rfl, hb8⟩
  have T8 := hide (T7.out.below hb8)
  have P8 := hide (P7.out.below hb8)
  have X8 := hide (X7.out.below hb8)
  have K10 := hide (pics_alike X Y (by have := HMle.out; omega) (V7'.out.below hb8) (V7.out.below hb8) (fun _ _ => rfl))
  obtain ⟨⟨d0, _⟩, ⟨d1, _⟩, d2, _⟩ := P8.out
  obtain ⟨⟨d3, _⟩, ⟨d4, _⟩, d5, _⟩ := X8.out
  clear hb8 E7 T7 P7 X7 V7 V7'
  go_wp2_with fail
  refine (K10.out).mono ?_
  rintro e w9 ⟨rfl, hb9⟩
  have T9 := hide (T8.out.below hb9)
  have P9 := hide (P8.out.below hb9)
  have X9 := hide (X8.out.below hb9)
  have K11' := hide (K11.out w9 T9.out.b)
  obtain ⟨c1, c2, c3, c4, c5, c6, c7, c8⟩ := T9.out.cells
  clear hb9 K10 K11 T8 P8 X8 d0 d1 d2 d3 d4 d5
  go_wp2_with fail
  refine (K11'.out).mono ?_
  rintro e w10 ⟨rfl, hb10⟩
  have T10 := hide (T9.out.below hb10)
  have P10 := hide (P9.out.below hb10)
  have X10 := hide (X9.out.below hb10)
  clear hb10 K11' T9 P9 X9 c1 c2 c3 c4 c5 c6 c7 c8
  go_wp2
  go_loopw [20, 21, 22] (fun mo i kk wr => ∃ (j m : Nat), i = .int .i64 j ∧ mo = .int .i64 m ∧ Hid (mostN f f' j = m) ∧ Hid ((e2 = 0 → j ≤ n) ∧ (e2 ≠ 0 → j = 0)) ∧ Hid (Tl w wr a b (.slice ads n caps) a' b' (.slice ads' n' caps') mx my) ∧ Hid (PicIn wr w3.heap.size X Y (.slice ad5 M cap5)) ∧ Hid (PicIn wr w6.heap.size X Y (.slice ad6 M cap6))) (fun _ i _ _ => n - (intOf i).toNat)
  case atStart => exact ⟨0, 0, rfl, rfl, rfl, ⟨fun _ => Nat.zero_le _, fun _ => rfl⟩, T10, P10, X10⟩
  case round =>
    obtain ⟨j, m, rfl, rfl, hm, hj, TR, PR, XR⟩ := hrel
    clear T10 P10 X10
    obtain ⟨c1, c2, c3, c4, c5, c6, c7, c8⟩ := TR.out.cells
    go_upto_region 14 with fail
    go_cut [86] (fun t wx => ∃ r : Bool, t = .bool r ∧ (r = true ↔ j < n ∧ e2 = 0) ∧ Hid (Tl w wx a b (.slice ads n caps) a' b' (.slice ads' n' caps') mx my) ∧ Hid (PicIn wx w3.heap.size X Y (.slice ad5 M cap5)) ∧ Hid (PicIn wx w6.heap.size X Y (.slice ad6 M cap6)))
    case first =>
      by_cases hlt : j < n
      · by_cases h2 : e2 = 0
        · have z2 : ((e2 : Int) == 0) = true := by rw [beq_iff_eq]; omega
          have H2 := hide h2
          clear h2
          go_wp2
          go_meet
          exact ⟨true, by first | rfl | simp, ⟨fun _ => ⟨hlt, H2.out⟩, fun _ => rfl⟩, TR, PR, XR⟩
        · have z2 : ((e2 : Int) == 0) = false := by rw [beq_eq_false_iff_ne]; omega
          have H2 := hide h2
          clear h2
          go_wp2
          go_meet
          exact ⟨false, by first | rfl | simp, ⟨fun hh => Bool.noConfusion hh, fun hh => absurd hh.2 H2.out⟩, TR, PR, XR⟩
      · go_wp2
        go_meet
        exact ⟨false, by first | rfl | simp, ⟨fun hh => Bool.noConfusion hh, fun hh => absurd hh.1 hlt⟩, TR, PR, XR⟩
    case rest =>
    obtain ⟨r, rfl, hr, TS, PS, XS⟩ := hcut
    have HR := hide hr
    clear hr TR PR XR c1 c2 c3 c4 c5 c6 c7 c8
    cases r with
    | true =>
      obtain ⟨hlt, h2⟩ := HR.out.1 rfl
      obtain ⟨A, B, o, o', en⟩ := HTW.out h2
      subst en
      have hl := o.le
      obtain ⟨x0, x1⟩ := o.pix j hlt
      obtain ⟨y0, y1⟩ := o'.pix j hlt
      have KA := hide (fun w => rapart_ok (f j) (f' j) w ⟨x0, x1⟩ ⟨y0, y1⟩)
      have HM1 : Hid (mostN f f' (j + 1) = max m (f j - f' j).natAbs) := by unfold Hid; rw [← hm.out]; rfl
      have HJ1 : Hid ((e2 = 0 → j + 1 ≤ n) ∧ (e2 ≠ 0 → j + 1 = 0)) := ⟨fun _ => hlt, fun h => absurd h2 h⟩
      have i1 := HS.out.below TS.out.b
      have i2 := HS'.out.below TS.out.b
      obtain ⟨ba, oa, rfl, hc1⟩ : ∃ bb oo, ads = some ⟨bb, oo, none⟩ ∧ ∀ i, i < n → wc.cell? ⟨bb, oo + i, none⟩ = some (.int .i64 (f i)) := by
        rcases i1 with ⟨h, _⟩ | ⟨_, b', o', c', e, hc⟩
        · omega
        · cases e
          exact ⟨_, _, rfl, hc⟩
      obtain ⟨bb, ob, rfl, hc2⟩ : ∃ bb oo, ads' = some ⟨bb, oo, none⟩ ∧ ∀ i, i < n → wc.cell? ⟨bb, oo + i, none⟩ = some (.int .i64 (f' i)) := by
        rcases i2 with ⟨h, _⟩ | ⟨_, b', o', c', e, hc⟩
        · omega
        · cases e
          exact ⟨_, _, rfl, hc⟩
      have cc1 := hc1 j hlt
      have cc2 := hc2 j hlt
      obtain ⟨c1, c2, c3, c4, c5, c6, c7, c8⟩ := TS.out.cells
      clear hc1 hc2 i1 i2 h2 o o' HR HTW HU K19 x0 x1 y0 y1
      generalize f j = x at *
      generalize f' j = y at *
      generalize (x - y).natAbs = d at *
      go_wp2_with fail
      go_quiet ((go_at_call 11; exact Calls.quiet_of_same ((KA.out _).mono fun e w' ⟨h1, h2⟩ => ⟨h1, h2.symm⟩)))
      have TU := hide (TS.out.below (below_drewN (Below.refl _ wc) nq))
      have PU := hide (PS.out.below (below_drewN (Below.refl _ wc) nq))
      have XU := hide (XS.out.below (below_drewN (Below.refl _ wc) nq))
      clear cc1 cc2 c1 c2 c3 c4 c5 c6 c7 c8 TS PS XS
      generalize wc.drewN nq = wu at *
      by_cases hd : (m : Int) < (d : Int)
      · have hmax : Hid (max m d = d) := by unfold Hid; omega
        go_wp2
        go_roundw
        case rel =>
          first
            | exact ⟨j + 1, d, by go_num, rfl, HM1.out.trans hmax.out, HJ1.out, TU, PU, XU⟩
            | ((repeat apply Exists.intro); exact ⟨⟨j + 1, d, by go_num, rfl, HM1.out.trans hmax.out, HJ1.out, TU, PU, XU⟩, rfl⟩)
        case measure => simp [intOf]; omega
      · have hmax : Hid (max m d = m) := by unfold Hid; omega
        go_wp2
        go_roundw
        case rel =>
          first
            | exact ⟨j + 1, m, by go_num, rfl, HM1.out.trans hmax.out, HJ1.out, TU, PU, XU⟩
            | ((repeat apply Exists.intro); exact ⟨⟨j + 1, m, by go_num, rfl, HM1.out.trans hmax.out, HJ1.out, TU, PU, XU⟩, rfl⟩)
        case measure => simp [intOf]; omega
    | false =>
      have hU : U = m := by
        rw [HU.out, ← hm.out]
        by_cases h2 : e2 = 0
        · rw [if_pos h2]
          have := hj.out.1 h2
          have h3 : ¬ j < n := fun h => Bool.noConfusion (HR.out.2 ⟨h, h2⟩)
          have h4 : j = n := by omega
          rw [h4]
        · rw [if_neg h2, hj.out.2 h2]; rfl
      have K19' := hide (K19.out wc TS.out.b)
      rw [hU] at K19'
      obtain ⟨c1, c2, c3, c4, c5, c6, c7, c8⟩ := TS.out.cells
      clear K19 hU HU HR hj hm HTW
      have qmm : ((m : Int) == (m : Int)) = true := by simp
      go_wp2_with fail
      refine (K19'.out).mono ?_
      rintro e w11 ⟨rfl, hb11⟩
      have T11 := hide (TS.out.below hb11)
      have P11 := hide (PS.out.below hb11)
      have X11 := hide (XS.out.below hb11)
      have E11 := hide (EK.out e2 w11 T11.out.b)
      clear hb11 K19' TS PS XS c1 c2 c3 c4 c5 c6 c7 c8
      go_wp2_with fail
      refine (E11.out).mono ?_
      rintro e w12 ⟨rfl, hb12⟩
      have T12 := hide (T11.out.below hb12)
      have P12 := hide (P11.out.below hb12)
      have X12 := hide (X11.out.below hb12)
      obtain ⟨⟨d0, g0⟩, ⟨d1, g1⟩, d2, g2⟩ := P12.out
      clear hb12 E11 T11 P11 X11
      have hne : w6.heap.size ≠ w3.heap.size := by omega
      go_upto_region 23 with fail
      go_cut [140] (fun t wx => ∃ q : Bool, t = .bool q ∧ (q = true ↔ ¬ (1 ≤ wide ∧ wide ≤ 6 ∧ 1 ≤ high ∧ high ≤ 6 ∧ 0 ≤ k ∧ k ≤ 255)) ∧ Hid (Tl w wx a b (.slice ads n caps) a' b' (.slice ads' n' caps') mx my) ∧ Hid (PicIn wx w3.heap.size 0 0 (.slice none 0 0)) ∧ Hid (PicIn wx w6.heap.size X Y (.slice ad6 M cap6)))
      case first =>
        have Q13 := hide (P12.out.put 0 0 (.slice none 0 0))
        have T13 := hide (((T12.out.set hk3 0 (.int .i64 0)).set hk3 1 (.int .i64 0)).set hk3 2 (.slice none 0 0))
        have X13 := hide (((X12.out.setOther (o := 0) hne (.int .i64 0)).setOther (o := 1) hne (.int .i64 0)).setOther (o := 2) hne (.slice none 0 0))
        have hw : wide < 1 ∨ (1 ≤ wide ∧ 6 < wide) ∨ (1 ≤ wide ∧ wide ≤ 6 ∧ high < 1) ∨ (1 ≤ wide ∧ wide ≤ 6 ∧ 1 ≤ high ∧ 6 < high) ∨ (1 ≤ wide ∧ wide ≤ 6 ∧ 1 ≤ high ∧ high ≤ 6 ∧ k < 0) ∨ (1 ≤ wide ∧ wide ≤ 6 ∧ 1 ≤ high ∧ high ≤ 6 ∧ 0 ≤ k ∧ 255 < k) ∨ (1 ≤ wide ∧ wide ≤ 6 ∧ 1 ≤ high ∧ high ≤ 6 ∧ 0 ≤ k ∧ k ≤ 255) := by omega
        rcases hw with h | ⟨h1, h⟩ | ⟨h1, h2, h⟩ | ⟨h1, h2, h3, h⟩ | ⟨h1, h2, h3, h4, h⟩ | ⟨h1, h2, h3, h4, h5, h⟩ | ⟨h1, h2, h3, h4, h5, h⟩
        · go_wp2
          go_meet
          exact ⟨true, by first | rfl | (simp; done) | (simp; omega), ⟨fun _ hh => by omega, fun _ => rfl⟩, T13, Q13, X13⟩
        · go_wp2
          go_meet
          exact ⟨true, by first | rfl | (simp; done) | (simp; omega), ⟨fun _ hh => by omega, fun _ => rfl⟩, T13, Q13, X13⟩
        · go_wp2
          go_meet
          exact ⟨true, by first | rfl | (simp; done) | (simp; omega), ⟨fun _ hh => by omega, fun _ => rfl⟩, T13, Q13, X13⟩
        · go_wp2
          go_meet
          exact ⟨true, by first | rfl | (simp; done) | (simp; omega), ⟨fun _ hh => by omega, fun _ => rfl⟩, T13, Q13, X13⟩
        · go_wp2
          go_meet
          exact ⟨true, by first | rfl | (simp; done) | (simp; omega), ⟨fun _ hh => by omega, fun _ => rfl⟩, T13, Q13, X13⟩
        · go_wp2
          go_meet
          exact ⟨true, by first | rfl | (simp; done) | (simp; omega), ⟨fun _ hh => by omega, fun _ => rfl⟩, T13, Q13, X13⟩
        · go_wp2
          go_meet
          exact ⟨false, by first | rfl | (simp; done) | (simp; omega), ⟨fun hh => Bool.noConfusion hh, fun hh => absurd ⟨h1, h2, h3, h4, h5, h⟩ hh⟩, T13, Q13, X13⟩
      case rest =>
      obtain ⟨q, rfl, hq, T13, P13, X13⟩ := hcut
      have HQ := hide hq
      clear hq T12 P12 X12 d0 d1 d2 g0 g1 g2
      have hl3 : w.heap.size + 1 + 1 < w6.heap.size := by omega
      cases q with
      | true =>
        have hb := HQ.out.1 rfl
        have KB := hide (fun w => pflat_bad (w := w) wide high k (by unfold flatF; rw [if_neg (fun hh => hb (by have := sidesOk_iff.1 hh.1; omega))]; decide))
        have E1 : Hid (∀ W, Below w.heap.size w W → Calls Tryd.prog 5 #[.iface 42 (.int .i64 1), .int .i64 1] W fun e w' => e = .returned (.bool true) ∧ Below W.heap.size W w') := fun W hb => EK.out 1 W hb
        clear hb HQ
        go_wp2_with fail
        refine (KB.out _).mono ?_
        rintro e w14 ⟨rfl, hb14⟩
        have T14 := hide (T13.out.below hb14)
        have P14 := hide (P13.out.below hb14)
        have X14 := hide (X13.out.below hb14)
        obtain ⟨⟨d0, g0⟩, ⟨d1, g1⟩, d2, g2⟩ := X14.out
        clear hb14 KB
        go_wp2_with fail
        refine (E1.out _ (((T14.out.set hl3 0 (.int .i64 0)).set hl3 1 (.int .i64 0)).set hl3 2 (.slice none 0 0)).b).mono ?_
        rintro e w15 ⟨rfl, hb15⟩
        have T15 := hide ((((T14.out.set hl3 0 (.int .i64 0)).set hl3 1 (.int .i64 0)).set hl3 2 (.slice none 0 0)).below hb15)
        have X15 := hide ((X14.out.put 0 0 (.slice none 0 0)).below hb15)
        have P15 := hide ((((P14.out.setOther (o := 0) hne.symm (.int .i64 0)).setOther (o := 1) hne.symm (.int .i64 0)).setOther (o := 2) hne.symm (.slice none 0 0)).below hb15)
        have K15 := hide (pics_alike (w := w15) (n := 0) (f := fun _ => 0) (g := fun _ => 0) 0 0 (by decide) (Or.inl ⟨rfl, none, 0, rfl⟩) (Or.inl ⟨rfl, none, 0, rfl⟩) (fun _ _ => rfl))
        clear d0 d1 d2 g0 g1 g2
        obtain ⟨⟨d0, _⟩, ⟨d1, _⟩, d2, _⟩ := P15.out
        obtain ⟨⟨d3, _⟩, ⟨d4, _⟩, d5, _⟩ := X15.out
        clear hb15 E1 T14 P14 X14
        go_wp2_with fail
        refine (K15.out).mono ?_
        rintro e w16 ⟨rfl, hb16⟩
        have B16 := hide (below_two T15.out.b hb16)
        clear hb16
        go_wp2
        go_ret
        exact ⟨rfl, B16.out⟩
      | false =>
        have hok : 1 ≤ wide ∧ wide ≤ 6 ∧ 1 ≤ high ∧ high ≤ 6 ∧ 0 ≤ k ∧ k ≤ 255 := by
          by_cases c : 1 ≤ wide ∧ wide ≤ 6 ∧ 1 ≤ high ∧ high ≤ 6 ∧ 0 ≤ k ∧ k ≤ 255
          · exact c
          · exact Bool.noConfusion (HQ.out.2 c)
        obtain ⟨h1, h2, h3, h4, h5, h6⟩ := hok
        obtain ⟨A, rfl⟩ := Int.eq_ofNat_of_zero_le (show 0 ≤ wide by omega)
        obtain ⟨B, rfl⟩ := Int.eq_ofNat_of_zero_le (show 0 ≤ high by omega)
        obtain ⟨z, hz⟩ : ∃ z, z = A * B := ⟨_, rfl⟩
        have hzi : (A : Int) * (B : Int) = (z : Int) := by rw [hz, Int.natCast_mul]
        have hz36 : z ≤ 36 := by have := Nat.mul_le_mul (show A ≤ 6 by omega) (show B ≤ 6 by omega); omega
        have KF := hide (fun w => pflat_new (w := w) A B k ⟨by omega, by omega⟩ ⟨by omega, by omega⟩ ⟨h5, h6⟩)
        rw [← hz] at KF
        have E0 : Hid (∀ W, Below w.heap.size w W → Calls Tryd.prog 5 #[.nilIface, .int .i64 0] W fun e w' => e = .returned (.bool true) ∧ Below W.heap.size W w') := fun W hb => EK.out 0 W hb
        obtain ⟨i0, hi0, hz0, hz1, hz2⟩ := info_parts Tryd.infoInt
        have Hi := hide hi0
        have Hz0 := hide hz0
        have Hz1 := hide hz1
        have Hz2 := hide hz2
        obtain ⟨⟨d0, g0⟩, ⟨d1, g1⟩, d2, g2⟩ := P13.out
        have HFL : Hid (Fl w (((wc.setCell ⟨w3.heap.size, 0, none⟩ (.int .i64 A)).setCell ⟨w3.heap.size, 1, none⟩ (.int .i64 B)).setCell ⟨w3.heap.size, 2, none⟩ (.slice none 0 0)) a b (.slice ads n caps) a' b' (.slice ads' n' caps') mx my w3.heap.size w6.heap.size wc.heap.size A B (.slice none 0 0) 0 k X Y (.slice ad6 M cap6)) :=
          ⟨((T13.out.set hk3 _ _).set hk3 _ _).set hk3 _ _, P13.out.put A B _, ((X13.out.setOther hne _).setOther hne _).setOther hne _, World.ownsRow_nil _ _ _ _, by simp [World.setCell], hk3, P13.out.lt, X13.out.lt, hne⟩
        clear HQ hz hi0 hz0 hz1 hz2
        go_wp2
        clear d0 d1 d2 g0 g1 g2
        go_loopw [25] (fun i wr => ∃ (j : Nat) (v : Value), j ≤ z ∧ i = .int .i64 j ∧ Fl w wr a b (.slice ads n caps) a' b' (.slice ads' n' caps') mx my w3.heap.size w6.heap.size wc.heap.size A B v j k X Y (.slice ad6 M cap6)) (fun i _ => z - (intOf i).toNat)
        case atStart => exact ⟨0, _, Nat.zero_le _, rfl, HFL.out⟩
        case round =>
          obtain ⟨j, v, hj, rfl, hfl⟩ := hrel
          have HL := hide hfl
          have hbig := hfl.big
          obtain ⟨adv, capv, rfl⟩ := slice_shape (own_in hfl.own)
          obtain ⟨⟨d0, g0⟩, ⟨d1, g1⟩, d2, g2⟩ := hfl.q
          clear hfl
          by_cases hlt : j < z
          · have HLM : Hid ((List.range (j + 1)).map (fun _ : Nat => Value.int .i64 k) = (List.range j).map (fun _ : Nat => Value.int .i64 k) ++ [.int .i64 k]) := by
              unfold Hid; rw [List.range_succ, List.map_append]; rfl
            have hne5 : some w3.heap.size ≠ (Value.slice adv j capv).ownBlock := fun e => by have := (HL.out.own.lt _ e.symm).1; have := HL.out.kB; omega
            have hlt5 : w3.heap.size < wr.heap.size := HL.out.q.lt
            have HZ5 : Hid (∀ (W w5 : World), Below wr.heap.size wr W → W.grownBy w5 (Value.slice adv j capv).ownBlock → w5.cell? ⟨w3.heap.size, 2, none⟩ = some (.slice adv j capv) ∧ w5.frozen? ⟨w3.heap.size, 2, none⟩ = false) := by
              intro W w5 hb hg
              have hs := hb.size
              refine ⟨(hg.cell_far ⟨w3.heap.size, 2, none⟩ (by show w3.heap.size < W.heap.size; omega) hne5).trans ((hb.cell (p := ⟨w3.heap.size, 2, none⟩) hlt5).trans d2), ?_⟩
              exact (hg.frozen_far ⟨w3.heap.size, 2, none⟩ (by show w3.heap.size < W.heap.size; omega) hne5).trans ((hb.frozen (p := ⟨w3.heap.size, 2, none⟩) hlt5).trans g2)
            have HBW : Hid (Below wr.heap.size wr (wr.alloc (.cells #[.int .i64 k] 3))) := (Below.refl _ wr).alloc (Nat.le_refl _) _
            go_wp2_with (at_builtin; refine wpList_append_lies _ rfl _ _ 22 rfl wc.heap.size 3 i0 (.int .i64 0) 1 8 Tryd.underlying22 Hi.out Hz0.out Hz1.out Hz2.out rfl (by decide) _ _ _ rfl (HL.out.own.alloc _) ⟨wr.heap.size, 0, none⟩ 1 1 [.int .i64 k] rfl rfl (cell_one_new _ _ _) (fun x hx => by simp at hx; subst hx; rfl) (by decide) (by unfold maxLen; omega) (by omega) (by simp; omega) _ rfl ?_; intro g3 cap3 w5 hown5 hgrow5 hat5 hlt6; have hcz := (HZ5.out _ w5 HBW.out hgrow5).1; have hfz := (HZ5.out _ w5 HBW.out hgrow5).2)
            all_goals
              have hn5 := HLM.out ▸ hown5
              have HR5 := hide (HL.out.stored (HBW.out.mono hbig |>.grown hgrow5 (Nat.le_trans hbig HBW.out.size) (fun q hq => (HL.out.own.lt q hq).1)) hn5)
              go_roundw
              case rel =>
                first
                  | exact ⟨j + 1, _, by omega, by go_num, HR5.out⟩
                  | ((repeat apply Exists.intro); exact ⟨⟨j + 1, _, by omega, by go_num, HR5.out⟩, rfl⟩)
              case measure => simp [intOf]; omega
          · obtain rfl : j = z := by omega
            go_wp2_with fail
            refine (KF.out _).mono ?_
            rintro e w14 ⟨v14, rfl, hv14, hb14, hown14⟩
            obtain ⟨ad7, cap7, rfl⟩ := slice_shape hv14
            have T14 := hide (HL.out.t.below hb14)
            have P14 := hide (HL.out.q.below hb14)
            have X14 := hide (HL.out.x.below hb14)
            have hne14 : ∀ g, (Value.slice ad7 j cap7).ownBlock = some g → g ≠ w6.heap.size := fun g hg => by have := hown14 g hg; have := HL.out.lB; omega
            have I14 := hide (own_in (own_under' HL.out.own hb14))
            have hneq : ∀ g, (Value.slice adv j capv).ownBlock = some g → g ≠ w6.heap.size := fun g hg => by have := (HL.out.own.lt g hg).1; have := HL.out.lB; omega
            have J14 := hide hv14
            have HN1 := hide hne14
            have HN2 := hide hneq
            clear d0 d1 d2 g0 g1 g2
            obtain ⟨⟨d0, g0⟩, ⟨d1, g1⟩, d2, g2⟩ := X14.out
            clear hb14 hv14 hown14 hne14 hneq KF
            go_wp2_with fail
            refine (E0.out _ (((T14.out.set hl3 0 (.int .i64 A)).set hl3 1 (.int .i64 B)).set hl3 2 (.slice ad7 j cap7)).b).mono ?_
            rintro e w15 ⟨rfl, hb15⟩
            have T15 := hide ((((T14.out.set hl3 0 (.int .i64 A)).set hl3 1 (.int .i64 B)).set hl3 2 (.slice ad7 j cap7)).below hb15)
            have X15 := hide ((X14.out.put A B (.slice ad7 j cap7)).below hb15)
            have P15 := hide ((((P14.out.setOther (o := 0) hne.symm (.int .i64 A)).setOther (o := 1) hne.symm (.int .i64 B)).setOther (o := 2) hne.symm (.slice ad7 j cap7)).below hb15)
            have I15 := (intsIn_set (intsIn_set (intsIn_set I14.out HN2.out 0 (.int .i64 A)) HN2.out 1 (.int .i64 B)) HN2.out 2 (.slice ad7 j cap7)).below hb15
            have J15 := (intsIn_set (intsIn_set (intsIn_set J14.out HN1.out 0 (.int .i64 A)) HN1.out 1 (.int .i64 B)) HN1.out 2 (.slice ad7 j cap7)).below hb15
            have K15 := hide (pics_alike A B (by omega) J15 I15 (fun _ _ => rfl))
            clear d0 d1 d2 g0 g1 g2
            obtain ⟨⟨d0, _⟩, ⟨d1, _⟩, d2, _⟩ := P15.out
            obtain ⟨⟨d3, _⟩, ⟨d4, _⟩, d5, _⟩ := X15.out
            clear hb15 E0 T14 P14 X14 I14 J14 I15 J15
            go_wp2_with fail
            refine (K15.out).mono ?_
            rintro e w16 ⟨rfl, hb16⟩
            have B16 := hide (below_two T15.out.b hb16)
            clear hb16
            go_wp2
            go_ret
            exact ⟨rfl, B16.out⟩
end Go.Proofs.YtikkpppkjfploaaDoor
