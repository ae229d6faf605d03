/-
  MovedStill: behind itself a picture has no rest, and is told as it is; what stands alone is not told so: for every input. Our own walk of the law.
-/
import Derived.Test.YtcicoblejaippaaDoorMvY
import Derived.Test.YtcicoblejaippaaDoorPicQ
import Derived.Test.YtcicoblejaippaaDoorPicErr
import Derived.Test.YtcicoblejaippaaDoorErrIs
import Derived.Test.YtcicoblejaippaaDoorTop
import Derived.Deep.DeepCutAuto
namespace Go.Proofs.YtcicoblejaippaaDoor
open Go.ChangeShapes Go.WideShapes Go.ChangeAt Go.RowKit Go.Maps
set_option linter.unusedVariables false
set_option maxRecDepth 100000

set_option maxHeartbeats 8000000 in
theorem mstill_walk {w : World} (a b : Int) (s : Value) (n : Nat) (f : Nat → Int) (hs : IntsIn w s n f) (st : Int) (hg : HasErr w) :
    Calls Tryd.prog 4 #[.agg #[.int .i64 a, .int .i64 b, s], .int .i64 st] w fun e w' => e = .returned (.bool true) ∧ Below w.heap.size w w' := by
  obtain ⟨W1, hW1⟩ : ∃ W1, W1 = w.alloc (.cells #[.int .i64 a, .int .i64 b, s] 24) := ⟨_, rfl⟩
  have b1 : Below w.heap.size w W1 := hW1 ▸ (Below.refl _ _).alloc (Nat.le_refl _) _
  have P1 : Hid (PicIn W1 w.heap.size a b s) := hide (hW1 ▸ picIn_new w a b s)
  have B1 := hide b1
  have HS := hide hs
  have HZ1 : Hid (w.heap.size < W1.heap.size) := P1.out.lt
  have EK := hide (fun (W : World) (hb : Below w.heap.size w W) => error_right 3 (errN 3) W (hg.below hg.lt hb) (errIs_N 3))
  obtain ⟨⟨c0, _⟩, ⟨c1, _⟩, c2, _⟩ := P1.out
  by_cases hE : menF a b n f a b n f st = 0
  · obtain ⟨h2, s1, s2⟩ := menF_zero.1 hE
    obtain ⟨_, A, B, o, _⟩ := two_ok h2
    have hl := o.le
    have h0 := o.pos
    have hself : ∀ i, i < n → shiftN A B 0 0 f i = f i := fun i hi => by
      unfold shiftN
      rw [fromAt_zero o.w1 (by rw [← o.many]; exact hi)]
    have hsame := hide (bg_same (A := A) (B := B) (f := f) (g := f) (n := n) (x := 0) (y := 0) (by omega) hself)
    have K1 := hide (menc_walk st (hs.below b1) (hs.below b1) o o)
    have hbs := bs_in A B f f n
    have HRZ : Hid (∀ i, i < n → mrF A B f f n st i = 0) := fun i hi => mrF_same s1 (hsame.out i hi)
    have HSP := hide o.pix
    have K3 := hide (fun (wx : World) (v : Value) (h : IntsIn wx s n f) (hv : IntsIn wx v n (mrF A B f f n st)) => mdec_new (bsX A B f f n) (bsY A B f f n) st h hv o s1 s2 hbs (fun i hi => by rw [HRZ.out i hi]; omega))
    have K4 := hide (fun (wx : World) (v : Value) (h : IntsIn wx s n f) (hv : IntsIn wx v n (mrF A B f f n st)) => mdec_any a b true (bsX A B f f n) (bsY A B f f n) st h hv)
    have HE3 : Hid (mdeF a b n f true (bsX A B f f n) (bsY A B f f n) n (mrF A B f f n st) st = 3) := by
      unfold Hid mdeF
      rw [picF_zero.2 ⟨A, B, o⟩, if_neg (by simp), stepOk_iff.2 ⟨s1, s2⟩, if_neg (by simp)]
      rfl
    rw [HE3.out] at K4
    have HTS : Hid (∀ i, i < n → toldF (shiftN A B (bsX A B f f n) (bsY A B f f n) f) (mrF A B f f n st) st i = f i) := by
      intro i hi
      have hb : shiftN A B (bsX A B f f n) (bsY A B f f n) f i = f i := hsame.out i hi
      rw [toldF_same (HRZ.out i hi) (by rw [hb]; exact HSP.out i hi), hb]
    generalize mdX a b n f true (bsX A B f f n) (bsY A B f f n) n (mrF A B f f n st) st = qa at *
    generalize mdY a b n f true (bsX A B f f n) (bsY A B f f n) n (mrF A B f f n st) st = qb at *
    generalize mdM a b n f true (bsX A B f f n) (bsY A B f f n) n (mrF A B f f n st) st = qm at *
    generalize mdG a b f (bsX A B f f n) (bsY A B f f n) (mrF A B f f n st) st = qg at *
    generalize toldF (shiftN A B (bsX A B f f n) (bsY A B f f n) f) (mrF A B f f n st) st = T at *
    generalize bsX A B f f n = X at *
    generalize bsY A B f f n = Y at *
    generalize mrF A B f f n st = R at *
    have HST := hide (stepOk_iff.2 ⟨s1, s2⟩)
    obtain ⟨ads, caps, rfl⟩ := slice_shape hs
    subst hW1
    clear hs hg b1 hE h2 o hself hsame hbs HSP HE3
    go_enter Tryd.func4, Tryd.ntmps4
    go_wp2_with fail
    refine (K1.out).mono ?_
    rintro e w2 ⟨⟨hok, _⟩, hb2⟩
    obtain ⟨u, rfl, hu, _⟩ := hok HST.out
    obtain ⟨adu, capu, rfl⟩ := slice_shape hu
    obtain ⟨W3, hW3⟩ : ∃ W3, W3 = w2.alloc (.cells #[.bool false, .int .i64 X, .int .i64 Y, .slice adu n capu] 28) := ⟨_, rfl⟩
    have b3 : Below w2.heap.size w2 W3 := hW3 ▸ (Below.refl _ _).alloc (Nat.le_refl _) _
    have z3 : W3.heap.size = w2.heap.size + 1 := by rw [hW3]; simp
    have P3 := hide ((P1.out.below hb2).below b3)
    have C3 : Hid (CodIn W3 w2.heap.size false X Y (.slice adu n capu)) := hide (hW3 ▸ codIn_new w2 _ _ _ _)
    have B3 := hide (below_two (below_two B1.out hb2) b3)
    have U3 := hide (hu.below b3)
    have hnu : Hid (∀ k, (Value.slice adu n capu).ownBlock = some k → k ≠ w2.heap.size) := fun k hk => by have := ints_lt hu h0 k hk; omega
    have HZ3 : Hid (w.heap.size < w2.heap.size ∧ w2.heap.size < W3.heap.size) := by
      have := hb2.size
      have := HZ1.out
      unfold Hid
      omega
    have K3' := hide (K3.out W3 _ (HS.out.below B3.out) U3.out)
    subst hW3
    clear hok hu hb2 b3 z3 K1 K3 P1 B1 HZ1 c0 c1 c2
    obtain ⟨⟨c0, _⟩, ⟨c1, _⟩, c2, _⟩ := P3.out
    obtain ⟨e0, e1, e2, e3, _, _, _, _⟩ := C3.out
    obtain ⟨gw, ow, capw2, hwe, hwc⟩ : ∃ g o c, Value.slice adu n capu = .slice (some ⟨g, o, none⟩) n c ∧ ∀ i, i < n → (w2.alloc (.cells #[.bool false, .int .i64 X, .int .i64 Y, .slice adu n capu] 28)).cell? ⟨g, o + i, none⟩ = some (.int .i64 (R i)) := by
      rcases U3.out with ⟨h, _⟩ | ⟨_, b, o, c, e, hc⟩
      · omega
      · exact ⟨_, _, _, e, hc⟩
    obtain ⟨rfl, rfl⟩ : adu = some ⟨gw, ow, none⟩ ∧ capu = capw2 := by cases hwe; exact ⟨rfl, rfl⟩
    have HWC : Hid (∀ i, i < n → (w2.alloc (.cells #[.bool false, .int .i64 X, .int .i64 Y, .slice (some ⟨gw, ow, none⟩) n capu] 28)).cell? ⟨gw, ow + i, none⟩ = some (.int .i64 0)) := fun i hi => by rw [hwc i hi, HRZ.out i hi]
    clear hwe hwc
    go_wp2
    generalize w2.alloc (.cells #[.bool false, .int .i64 X, .int .i64 Y, .slice (some ⟨gw, ow, none⟩) n capu] 28) = W3 at *
    go_loop [9] (fun i => ∃ j : Nat, j ≤ n ∧ i = .int .i64 j) (fun i => n - (intOf i).toNat)
    case atStart => exact ⟨0, Nat.zero_le _, rfl⟩
    case round =>
      obtain ⟨j, hj, rfl⟩ := hrel
      by_cases hlt : j < n
      · have hcj := HWC.out j hlt
        go_wp2
        go_round
        case rel => exact ⟨j + 1, by omega, by go_num⟩
        case measure => simp [intOf]; omega
      · obtain rfl : j = n := by omega
        clear HWC
        go_wp2_with fail
        refine (K3'.out).mono ?_
        rintro e w4 ⟨x, rfl, hx, hb4, hnx⟩
        obtain ⟨adx, capx, rfl⟩ := slice_shape hx
        obtain ⟨W5, hW5⟩ : ∃ W5, W5 = w4.alloc (.cells #[.int .i64 a, .int .i64 b, .slice adx j capx] 24) := ⟨_, rfl⟩
        have b5 : Below w4.heap.size w4 W5 := hW5 ▸ (Below.refl _ _).alloc (Nat.le_refl _) _
        have hz4 := hb4.size
        have hne1 : w.heap.size ≠ w2.heap.size := by have := HZ3.out; omega
        have hne2 : w4.heap.size ≠ w2.heap.size := by have := HZ3.out; omega
        have P6 := hide (((P3.out.below hb4).below b5).setOther (o := 0) hne1 (.bool true))
        have C5 := ((C3.out.below hb4).below b5)
        have C6 := hide (C5.setAlone true)
        have Q6 : Hid (PicIn (W5.setCell ⟨w2.heap.size, 0, none⟩ (.bool true)) w4.heap.size a b (.slice adx j capx)) := hide ((show PicIn W5 w4.heap.size a b (.slice adx j capx) from hW5 ▸ picIn_new w4 _ _ _).setOther hne2 (.bool true))
        have B6 : Hid (Below w.heap.size w (W5.setCell ⟨w2.heap.size, 0, none⟩ (.bool true))) := (below_two (below_two B3.out hb4) b5).setCell (by show w.heap.size ≤ w2.heap.size; have := HZ3.out; omega) _
        have X6 := hide (ints_set (b := w2.heap.size) (o := 0) (hx.below b5) (fun k hk => by have := hnx k hk; have := HZ3.out; omega) (.bool true))
        have U6 := hide (ints_set (o := 0) ((U3.out.below hb4).below b5) hnu.out (.bool true))
        have K6 := hide (K4.out _ _ (HS.out.below B6.out) U6.out)
        obtain ⟨f0, f1, f2, f3, g0, g1, g2, g3⟩ := C5
        subst hW5
        clear hx hb4 b5 hnx hz4 hne1 hne2 K3' P3 C3 B3 U3 HZ3 hnu c0 c1 c2 e0 e1 e2 e3 K4
        obtain ⟨⟨c0, _⟩, ⟨c1, _⟩, c2, _⟩ := P6.out
        obtain ⟨e0, e1, e2, e3, _, _, _, _⟩ := C6.out
        go_wp2_with fail
        refine (K6.out).mono ?_
        rintro e w7 ⟨z, rfl, hz, hb7⟩
        obtain ⟨adz, capz, rfl⟩ := slice_shape hz
        obtain ⟨W8, hW8⟩ : ∃ W8, W8 = w7.alloc (.cells #[.int .i64 qa, .int .i64 qb, .slice adz qm capz] 24) := ⟨_, rfl⟩
        have b8 : Below w7.heap.size w7 W8 := hW8 ▸ (Below.refl _ _).alloc (Nat.le_refl _) _
        have P8 := hide ((P6.out.below hb7).below b8)
        have C8 := hide ((C6.out.below hb7).below b8)
        have Q8 := hide ((Q6.out.below hb7).below b8)
        have B8 := hide (below_two (below_two B6.out hb7) b8)
        have X8 := hide ((X6.out.below hb7).below b8)
        have K8 := hide (pics_alike a b (by omega) X8.out (HS.out.below B8.out) (fun i hi => HTS.out i hi))
        subst hW8
        clear hz hb7 b8 K6 P6 C6 Q6 B6 X6 U6 c0 c1 c2 e0 e1 e2 e3 f0 f1 f2 f3 g0 g1 g2 g3
        obtain ⟨⟨c0, _⟩, ⟨c1, _⟩, c2, _⟩ := P8.out
        obtain ⟨⟨d0, _⟩, ⟨d1, _⟩, d2, _⟩ := Q8.out
        obtain ⟨e0, e1, e2, e3, _, _, _, _⟩ := C8.out
        go_wp2_with fail
        refine (K8.out).mono ?_
        rintro e w9 ⟨rfl, hb9⟩
        have B9 := hide (below_two B8.out hb9)
        have E9 := hide (EK.out w9 B9.out)
        clear hb9 K8
        go_wp2_with fail
        refine (E9.out).mono ?_
        rintro e w10 ⟨rfl, hb10⟩
        have B10 := hide (below_two B9.out hb10)
        clear hb10
        go_wp2
        go_ret
        exact ⟨ret_bool (by first | rfl | simp), B10.out⟩
  · have K1 := hide (menc_any a b a b st (hs.below b1) (hs.below b1))
    rw [errN_pos hE] at K1
    have K2 := hide (fun (wx : World) (hb : Below w.heap.size w wx) => mbest_any a b a b (hs.below hb) (hs.below hb))
    have HD : Hid (twoF a b n f a b n f = 0 → ¬ (1 ≤ st ∧ st ≤ 64)) := fun h k => hE (menF_zero.2 ⟨h, k⟩)
    obtain ⟨ads, caps, rfl⟩ := slice_shape hs
    subst hW1
    clear hs hg b1 hE EK
    generalize menF a b n f a b n f st = k at *
    generalize meX a b n f a b n f st = X at *
    generalize meY a b n f a b n f st = Y at *
    generalize meM a b n f a b n f st = M at *
    generalize mtX a b n f a b n f = X2 at *
    generalize mtY a b n f a b n f = Y2 at *
    go_enter Tryd.func4, Tryd.ntmps4
    go_wp2_with fail
    refine (K1.out).mono ?_
    rintro e w2 ⟨u, rfl, hu, hb2⟩
    obtain ⟨adu, capu, rfl⟩ := slice_shape hu
    obtain ⟨W3, hW3⟩ : ∃ W3, W3 = w2.alloc (.cells #[.bool false, .int .i64 X, .int .i64 Y, .slice adu M capu] 28) := ⟨_, rfl⟩
    have b3 : Below w2.heap.size w2 W3 := hW3 ▸ (Below.refl _ _).alloc (Nat.le_refl _) _
    have P3 := hide ((P1.out.below hb2).below b3)
    have B3 := hide (below_two (below_two B1.out hb2) b3)
    have K3 := hide (K2.out W3 B3.out)
    subst hW3
    clear hu hb2 b3 K1 K2 P1 B1 HZ1 c0 c1 c2
    obtain ⟨⟨c0, _⟩, ⟨c1, _⟩, c2, _⟩ := P3.out
    by_cases h2 : twoF a b n f a b n f = 0
    · have hst := HD.out h2
      have hw : st < 1 ∨ (1 ≤ st ∧ 64 < st) := by omega
      rw [h2, errN_zero] at K3
      clear h2 HD hst
      rcases hw with h | ⟨h1, h⟩
      · go_wp2_with fail
        refine (K3.out).mono ?_
        rintro e w4 ⟨rfl, hb4⟩
        have B4 := hide ((below_two B3.out hb4).alloc (by have := (below_two B3.out hb4).size; exact this) (.cells #[.int .i64 X2, .int .i64 Y2] 26))
        clear hb4
        go_wp2
        go_ret
        exact ⟨ret_bool (by first | rfl | simp), B4.out⟩
      · go_wp2_with fail
        refine (K3.out).mono ?_
        rintro e w4 ⟨rfl, hb4⟩
        have B4 := hide ((below_two B3.out hb4).alloc (by have := (below_two B3.out hb4).size; exact this) (.cells #[.int .i64 X2, .int .i64 Y2] 26))
        clear hb4
        go_wp2
        go_ret
        exact ⟨ret_bool (by first | rfl | simp | (simp; omega)), B4.out⟩
    · rw [errN_pos h2] at K3
      clear h2 HD
      generalize twoF a b n f a b n f = k2 at *
      go_wp2_with fail
      refine (K3.out).mono ?_
      rintro e w4 ⟨rfl, hb4⟩
      have B4 := hide ((below_two B3.out hb4).alloc (by have := (below_two B3.out hb4).size; exact this) (.cells #[.int .i64 X2, .int .i64 Y2] 26))
      clear hb4
      go_wp2
      go_ret
      exact ⟨ret_bool (by first | rfl | simp), B4.out⟩
end Go.Proofs.YtcicoblejaippaaDoor
