/-
  AloneTells: the rests of any picture, the picture of any rests, and which number of steps is nearest, are as the document says: for every input. Our own walk of the law.
-/
import Derived.Test.YtckjbecfhgheiaaDoorAlTlN
import Derived.Test.YtckjbecfhgheiaaDoorRPicO
import Derived.Test.YtckjbecfhgheiaaDoorPicQ
import Derived.Test.YtckjbecfhgheiaaDoorPicErr
import Derived.Test.YtckjbecfhgheiaaDoorErrIs
import Derived.Test.YtckjbecfhgheiaaDoorTop
import Derived.Deep.DeepCutAuto
namespace Go.Proofs.YtckjbecfhgheiaaDoor
open Go.ChangeShapes Go.WideShapes Go.ChangeAt Go.RowKit Go.Maps
set_option linter.unusedVariables false
set_option maxRecDepth 100000

set_option maxHeartbeats 8000000 in
theorem atells_walk {w : World} (a b : Int) (s : Value) (n : Nat) (f : Nat → Int) (hs : IntsIn w s n f) (st wide high : Int) (s' : Value) (n' : Nat) (f' : Nat → Int) (hs' : IntsIn w s' n' f') (m : Int) (hg : HasErr w) :
    Calls Tryd.prog 3 #[.agg #[.int .i64 a, .int .i64 b, s], .int .i64 st, .int .i64 wide, .int .i64 high, s', .int .i64 m] w fun e w' => e = .returned (.bool true) ∧ Below w.heap.size w w' := by
  obtain ⟨W1, hW1⟩ : ∃ W1, W1 = w.alloc (.cells #[.int .i64 a, .int .i64 b, s] 24) := ⟨_, rfl⟩
  have b1 : Below w.heap.size w W1 := hW1 ▸ (Below.refl _ _).alloc (Nat.le_refl _) _
  have P1 : Hid (PicIn W1 w.heap.size a b s) := hide (hW1 ▸ picIn_new w a b s)
  have B1 := hide b1
  have EK := hide (fun (k : Nat) (W : World) (hb : Below w.heap.size w W) => error_right k (errN k) W (hg.below hg.lt hb) (errIs_N k))
  have HS := hide hs
  have HS' := hide hs'
  obtain ⟨ads, caps, rfl⟩ := slice_shape hs
  obtain ⟨ads', caps', rfl⟩ := slice_shape hs'
  have K1 := hide (rpic_ok a b (HS.out.below B1.out))
  have K2 := hide (fun w1 (hb : Below w.heap.size w w1) A B (o : PicOk a b n f A B) (s1 : 1 ≤ st) (s2 : st ≤ 64) => ralone_ok (s := st) (HS.out.below hb) o s1 s2)
  have K3 := hide (fun w1 (hb : Below w.heap.size w w1) => aenc_any a b st (HS.out.below hb))
  have K4 := hide (fun w1 (hb : Below w.heap.size w w1) => rtold_any wide high st (HS'.out.below hb))
  have K5 := hide (fun w1 (hb : Below w.heap.size w w1) => adec_any wide high st (HS'.out.below hb))
  have K6 := hide (fun w1 => around_any m st w1)
  have HMle := hide (enM_le a b n f st)
  have HDle := hide (deM_le wide high st n' f')
  have HEN : Hid (encF a b n f st = if picF a b n f ≠ 0 then picF a b n f else if stepOk st = true then 0 else 1) := rfl
  have HEZ := hide (encF_zero (a := a) (b := b) (n := n) (f := f) (s := st)).1
  have HM : Hid (enM a b n f st = if encF a b n f st = 0 then n else 0) := rfl
  have HGA : Hid (∀ A B, PicOk a b n f A B → enG a st f = restF A st (byPix st f)) := fun A B o => by unfold enG; rw [o.wide]; rfl
  have HRV : Hid (rndV m st = if rndF m st = 0 then rnd m st else 0) := rfl
  have HRZ := hide (rndF_zero (n := m) (s := st))
  have HR1 : Hid (rndF m st ≠ 0 → rndF m st = 1) := by
    intro h
    unfold rndF at h ⊢
    split
    · rename_i c; rw [if_pos c] at h; exact absurd rfl h
    · rfl
  subst hW1
  clear hs hs' hg b1
  generalize picF a b n f = e0 at *
  generalize encF a b n f st = E at *
  generalize enM a b n f st = M at *
  generalize enG a st f = G at *
  generalize deX wide high st n' f' = X at *
  generalize deY wide high st n' f' = Y at *
  generalize deM wide high st n' f' = D at *
  generalize deG wide st f' = DG at *
  generalize decF wide high st n' f' = E2 at *
  generalize rndV m st = r at *
  generalize rndF m st = E3 at *
  go_enter Tryd.func3, Tryd.ntmps3
  go_wp2_with fail
  refine (K1.out).mono ?_
  rintro e w1 ⟨rfl, hb1⟩
  have P2 := hide (P1.out.below hb1)
  have B2 := hide (below_two B1.out hb1)
  clear hb1 K1 P1 B1
  go_upto_region 2 with fail
  go_cut [35] (fun t wx => ∃ q : Bool, t = .bool q ∧ (q = true ↔ e0 = 0 ∧ stepOk st = false) ∧ Hid (PicIn wx w.heap.size a b (.slice ads n caps)) ∧ Hid (Below w.heap.size w wx))
  case first =>
    by_cases h0 : e0 = 0
    · have z0 : ((e0 : Int) == 0) = true := by rw [beq_iff_eq]; omega
      have H0 := hide h0
      clear h0
      have hw : st < 1 ∨ (1 ≤ st ∧ 64 < st) ∨ (1 ≤ st ∧ st ≤ 64) := by omega
      rcases hw with h | ⟨h1, h⟩ | ⟨h1, h⟩
      · go_wp2
        go_meet
        exact ⟨true, by first | rfl | (simp; done) | (simp; omega), ⟨fun _ => ⟨H0.out, stepOk_not.2 (Or.inl h)⟩, fun _ => rfl⟩, P2, B2⟩
      · go_wp2
        go_meet
        exact ⟨true, by first | rfl | (simp; done) | (simp; omega), ⟨fun _ => ⟨H0.out, stepOk_not.2 (Or.inr h)⟩, fun _ => rfl⟩, P2, B2⟩
      · go_wp2
        go_meet
        exact ⟨false, by first | rfl | (simp; done) | (simp; omega), ⟨fun hh => Bool.noConfusion hh, fun hh => by rw [stepOk_iff.2 ⟨h1, h⟩] at hh; exact Bool.noConfusion hh.2⟩, P2, B2⟩
    · have z0 : ((e0 : Int) == 0) = false := by rw [beq_eq_false_iff_ne]; omega
      have H0 := hide h0
      clear h0
      go_wp2
      go_meet
      exact ⟨false, rfl, ⟨fun hh => Bool.noConfusion hh, fun hh => absurd hh.1 H0.out⟩, P2, B2⟩
  case rest =>
  obtain ⟨q, rfl, hq, P3, B3⟩ := hcut
  have HQ := hide hq
  clear hq P2 B2
  go_upto_if 35 with fail
  go_cut [13] (fun t wx => t = .int .i64 (E : Nat) ∧ Hid (PicIn wx w.heap.size a b (.slice ads n caps)) ∧ Hid (Below w.heap.size w wx))
  case first =>
    cases q with
    | true =>
      obtain ⟨h0, h1⟩ := HQ.out.1 rfl
      have hE : E = 1 := by rw [HEN.out, if_neg (by omega), h1, if_neg (by simp)]
      have HE := hide hE
      clear h0 h1 hE HQ
      go_wp2
      go_meet
      exact ⟨by rw [HE.out]; rfl, P3, B3⟩
    | false =>
      have hE : E = e0 := by
        rw [HEN.out]
        by_cases h0 : e0 = 0
        · have h1 : stepOk st = true := by
            cases h : stepOk st with
            | true => rfl
            | false => exact absurd (HQ.out.2 ⟨h0, h⟩) (by simp)
          rw [if_neg (by omega), if_pos h1, h0]
        · rw [if_pos h0]
      have HE := hide hE
      clear hE HQ
      go_wp2
      go_meet
      exact ⟨by rw [HE.out], P3, B3⟩
  case rest =>
  obtain ⟨rfl, P4, B4⟩ := hcut
  clear P3 B3 HQ HEN
  go_upto_region 5 with fail
  go_cut [37] (fun t wx => ∃ q : Bool, t = .bool q ∧ (q = true ↔ E = 0) ∧ Hid (PicIn wx w.heap.size a b (.slice ads n caps)) ∧ Hid (Below w.heap.size w wx))
  case first =>
    by_cases h0 : E = 0
    · have z0 : ((E : Int) == 0) = true := by rw [beq_iff_eq]; omega
      have H0 := hide h0
      clear h0
      go_wp2
      go_meet
      exact ⟨true, by first | rfl | (simp; done), ⟨fun _ => H0.out, fun _ => rfl⟩, P4, B4⟩
    · have z0 : ((E : Int) == 0) = false := by rw [beq_eq_false_iff_ne]; omega
      have H0 := hide h0
      clear h0
      go_wp2
      go_meet
      exact ⟨false, by first | rfl | (simp; done), ⟨fun hh => Bool.noConfusion hh, fun hh => absurd hh H0.out⟩, P4, B4⟩
  case rest =>
  obtain ⟨q, rfl, hq, P5, B5⟩ := hcut
  have HQ := hide hq
  clear hq P4 B4
  go_upto_if 37 with fail
  go_cut [14] (fun v wx => Hid (IntsIn wx v M G) ∧ Hid (PicIn wx w.heap.size a b (.slice ads n caps)) ∧ Hid (Below w.heap.size w wx))
  case first =>
    cases q with
    | true =>
      have h0 := HQ.out.1 rfl
      obtain ⟨⟨A, B, o⟩, s1, s2⟩ := HEZ.out h0
      have K2' := hide (K2.out wc B5.out A B o s1 s2)
      have hM : Hid (M = n) := by unfold Hid; rw [HM.out, if_pos h0]
      have hG : Hid (G = restF A st (byPix st f)) := HGA.out A B o
      obtain ⟨⟨c0, _⟩, ⟨c1, _⟩, c2, _⟩ := P5.out
      clear h0 o HQ
      go_wp2_with fail
      refine (K2'.out).mono ?_
      rintro e w3 ⟨u, u2, rfl, hu, _, hb3⟩
      have P6 := hide (P5.out.below hb3)
      have B6 := hide (below_two B5.out hb3)
      have HU := hide hu
      clear hb3 hu
      go_wp2
      go_meet
      exact ⟨by unfold Hid; rw [hM.out, hG.out]; exact HU.out, P6, B6⟩
    | false =>
      have hM : Hid (M = 0) := by
        unfold Hid
        rw [HM.out, if_neg]
        intro h
        exact Bool.noConfusion (HQ.out.2 h)
      clear HQ
      go_wp2
      go_meet
      exact ⟨by unfold Hid; rw [hM.out]; exact Or.inl ⟨rfl, _, _, rfl⟩, P5, B5⟩
  case rest =>
  obtain ⟨V6, P6, B6⟩ := hcut
  clear P5 B5 HQ HEZ HM HGA K2
  obtain ⟨adv, capv, hvs⟩ := slice_shape V6.out
  subst hvs
  have K3' := hide (K3.out wc B6.out)
  obtain ⟨⟨c0, _⟩, ⟨c1, _⟩, c2, _⟩ := P6.out
  clear K3
  go_wp2_with fail
  refine (K3'.out).mono ?_
  rintro e w7 ⟨u, rfl, hu, hb7⟩
  obtain ⟨adu, capu, rfl⟩ := slice_shape hu
  have V7 := hide (V6.out.below hb7)
  have B7 := hide (below_two B6.out hb7)
  have U7 := hide hu
  have E7 := hide (EK.out E w7 B7.out)
  clear hb7 hu K3' V6 P6 B6 c0 c1 c2
  go_wp2_with fail
  refine (E7.out).mono ?_
  rintro e w8 ⟨rfl, hb8⟩
  have V8 := hide (V7.out.below hb8)
  have B8 := hide (below_two B7.out hb8)
  have U8 := hide (U7.out.below hb8)
  have K8 := hide (ints_same (by have := HMle.out; omega) U8.out V8.out)
  clear hb8 E7 V7 B7 U7
  go_wp2_with fail
  refine (K8.out).mono ?_
  rintro e w9 ⟨rfl, hb9⟩
  have B9 := hide (below_two B8.out hb9)
  have K4' := hide (K4.out w9 B9.out)
  clear hb9 K8 V8 B8 U8 K4
  go_wp2_with fail
  refine (K4'.out).mono ?_
  rintro e w10 ⟨u2, rfl, hu2, hb10⟩
  obtain ⟨ad2, cap2, rfl⟩ := slice_shape hu2
  have b10 : Below w10.heap.size w10 (w10.alloc (.cells #[.int .i64 X, .int .i64 Y, .slice ad2 D cap2] 24)) := (Below.refl _ _).alloc (Nat.le_refl _) _
  have P10 := hide (picIn_new w10 X Y (.slice ad2 D cap2))
  have U10 := hide (hu2.below b10)
  have B10 := hide (below_two (below_two B9.out hb10) b10)
  have K5' := hide (K5.out _ B10.out)
  clear hb10 hu2 b10 K4' K5 B9
  go_wp2_with fail
  refine (K5'.out).mono ?_
  rintro e w11 ⟨u3, rfl, hu3, hb11⟩
  obtain ⟨ad3, cap3, rfl⟩ := slice_shape hu3
  have b11 : Below w11.heap.size w11 (w11.alloc (.cells #[.int .i64 X, .int .i64 Y, .slice ad3 D cap3] 24)) := (Below.refl _ _).alloc (Nat.le_refl _) _
  have Q11 := hide (picIn_new w11 X Y (.slice ad3 D cap3))
  have P11 := hide ((P10.out.below hb11).below b11)
  have U11 := hide ((U10.out.below hb11).below b11)
  have V11 := hide (hu3.below b11)
  have B11 := hide (below_two (below_two B10.out hb11) b11)
  have E11 := hide (EK.out E2 _ B11.out)
  clear hb11 hu3 b11 K5' B10 P10 U10
  go_wp2_with fail
  refine (E11.out).mono ?_
  rintro e w12 ⟨rfl, hb12⟩
  have Q12 := hide (Q11.out.below hb12)
  have P12 := hide (P11.out.below hb12)
  have U12 := hide (U11.out.below hb12)
  have V12 := hide (V11.out.below hb12)
  have B12 := hide (below_two B11.out hb12)
  have K12 := hide (pics_alike X Y (by have := HDle.out; omega) V12.out U12.out (fun _ _ => rfl))
  obtain ⟨⟨c0, _⟩, ⟨c1, _⟩, c2, _⟩ := P12.out
  obtain ⟨⟨d0, _⟩, ⟨d1, _⟩, d2, _⟩ := Q12.out
  clear hb12 E11 Q11 P11 U11 V11 B11
  go_wp2_with fail
  refine (K12.out).mono ?_
  rintro e w13 ⟨rfl, hb13⟩
  have B13 := hide (below_two B12.out hb13)
  clear hb13 K12 Q12 P12 U12 V12 B12 c0 c1 c2 d0 d1 d2
  go_upto_region 14 with fail
  go_cut [95] (fun t wx => ∃ q : Bool, t = .bool q ∧ (q = true ↔ E3 ≠ 0) ∧ Hid (Below w.heap.size w wx))
  case first =>
    have hw : st < 1 ∨ (1 ≤ st ∧ 64 < st) ∨ (1 ≤ st ∧ st ≤ 64 ∧ m < -255) ∨ (1 ≤ st ∧ st ≤ 64 ∧ -255 ≤ m ∧ 255 < m) ∨ (1 ≤ st ∧ st ≤ 64 ∧ -255 ≤ m ∧ m ≤ 255) := by omega
    rcases hw with h | ⟨h1, h⟩ | ⟨h1, h2, h⟩ | ⟨h1, h2, h3, h⟩ | ⟨h1, h2, h3, h⟩
    · go_wp2
      go_meet
      exact ⟨true, by first | rfl | (simp; done) | (simp; omega), ⟨fun _ h0 => by have := HRZ.out.1 h0; omega, fun _ => rfl⟩, B13⟩
    · go_wp2
      go_meet
      exact ⟨true, by first | rfl | (simp; done) | (simp; omega), ⟨fun _ h0 => by have := HRZ.out.1 h0; omega, fun _ => rfl⟩, B13⟩
    · go_wp2
      go_meet
      exact ⟨true, by first | rfl | (simp; done) | (simp; omega), ⟨fun _ h0 => by have := HRZ.out.1 h0; omega, fun _ => rfl⟩, B13⟩
    · go_wp2
      go_meet
      exact ⟨true, by first | rfl | (simp; done) | (simp; omega), ⟨fun _ h0 => by have := HRZ.out.1 h0; omega, fun _ => rfl⟩, B13⟩
    · go_wp2
      go_meet
      exact ⟨false, by first | rfl | (simp; done) | (simp; omega), ⟨fun hh => Bool.noConfusion hh, fun hh => absurd (HRZ.out.2 ⟨⟨h1, h2⟩, h3, h⟩) hh⟩, B13⟩
  case rest =>
  obtain ⟨q, rfl, hq, B14⟩ := hcut
  have HQ := hide hq
  clear hq B13
  go_upto_if 95 with fail
  go_cut [13, 21] (fun t u wx => t = .int .i64 (E3 : Nat) ∧ u = .int .i64 r ∧ Hid (Below w.heap.size w wx))
  case first =>
    cases q with
    | true =>
      have h0 := HQ.out.1 rfl
      have HE := hide (HR1.out h0)
      have hr : Hid (r = 0) := by unfold Hid; rw [HRV.out, if_neg h0]
      clear h0 HQ
      go_wp2
      go_meet
      exact ⟨by rw [HE.out]; rfl, by rw [hr.out], B14⟩
    | false =>
      have h0 : E3 = 0 := by
        rcases Nat.eq_zero_or_pos E3 with h | h
        · exact h
        · exact Bool.noConfusion (HQ.out.2 (by omega))
      obtain ⟨⟨s1, s2⟩, m1, m2⟩ := HRZ.out.1 h0
      have hr : Hid (r = rnd m st) := by unfold Hid; rw [HRV.out, if_pos h0]
      have KR := hide (fun w => rround_ok m st w m1 m2 s1 s2)
      have HE := hide h0
      clear h0 HQ
      go_wp2_with fail
      refine (KR.out _).mono ?_
      rintro e w15 ⟨rfl, rfl⟩
      go_wp2
      go_meet
      exact ⟨by rw [HE.out]; rfl, by rw [hr.out], B14⟩
  case rest =>
  obtain ⟨rfl, rfl, B15⟩ := hcut
  have K6' := hide (K6.out wc)
  have qrr : (r == r) = true := by simp
  have E15 := hide (EK.out E3 wc B15.out)
  clear B14 HQ HRV HRZ HR1 K6 EK
  go_wp2_with fail
  refine (K6'.out).mono ?_
  rintro e w16 ⟨rfl, rfl⟩
  go_wp2_with fail
  refine (E15.out).mono ?_
  rintro e w17 ⟨rfl, hb17⟩
  have B17 := hide (below_two B15.out hb17)
  clear hb17 E15 B15
  go_wp2
  go_ret
  exact ⟨ret_bool (by first | rfl | simp), B17.out⟩
end Go.Proofs.YtckjbecfhgheiaaDoor
