/-
  AloneNear: a picture that is coded and told is no further from itself than half a step, and by steps of one it is itself: for every input. Our own walk of the law.
-/
import Derived.Test.YtckjbecfhgheiaaAlC
import Derived.Test.YtckjbecfhgheiaaPicU
import Derived.Test.YtckjbecfhgheiaaPicQ
import Derived.Test.YtckjbecfhgheiaaTop
namespace Go.Proofs.Ytckjbecfhgheiaa
open Go.ChangeShapes Go.WideShapes Go.ChangeAt Go.RowKit Go.Maps
set_option linter.unusedVariables false
set_option maxRecDepth 100000

set_option maxHeartbeats 4000000 in
theorem near_walk {w : World} (a b : Int) (s : Value) (n : Nat) (f : Nat → Int) (hs : IntsIn w s n f) (st m : Int) :
    Calls Try.prog 3 #[.agg #[.int .i64 a, .int .i64 b, s], .int .i64 st, .int .i64 m] w fun e w' => e = .returned (.bool true) ∧ Below w.heap.size w w' := by
  obtain ⟨W1, hW1⟩ : ∃ W1, W1 = w.alloc (.cells #[.int .i64 a, .int .i64 b, s] 24) := ⟨_, rfl⟩
  have b1 : Below w.heap.size w W1 := hW1 ▸ (Below.refl _ _).alloc (Nat.le_refl _) _
  have P1 : Hid (PicIn W1 w.heap.size a b s) := hide (hW1 ▸ picIn_new w a b s)
  have B1 := hide b1
  have HS := hide hs
  have K0 : Hid (Calls Try.prog 5 #[.int .i64 (-5), .int .i64 4] W1 fun e w' => e = .returned (.tuple #[.int .i64 (-1), .nilIface]) ∧ W1 = w') := by
    have := around_any (-5) 4 W1
    rw [show rndV (-5) 4 = -1 by decide, show rndF (-5) 4 = 0 by decide] at this
    exact this
  have K1 := hide (around_any m st W1)
  obtain ⟨ads, caps, rfl⟩ := slice_shape hs
  have HV : Hid (rndV m st = if rndF m st = 0 then rnd m st else 0) := rfl
  have HZ := hide (rndF_zero (n := m) (s := st)).1
  subst hW1
  clear hs b1
  generalize rndV m st = r at *
  generalize rndF m st = e0 at *
  go_enter Try.func3, Try.ntmps3
  go_wp2_with fail
  refine (K0.out).mono ?_
  rintro e w1 ⟨rfl, rfl⟩
  go_wp2_with fail
  refine (K1.out).mono ?_
  rintro e w1 ⟨rfl, rfl⟩
  clear K0 K1
  go_upto_region 5 with fail
  go_cut [10, 34] (fun _ t wx => ∃ q : Bool, t = .bool q ∧ (q = true ↔ e0 = 0) ∧ Hid (PicIn wx w.heap.size a b (.slice ads n caps)) ∧ Hid (Below w.heap.size w wx))
  case first =>
    by_cases h0 : e0 = 0
    · have H0 := hide h0
      rw [h0, errN_zero]
      clear h0
      go_wp2
      go_meet
      exact ⟨true, rfl, ⟨fun _ => H0.out, fun _ => rfl⟩, P1, B1⟩
    · have H0 := hide h0
      rw [errN_pos h0]
      clear h0
      go_wp2
      go_meet
      exact ⟨false, rfl, ⟨fun h => Bool.noConfusion h, fun h => absurd h H0.out⟩, P1, B1⟩
  case rest =>
  obtain ⟨q, rfl, hq, P1, B1⟩ := hcut
  have HQ := hide hq
  clear hq
  go_upto_if 34 with fail
  go_cut [11] (fun _ wx => Hid (PicIn wx w.heap.size a b (.slice ads n caps)) ∧ Hid (Below w.heap.size w wx))
  case first =>
    cases q with
    | true =>
      have h0 := HQ.out.1 rfl
      obtain ⟨⟨s1, s2⟩, m1, m2⟩ := HZ.out h0
      have hr : r = rnd m st := by rw [HV.out, if_pos h0]
      have hn := rnd_near (n := m) s1
      rw [← hr] at hn
      obtain ⟨n1, n2⟩ := hn
      have g1 : st.tdiv 2 = st / 2 := Int.tdiv_eq_ediv_of_nonneg (by omega)
      have b1 : 0 ≤ st / 2 ∧ st / 2 ≤ 32 := by omega
      obtain ⟨b2, b3⟩ := b1
      clear h0 hr HV HZ HQ
      generalize st / 2 = t at *
      by_cases hd : m - r * st < 0
      · go_wp2
        go_meet
        exact ⟨P1, B1⟩
      · go_wp2
        go_meet
        exact ⟨P1, B1⟩
    | false =>
      clear HV HZ HQ
      go_wp2
      go_meet
      exact ⟨P1, B1⟩
  case rest =>
    obtain ⟨P2, B2⟩ := hcut
    clear P1 B1 HV HZ HQ
    by_cases hE : encF a b n f st = 0
    · obtain ⟨⟨A, B, o⟩, s1, s2⟩ := encF_zero.1 hE
      have HS1 := hide (HS.out.below B2.out)
      have K1 := hide (aenc_ok HS1.out o s1 s2)
      have od := enc_dec o s1 s2
      have HT : Hid (∀ i, tellF A st (fun i _ => restF A st (byPix st f) i) i = tellF A st (byPix st f) i) := fun i => tellF_rest o.w1 st (byPix st f) i
      have K2 := hide (fun (w : World) (v : Value) (hv : IntsIn w v n (restF A st (byPix st f))) => adec_ok hv od)
      have ot := od.told (byPix st f)
      have K3 := hide (fun (w : World) (v : Value) (h : IntsIn w (.slice ads n caps) n f) (hv : IntsIn w v n (tellF A st (byPix st f))) => punlike_ok h hv o ot)
      have hmost : mostN f (tellF A st (byPix st f)) n ≤ (st / 2).toNat := mostN_le fun i hi => by
        have := tellF_near o.w1 s1 (o.pix i hi)
        omega
      have HSM : Hid (st = 1 → ∀ i, i < n → tellF A st (byPix st f) i = f i) := by
        intro e i hi
        have := tellF_near o.w1 s1 (o.pix i hi)
        omega
      have hle := o.le
      have ea := o.wide
      generalize mostN f (tellF A st (byPix st f)) n = d at *
      generalize tellF A st (byPix st f) = T at *
      generalize restF A st (byPix st f) = R at *
      have g1 : st.tdiv 2 = st / 2 := Int.tdiv_eq_ediv_of_nonneg (by omega)
      have b1 : (d : Int) ≤ st / 2 := by omega
      have b2 : 0 ≤ st / 2 := by omega
      have b3 : st / 2 ≤ 32 := by omega
      generalize st / 2 = t at *
      have P2' := P2.out
      obtain ⟨⟨c0, _⟩, ⟨c1, _⟩, c2, _⟩ := P2'
      clear hE hmost o od ot
      subst ea
      go_wp2_with fail
      refine (K1.out).mono ?_
      rintro e w3 ⟨u, rfl, hu, hb3, _⟩
      have P3 := hide (P2.out.below hb3)
      have B3 := hide (below_two B2.out hb3)
      have K2' := hide (K2.out w3 u hu)
      obtain ⟨adu, capu, rfl⟩ := slice_shape hu
      clear hu hb3 K1 K2 P2 B2 c0 c1 c2 HS1
      obtain ⟨⟨c0, _⟩, ⟨c1, _⟩, c2, _⟩ := P3.out
      go_wp2_with fail
      refine (K2'.out).mono ?_
      rintro e w4 ⟨v, rfl, hv, hb4, _⟩
      obtain ⟨adv, capv, rfl⟩ := slice_shape hv
      obtain ⟨W5, hW5⟩ : ∃ W5, W5 = w4.alloc (.cells #[.int .i64 A, .int .i64 b, .slice adv n capv] 24) := ⟨_, rfl⟩
      have b45 : Below w4.heap.size w4 W5 := hW5 ▸ (Below.refl _ _).alloc (Nat.le_refl _) _
      have P5 := hide ((P3.out.below hb4).below b45)
      have Q5 : Hid (PicIn W5 w4.heap.size A b (.slice adv n capv)) := hide (hW5 ▸ picIn_new w4 _ _ _)
      have B5 := hide (below_two (below_two B3.out hb4) b45)
      have V5 := hide ((hv.congr (fun i _ => HT.out i)).below b45)
      have S5 := hide (HS.out.below B5.out)
      have K3' := hide (K3.out W5 _ S5.out V5.out)
      subst hW5
      clear hv hb4 b45 K2' K3 P3 B3 c0 c1 c2
      obtain ⟨⟨c0, _⟩, ⟨c1, _⟩, c2, _⟩ := P5.out
      obtain ⟨⟨d0, _⟩, ⟨d1, _⟩, d2, _⟩ := Q5.out
      go_wp2_with fail
      refine (K3'.out).mono ?_
      rintro e w6 ⟨rfl, hb6⟩
      have P6 := hide (P5.out.below hb6)
      have Q6 := hide (Q5.out.below hb6)
      have B6 := hide (below_two B5.out hb6)
      have V6 := hide (V5.out.below hb6)
      have S6 := hide (S5.out.below hb6)
      clear hb6 K3' P5 Q5 B5 V5 S5 c0 c1 c2 d0 d1 d2
      obtain ⟨⟨c0, _⟩, ⟨c1, _⟩, c2, _⟩ := P6.out
      obtain ⟨⟨d0, _⟩, ⟨d1, _⟩, d2, _⟩ := Q6.out
      by_cases h1 : st = 1
      · have e1 : (st == 1) = true := by rw [beq_iff_eq]; exact h1
        have e2 : (st != 1) = false := by simp [bne, e1]
        have K4 := hide (pics_alike (A : Int) b (by omega) S6.out V6.out (fun i hi => (HSM.out h1 i hi).symm))
        clear h1 HSM
        go_wp2_with fail
        refine (K4.out).mono ?_
        rintro e w7 ⟨rfl, hb7⟩
        have B7 := hide (below_two B6.out hb7)
        clear hb7
        go_wp2
        go_ret
        exact ⟨ret_bool (by first | rfl | simp), B7.out⟩
      · have e1 : (st == 1) = false := by rw [beq_eq_false_iff_ne]; exact h1
        have e2 : (st != 1) = true := by simp [bne, e1]
        clear h1 HSM
        go_wp2
        go_ret
        exact ⟨ret_bool (by first | rfl | simp), B6.out⟩
    · have K1 := hide (aenc_bad a b st (HS.out.below B2.out) hE)
      rw [errN_pos hE] at K1
      clear hE
      generalize encF a b n f st = k at *
      have P2' := P2.out
      obtain ⟨⟨c0, _⟩, ⟨c1, _⟩, c2, _⟩ := P2'
      go_wp2_with fail
      refine (K1.out).mono ?_
      rintro e w3 ⟨rfl, hb3⟩
      have B3 := hide (below_two B2.out hb3)
      clear hb3
      go_wp2
      go_ret
      exact ⟨rfl, B3.out⟩
end Go.Proofs.Ytckjbecfhgheiaa
