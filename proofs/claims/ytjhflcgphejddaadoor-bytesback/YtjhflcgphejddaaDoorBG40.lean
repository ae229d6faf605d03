/-
  Lemmas for the law above, joined into one text (ByTlW, ByBkW). No statement is proved here.
-/
import Derived.Test.YtjhflcgphejddaaDoorBG35
import Derived.Test.YtjhflcgphejddaaDoorBG36
import Derived.Test.YtjhflcgphejddaaDoorBG37
import Derived.Test.YtjhflcgphejddaaDoorBG39
import Derived.Deep.DeepCutAuto
import Derived.Test.YtjhflcgphejddaaDoorBG29
namespace Go.Proofs.YtjhflcgphejddaaDoor
open Go.ChangeShapes Go.WideShapes Go.ChangeAt Go.RowKit Go.Maps
set_option linter.unusedVariables false
set_option maxRecDepth 100000

/-- A film is as it lies: what is the same may stand for it. -/
theorem cods_same {w : World} {v : Value} {N : Nat} {C D : Nat → Cd} (h : CodsIn w v N C) (e : ∀ i, i < N → (C i).al = (D i).al ∧ (C i).x = (D i).x ∧ (C i).y = (D i).y ∧ (C i).n = (D i).n ∧ ∀ k, k < (C i).n → (C i).f k = (D i).f k) : CodsIn w v N D := by
  obtain ⟨ad, cap, rfl, h1, h2, h3⟩ := h
  refine ⟨ad, cap, rfl, h1, h2, fun h0 => ?_⟩
  obtain ⟨b, o, e', hc⟩ := h3 h0
  refine ⟨b, o, e', fun i hi => ?_⟩
  obtain ⟨s, c0, c1, c2, c3, hs⟩ := hc i hi
  obtain ⟨q1, q2, q3, q4, q5⟩ := e i hi
  refine ⟨s, by rw [← q1]; exact c0, by rw [← q2]; exact c1, by rw [← q3]; exact c2, c3, ?_⟩
  rw [← q4]
  exact hs.congr q5

set_option maxHeartbeats 4000000 in
theorem bytell_walk {w : World} (a b st : Int) {v : Value} (N : Nat) (C : Nat → Cd) (h : CodsIn w v N C) (t : ByteArray) {P : Prop} (_ : P) (hg : HasErr w) :
    Calls Tryd.prog 3 #[.int .i64 a, .int .i64 b, .int .i64 st, v, .string t] w fun e w' => e = .returned (.bool true) ∧ Below w.heap.size w w' := by
  have K1 := hide (rbytes_any a b st h)
  have KP := hide (fun (W : World) (hW : Below w.heap.size w W) => pack_any a b st (h.below hW))
  have EK := hide (fun (W : World) (hb : Below w.heap.size w W) (k : Nat) => error_right (k : Int) (errN k) W (hg.below hg.lt hb) (errIs_N k))
  obtain ⟨S, hS⟩ : ∃ S, S = bytS a b st N C := ⟨_, rfl⟩
  obtain ⟨F, hF⟩ : ∃ F, F = bytF a b st N C := ⟨_, rfl⟩
  rw [← hS, ← hF] at K1 KP
  have hq1 : (S.toList == S.toList) = true := beq_self_eq_true _
  obtain ⟨ad, cap, rfl, _, _, _⟩ := h
  clear hS hF hg
  go_enter Tryd.func3, Tryd.ntmps3
  go_wp2_with fail
  refine (K1.out).mono ?_
  rintro e w1 ⟨rfl, hb1⟩
  have B1 := hide hb1
  clear hb1
  go_wp2_with fail
  refine (KP.out w1 B1.out).mono ?_
  rintro e w2 ⟨rfl, hb2⟩
  have B2 := hide (below_two B1.out hb2)
  clear hb2 KP K1
  go_wp2_with fail
  refine (EK.out w2 B2.out F).mono ?_
  rintro e w3 ⟨rfl, hb3⟩
  have B3 := hide (below_two B2.out hb3)
  clear hb3
  go_wp2_with fail
  refine (rread_any t).mono ?_
  intro e w4 hrb
  obtain ⟨a4, b4, s4, u4, x4, N4, C4, rfl, HC4, HF4, hb4⟩ := rb_fate hrb
  have B4 := hide (below_two B3.out hb4.out)
  clear hrb hb4
  go_wp2_with fail
  refine (unpack_any t).mono ?_
  intro e w5 hub
  obtain ⟨a5, b5, s5, u5, x5, N5, C5, rfl, HC5, HF5, hb5⟩ := ub_fate hub
  have B5 := hide (below_two B4.out hb5.out)
  have HC4' := hide (HC4.out.below hb5.out)
  obtain ⟨rfl, rfl, rfl, rfl, rfl, hN6, hn36, hsame⟩ := fate_one HF4.out HF5.out
  have HS := hide (cods_same HC4'.out hsame)
  have KF := hide (fun (W : World) (hW : Below w5.heap.size w5 W) => films_same (show N4 ≤ 1000 by omega) (fun i hi => by have h1 := hn36 i hi; have h2 := (hsame i hi).2.2.2.1; omega) (HC5.out.below hW) (HS.out.below hW))
  obtain ⟨ad4, cap4, hu4⟩ : ∃ ad cp, u4 = .slice ad N4 cp := by obtain ⟨ad, cp, e, _⟩ := HC4.out; exact ⟨_, _, e⟩
  obtain ⟨ad5, cap5, hu5⟩ : ∃ ad cp, u5 = .slice ad N4 cp := by obtain ⟨ad, cp, e, _⟩ := HC5.out; exact ⟨_, _, e⟩
  clear hub hb5 HC4 HC4' HC5 HS HF4 HF5 hn36 hsame
  subst hu4 hu5
  go_wp2_with fail
  refine (EK.out w5 B5.out x4).mono ?_
  rintro e w6 ⟨rfl, hb6⟩
  have B6 := hide (below_two B5.out hb6)
  have KF6 := hide (KF.out w6 hb6)
  clear hb6
  have ha4 : (a4 == a4) = true := beq_self_eq_true _
  have hb4 : (b4 == b4) = true := beq_self_eq_true _
  have hs4 : (s4 == s4) = true := beq_self_eq_true _
  go_wp2_with fail
  refine (KF6.out).mono ?_
  rintro e w7 ⟨rfl, hb7⟩
  have B7 := hide (below_two B6.out hb7)
  go_wp2
  go_ret
  exact ⟨rfl, B7.out⟩
end Go.Proofs.YtjhflcgphejddaaDoor

namespace Go.Proofs.YtjhflcgphejddaaDoor
open Go.ChangeShapes Go.WideShapes Go.ChangeAt Go.RowKit Go.Maps
set_option linter.unusedVariables false
set_option maxRecDepth 100000

set_option maxHeartbeats 2000000 in
theorem byback_walk {w : World} (a b st : Int) {v : Value} (N : Nat) (C : Nat → Cd) (h : CodsIn w v N C) (t : ByteArray) {P : Prop} (_ : P) (cut : Int) (hg : HasErr w) :
    Calls Tryd.prog 4 #[.int .i64 a, .int .i64 b, .int .i64 st, v, .string t, .int .i64 cut] w fun e w' => e = .returned (.bool true) ∧ Below w.heap.size w w' := by
  have H := hide h
  have EK := hide (fun (W : World) (hb : Below w.heap.size w W) (k : Nat) => error_right (k : Int) (errN k) W (hg.below hg.lt hb) (errIs_N k))
  obtain ⟨ad, cap, rfl, _, _, _⟩ := h
  obtain ⟨W2, hW2⟩ : ∃ W2, W2 = (w.alloc (.cells #[.int .i64 0] 3)).alloc (.cells #[.bool true, .int .i64 0, .int .i64 0, .slice (some ⟨w.heap.size, 0, none⟩) 1 1] 40) := ⟨_, rfl⟩
  have b2 : Below w.heap.size w W2 := hW2 ▸ ((Below.refl _ _).alloc (Nat.le_refl _) _).alloc (by simp) _
  have hC2 : CodsIn W2 (.slice (some ⟨w.heap.size + 1, 0, none⟩) 1 1) 1 oneC := by
    refine ⟨_, _, rfl, Nat.le_refl _, by unfold maxLen; omega, fun _ => ⟨_, _, rfl, fun i hi => ?_⟩⟩
    obtain rfl : i = 0 := by omega
    refine ⟨.slice (some ⟨w.heap.size, 0, none⟩) 1 1, by rw [hW2]; simp [oneC], by rw [hW2]; simp [oneC], by rw [hW2]; simp [oneC], by rw [hW2]; simp, Or.inr ⟨by show 0 < 1; omega, w.heap.size, 0, 1, rfl, fun k hk => ?_⟩⟩
    obtain rfl : k = 0 := by have : k < 1 := hk; omega
    rw [hW2]
    simp [oneC]
  have K2 := hide (pack_any 1 1 1 hC2)
  rw [one_F, one_S] at K2
  have e0 : errN 0 = .nilIface := rfl
  rw [e0] at K2
  have B2 := hide b2
  have HW2 := hide hW2
  clear hC2 b2 hW2 hg
  go_enter Tryd.func4, Tryd.ntmps4
  go_wp2_with fail
  rw [← HW2.out]
  clear HW2
  refine (K2.out).mono ?_
  rintro e w3 ⟨rfl, hb3⟩
  have B3 := hide (below_two B2.out hb3)
  clear hb3 K2
  go_wp2_with fail
  refine (unpack_any t).mono ?_
  intro e w4 hub
  obtain ⟨a4, b4, s4, u4, x4, N4, C4, rfl, HC4, HF4, hb4⟩ := ub_fate hub
  have B4 := hide (below_two B3.out hb4.out)
  obtain ⟨ad4, cap4, hu4⟩ : ∃ ad cp, u4 = .slice ad N4 cp := by obtain ⟨ad, cp, e, _⟩ := HC4.out; exact ⟨_, _, e⟩
  subst hu4
  have ht1 : (t.toList == t.toList) = true := beq_self_eq_true _
  have ht2 : (t.toList != t.toList) = false := bne_self_eq_false _
  clear hub hb4 B3
  go_upto_region 5 with fail
  go_cut [19, 48] (fun _ o wx => ∃ q, o = .bool q ∧ Hid (q = true ↔ x4 = 0) ∧ w4 = wx)
  case first =>
    by_cases hx : x4 = 0
    · subst hx
      rw [e0]
      go_wp2
      go_meet
      exact ⟨true, rfl, by unfold Hid; simp, rfl⟩
    · rw [errN_pos hx]
      go_wp2
      go_meet
      exact ⟨false, rfl, by unfold Hid; simp; exact hx, rfl⟩
  obtain ⟨q, rfl, HQ, rfl⟩ := hcut
  go_upto_if 48 with fail
  go_cut [] (fun wx => Hid (Below w.heap.size w wx))
  case first =>
    cases q with
    | true =>
      obtain rfl : x4 = 0 := HQ.out.1 rfl
      have hFS : bytF a4 b4 s4 N4 C4 = 0 ∧ bytS a4 b4 s4 N4 C4 = t := by
        rcases HF4.out with h | h | h
        · exact absurd h.1 (by omega)
        · exact absurd h.1 (by omega)
        · exact ⟨h.2.2.1, h.2.2.2⟩
      have hse := (bytF_zero.1 hFS.1).1
      have K5 := hide (pack_any a4 b4 s4 HC4.out)
      rw [hFS.1, hFS.2, e0] at K5
      have K6 := hide (fun (W : World) (hW : Below w4.heap.size w4 W) => fdec_one a4 b4 s4 (HC4.out.below hW))
      rw [hse, e0] at K6
      clear hFS hse HF4 HC4
      go_wp2_with fail
      refine (K5.out).mono ?_
      rintro e w5 ⟨rfl, hb5⟩
      have B5 := hide (below_two B4.out hb5)
      go_wp2_with fail
      refine (K6.out w5 hb5).mono ?_
      rintro e w6 ⟨u6, rfl, hb6⟩
      have B6 := hide (below_two B5.out hb6)
      clear hb5 hb6 K5 K6
      go_wp2
      go_meet
      exact B6
    | false =>
      clear HF4 HC4
      go_wp2
      go_meet
      exact B4
  case rest =>
    have B6 := hcut
    have K7 := hide (pack_any a b st (H.out.below B6.out))
    clear HF4 HC4 B4
    go_wp2_with fail
    refine (K7.out).mono ?_
    rintro e w7 ⟨rfl, hb7⟩
    have B7 := hide (below_two B6.out hb7)
    clear hb7 K7
    by_cases hF : bytF a b st N C = 0
    · obtain ⟨S, hS⟩ : ∃ S, S = bytS a b st N C := ⟨_, rfl⟩
      have hz := film_size hF
      have hcn := hide (fun (c : Nat) (hc : c < (bytS a b st N C).size) => cut_none hF hc)
      have HFt : Hid (Fate S 0 a b st N C) := Or.inr (Or.inr ⟨rfl, by rw [hS]; exact hz.2, hF, hS.symm⟩)
      rw [← hS] at hz hcn
      rw [hF, e0, ← hS]
      have HSz := hide hz
      clear hS hF hz
      go_wp2_with fail
      refine (unpack_any S).mono ?_
      intro e w8 hub
      obtain ⟨a8, b8, s8, u8, x8, N8, C8, rfl, HC8, HF8, hb8⟩ := ub_fate hub
      have B8 := hide (below_two B7.out hb8.out)
      obtain ⟨rfl, rfl, rfl, rfl, rfl, hN6, hn36, hsame⟩ := fate_one HFt.out HF8.out
      have HCx := hide (H.out.below B8.out)
      have HSm := hide (cods_same HCx.out hsame)
      have KF := hide (films_same (show N ≤ 1000 by omega) (fun i hi => by have h1 := hn36 i hi; have h2 := (hsame i hi).2.2.2.1; omega) HC8.out HSm.out)
      obtain ⟨ad8, cap8, hu8⟩ : ∃ ad cp, u8 = .slice ad N cp := by obtain ⟨ad, cp, e, _⟩ := HC8.out; exact ⟨_, _, e⟩
      subst hu8
      have ha8 : (a == a) = true := beq_self_eq_true _
      have hb8' : (b == b) = true := beq_self_eq_true _
      have hs8 : (st == st) = true := beq_self_eq_true _
      have ha9 : (a != a) = false := bne_self_eq_false _
      have hb9 : (b != b) = false := bne_self_eq_false _
      have hs9 : (st != st) = false := bne_self_eq_false _
      rw [e0]
      clear hub hb8 HC8 HF8 HCx HSm hN6 hn36 hsame HFt B7
      go_wp2_with fail
      refine (KF.out).mono ?_
      rintro e w9 ⟨rfl, hb9w⟩
      have B9 := hide (below_two B8.out hb9w)
      clear hb9w KF
      rcases Int.lt_or_le cut 0 with hc0 | hc0
      · go_wp2
        go_ret
        exact ⟨rfl, B9.out⟩
      · obtain ⟨c, rfl⟩ := Int.eq_ofNat_of_zero_le hc0
        by_cases hcs : S.size ≤ c
        · have hci : (S.size : Int) ≤ (c : Int) := by omega
          go_wp2
          go_ret
          exact ⟨rfl, B9.out⟩
        · have HN := hide (hcn.out c (by omega))
          have hci : ¬ (S.size : Int) ≤ (c : Int) := by omega
          have HTz : Hid ((S.extract 0 c).size ≤ 120) := by unfold Hid; rw [ext2_size _ _ (by omega)]; have := HSz.out.2; omega
          go_wp2_with fail
          refine (unpack_any (S.extract 0 c)).mono ?_
          intro e w10 hub
          obtain ⟨a10, b10, s10, u10, x10, N10, C10, rfl, _, HF10, hb10⟩ := ub_fate hub
          have B10 := hide (below_two B9.out hb10.out)
          obtain rfl : x10 = 2 := by
            rcases HF10.out with h | h | h
            · have := HTz.out; omega
            · exact h.1
            · exact absurd h.2.2.2 (HN.out _ _ _ _ _ h.2.2.1)
          have K10 := hide (EK.out w10 B10.out 2)
          clear hub HF10 hb10
          go_wp2_with fail
          refine (K10.out).mono ?_
          rintro e w11 ⟨rfl, hb11⟩
          have B11 := hide (below_two B10.out hb11)
          go_wp2
          go_ret
          exact ⟨rfl, B11.out⟩
    · rw [errN_pos hF]
      go_wp2
      go_ret
      exact ⟨rfl, B7.out⟩
end Go.Proofs.YtjhflcgphejddaaDoor
