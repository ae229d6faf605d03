/-
  Lemmas for the law above, joined into one text (ByTlW). No statement is proved here.
-/
import Derived.Test.YtjhflcgphejddaaDoorTG35
import Derived.Test.YtjhflcgphejddaaDoorTG36
import Derived.Test.YtjhflcgphejddaaDoorTPicErr
import Derived.Test.YtjhflcgphejddaaDoorTG39
import Derived.Deep.DeepCutAuto
namespace Go.Proofs.YtjhflcgphejddaaDoor
open Go.ChangeShapes Go.WideShapes Go.ChangeAt Go.RowKit Go.Maps
set_option linter.unusedVariables false
set_option maxRecDepth 100000

/-- A film is as it lies: what is the same may stand for it. -/
theorem cods_same {w : World} {v : Value} {N : Nat} {C D : Nat → Cd} (h : CodsIn w v N C) (e : ∀ i, i < N → (C i).al = (D i).al ∧ (C i).x = (D i).x ∧ (C i).y = (D i).y ∧ (C i).n = (D i).n ∧ ∀ k, k < (C i).n → (C i).f k = (D i).f k) : CodsIn w v N D := by
  obtain ⟨ad, cap, rfl, h1, h2, h3⟩ := h
  refine ⟨ad, cap, rfl, h1, h2, fun h0 => ?_⟩
  obtain ⟨b, o, e', hc⟩ := h3 h0
  refine ⟨b, o, e', fun i hi => ?_⟩
  obtain ⟨s, c0, c1, c2, c3, hs⟩ := hc i hi
  obtain ⟨q1, q2, q3, q4, q5⟩ := e i hi
  refine ⟨s, by rw [← q1]; exact c0, by rw [← q2]; exact c1, by rw [← q3]; exact c2, c3, ?_⟩
  rw [← q4]
  exact hs.congr q5

set_option maxHeartbeats 4000000 in
theorem bytell_walk {w : World} (a b st : Int) {v : Value} (N : Nat) (C : Nat → Cd) (h : CodsIn w v N C) (t : ByteArray) {P : Prop} (_ : P) (hg : HasErr w) :
    Calls Tryd.prog 3 #[.int .i64 a, .int .i64 b, .int .i64 st, v, .string t] w fun e w' => e = .returned (.bool true) ∧ Below w.heap.size w w' := by
  have K1 := hide (rbytes_any a b st h)
  have KP := hide (fun (W : World) (hW : Below w.heap.size w W) => pack_any a b st (h.below hW))
  have EK := hide (fun (W : World) (hb : Below w.heap.size w W) (k : Nat) => error_right (k : Int) (errN k) W (hg.below hg.lt hb) (errIs_N k))
  obtain ⟨S, hS⟩ : ∃ S, S = bytS a b st N C := ⟨_, rfl⟩
  obtain ⟨F, hF⟩ : ∃ F, F = bytF a b st N C := ⟨_, rfl⟩
  rw [← hS, ← hF] at K1 KP
  have hq1 : (S.toList == S.toList) = true := beq_self_eq_true _
  obtain ⟨ad, cap, rfl, _, _, _⟩ := h
  clear hS hF hg
  go_enter Tryd.func3, Tryd.ntmps3
  go_wp2_with fail
  refine (K1.out).mono ?_
  rintro e w1 ⟨rfl, hb1⟩
  have B1 := hide hb1
  clear hb1
  go_wp2_with fail
  refine (KP.out w1 B1.out).mono ?_
  rintro e w2 ⟨rfl, hb2⟩
  have B2 := hide (below_two B1.out hb2)
  clear hb2 KP K1
  go_wp2_with fail
  refine (EK.out w2 B2.out F).mono ?_
  rintro e w3 ⟨rfl, hb3⟩
  have B3 := hide (below_two B2.out hb3)
  clear hb3
  go_wp2_with fail
  refine (rread_any t).mono ?_
  intro e w4 hrb
  obtain ⟨a4, b4, s4, u4, x4, N4, C4, rfl, HC4, HF4, hb4⟩ := rb_fate hrb
  have B4 := hide (below_two B3.out hb4.out)
  clear hrb hb4
  go_wp2_with fail
  refine (unpack_any t).mono ?_
  intro e w5 hub
  obtain ⟨a5, b5, s5, u5, x5, N5, C5, rfl, HC5, HF5, hb5⟩ := ub_fate hub
  have B5 := hide (below_two B4.out hb5.out)
  have HC4' := hide (HC4.out.below hb5.out)
  obtain ⟨rfl, rfl, rfl, rfl, rfl, hN6, hn36, hsame⟩ := fate_one HF4.out HF5.out
  have HS := hide (cods_same HC4'.out hsame)
  have KF := hide (fun (W : World) (hW : Below w5.heap.size w5 W) => films_same (show N4 ≤ 1000 by omega) (fun i hi => by have h1 := hn36 i hi; have h2 := (hsame i hi).2.2.2.1; omega) (HC5.out.below hW) (HS.out.below hW))
  obtain ⟨ad4, cap4, hu4⟩ : ∃ ad cp, u4 = .slice ad N4 cp := by obtain ⟨ad, cp, e, _⟩ := HC4.out; exact ⟨_, _, e⟩
  obtain ⟨ad5, cap5, hu5⟩ : ∃ ad cp, u5 = .slice ad N4 cp := by obtain ⟨ad, cp, e, _⟩ := HC5.out; exact ⟨_, _, e⟩
  clear hub hb5 HC4 HC4' HC5 HS HF4 HF5 hn36 hsame
  subst hu4 hu5
  go_wp2_with fail
  refine (EK.out w5 B5.out x4).mono ?_
  rintro e w6 ⟨rfl, hb6⟩
  have B6 := hide (below_two B5.out hb6)
  have KF6 := hide (KF.out w6 hb6)
  clear hb6
  have ha4 : (a4 == a4) = true := beq_self_eq_true _
  have hb4 : (b4 == b4) = true := beq_self_eq_true _
  have hs4 : (s4 == s4) = true := beq_self_eq_true _
  go_wp2_with fail
  refine (KF6.out).mono ?_
  rintro e w7 ⟨rfl, hb7⟩
  have B7 := hide (below_two B6.out hb7)
  go_wp2
  go_ret
  exact ⟨rfl, B7.out⟩
end Go.Proofs.YtjhflcgphejddaaDoor
