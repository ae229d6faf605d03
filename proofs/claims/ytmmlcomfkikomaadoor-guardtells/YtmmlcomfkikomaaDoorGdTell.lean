/-
  The walk of GuardTells over this seat's translation. Lemmas for the law above; no statement is proved here.
-/
import Derived.Test.YtmmlcomfkikomaaDoorGdTellN
namespace Go.Proofs.YtmmlcomfkikomaaDoor
open Go.RowKit
set_option linter.unusedVariables false
set_option maxRecDepth 100000

theorem add_err {w : World} {v : Value} {each : Int} {x : Int} (g : Nat → ByteArray) (h : ∀ w1, Below w.heap.size w w1 → Calls Tryd.prog 8 #[v, .int .i64 each] w1 fun e w' => e = .returned (.tuple #[.slice none 0 0, .iface 42 (.int .i64 x)]) ∧ Below w1.heap.size w1 w') :
    ∀ w1, Below w.heap.size w w1 → Calls Tryd.prog 8 #[v, .int .i64 each] w1 (Ans x 0 g w1) := fun w1 hb => (h w1 hb).mono (by
  rintro e w' ⟨rfl, hb'⟩
  exact ⟨_, _, rfl, Or.inr rfl, strsIn_nil _ _, hb'⟩)

set_option maxHeartbeats 4000000 in
theorem tells_walk {w : World} (v : Value) (len : Nat) (g : Nat → ByteArray) (hv : StrsAt w v len g) (each : Int) (v2 : Value) (len2 : Nat) (g2 : Nat → ByteArray) (hv2 : StrsAt w v2 len2 g2) (u : Value) (m : Nat) (lk : Nat → Bool) (hu : BoolsAt w u m lk) (hg : HasErr w) :
    Calls Tryd.prog 3 #[v, .int .i64 each, v2, u] w fun e w' => e = .returned (.bool true) ∧ Below w.heap.size w w' := by
  obtain ⟨eH, nH, fH, hnH, hH, hHR⟩ := heal_both hv2 hu each
  have HH := hide hH
  have HHR := hide hHR
  have HG := hide hg
  obtain ⟨av, cv, hav⟩ : ∃ a c, v = .slice a len c := by
    rcases hv with ⟨rfl, a, cap, rfl⟩ | ⟨h0, b, o, cap, rfl, _⟩
    · exact ⟨_, _, rfl⟩
    · exact ⟨_, _, rfl⟩
  clear hH hHR hg
  rcases blk_ways hv with ⟨x, hx1, hx, hr⟩ | ⟨b, o, cap, hve, hc1, hc2, hB⟩
  · subst hav
    have K1 := hide (hr w (Below.refl _ _))
    have HA := hide (add_err g fun w1 hb => add_check av len cv each w1 x fun w2 hb2 => hx w2 (below_two hb hb2))
    have q0 : (x == 0) = false := by rw [beq_eq_false_iff_ne]; omega
    clear hx hr hv hv2 hu hx1
    go_enter Tryd.func3, Tryd.ntmps3
    go_wp2_with fail
    refine (K1.out).mono ?_
    rintro en wA ⟨rfl, hbA⟩
    have HBA := hide hbA
    clear hbA
    have HW : Hid (StrsIn wA (.slice none 0 0) 0 g) := strsIn_nil _ _
    have KA := hide (HA.out wA HBA.out)
    go_wp2_with fail
    refine (KA.out).mono ?_
    rintro en w3 ⟨x3, err3, rfl, hE, hS3, hb3⟩
    have HB3 := hide (below_two HBA.out hb3)
    have KE := hide (error_right x err3 w3 (HG.out.below HG.out.lt HB3.out) hE)
    have HS3 := hide hS3
    have HW3 := hide (StrsIn.below HW.out hb3)
    clear hE hS3 hb3
    go_wp2_with fail
    refine (KE.out).mono ?_
    rintro en w4 ⟨rfl, hb4⟩
    have KS := hide (sstrs_same x3 (.slice none 0 0) 0 g w4 (by omega) (HS3.out.below hb4) (HW3.out.below hb4))
    have HB4 := hide (below_two HB3.out hb4)
    clear hb4
    go_wp2_with fail
    refine (KS.out).mono ?_
    rintro en w5 ⟨rfl, hb5⟩
    have HB5 := hide (below_two HB4.out hb5)
    have KR := hide (HHR.out w5 HB5.out)
    clear hb5
    go_wp2_with fail
    refine (KR.out).mono ?_
    rintro en w6 ⟨x6, rfl, hS6, hb6⟩
    have HB6 := hide (below_two HB5.out hb6)
    have HS6 := hide hS6
    have KH := hide (HH.out w6 HB6.out)
    clear hS6 hb6
    go_wp2_with fail
    refine (KH.out).mono ?_
    rintro en w7 ⟨x7, err7, rfl, hE7, hS7, hb7⟩
    have HB7 := hide (below_two HB6.out hb7)
    have KE7 := hide (error_right eH err7 w7 (HG.out.below HG.out.lt HB7.out) hE7)
    have HS7 := hide hS7
    have HW7 := hide (StrsIn.below HS6.out hb7)
    clear hE7 hS7 hb7
    go_wp2_with fail
    refine (KE7.out).mono ?_
    rintro en w8 ⟨rfl, hb8⟩
    have KS8 := hide (sstrs_same x7 x6 nH fH w8 (by omega) (HS7.out.below hb8) (HW7.out.below hb8))
    have HB8 := hide (below_two HB7.out hb8)
    clear hb8
    go_wp2_with fail
    refine (KS8.out).mono ?_
    rintro en w9 ⟨rfl, hb9⟩
    have HB9 := hide (below_two HB8.out hb9)
    clear hb9
    go_wp2
    go_ret
    exact ⟨rfl, HB9.out⟩
  · subst hve
    have hn0 := hB.pos
    have hn16 := hB.most
    have HBK := hide hB
    have K1 := hide (rblocks_ok b o len cap g w hB.pos hB.most hB.cells hB.one hB.eight hB.same)
    clear hv hv2 hu hav
    by_cases he : each < 1
    · have HA := hide (add_err g fun w1 hb => add_range b o len cap each g w1 (hB.below hb) (Or.inl he))
      clear hB
      go_enter Tryd.func3, Tryd.ntmps3
      go_wp2_with fail
      refine (K1.out).mono ?_
      rintro en wA ⟨rfl, hbA⟩
      have HBA := hide hbA
      clear hbA
      have HW : Hid (StrsIn wA (.slice none 0 0) 0 g) := strsIn_nil _ _
      have KA := hide (HA.out wA HBA.out)
      go_wp2_with fail
      refine (KA.out).mono ?_
      rintro en w3 ⟨x3, err3, rfl, hE, hS3, hb3⟩
      have HB3 := hide (below_two HBA.out hb3)
      have KE := hide (error_right 1 err3 w3 (HG.out.below HG.out.lt HB3.out) hE)
      have HS3 := hide hS3
      have HW3 := hide (StrsIn.below HW.out hb3)
      clear hE hS3 hb3
      go_wp2_with fail
      refine (KE.out).mono ?_
      rintro en w4 ⟨rfl, hb4⟩
      have KS := hide (sstrs_same x3 (.slice none 0 0) 0 g w4 (by omega) (HS3.out.below hb4) (HW3.out.below hb4))
      have HB4 := hide (below_two HB3.out hb4)
      clear hb4
      go_wp2_with fail
      refine (KS.out).mono ?_
      rintro en w5 ⟨rfl, hb5⟩
      have HB5 := hide (below_two HB4.out hb5)
      have KR := hide (HHR.out w5 HB5.out)
      clear hb5
      go_wp2_with fail
      refine (KR.out).mono ?_
      rintro en w6 ⟨x6, rfl, hS6, hb6⟩
      have HB6 := hide (below_two HB5.out hb6)
      have HS6 := hide hS6
      have KH := hide (HH.out w6 HB6.out)
      clear hS6 hb6
      go_wp2_with fail
      refine (KH.out).mono ?_
      rintro en w7 ⟨x7, err7, rfl, hE7, hS7, hb7⟩
      have HB7 := hide (below_two HB6.out hb7)
      have KE7 := hide (error_right eH err7 w7 (HG.out.below HG.out.lt HB7.out) hE7)
      have HS7 := hide hS7
      have HW7 := hide (StrsIn.below HS6.out hb7)
      clear hE7 hS7 hb7
      go_wp2_with fail
      refine (KE7.out).mono ?_
      rintro en w8 ⟨rfl, hb8⟩
      have KS8 := hide (sstrs_same x7 x6 nH fH w8 (by omega) (HS7.out.below hb8) (HW7.out.below hb8))
      have HB8 := hide (below_two HB7.out hb8)
      clear hb8
      go_wp2_with fail
      refine (KS8.out).mono ?_
      rintro en w9 ⟨rfl, hb9⟩
      have HB9 := hide (below_two HB8.out hb9)
      clear hb9
      go_wp2
      go_ret
      exact ⟨rfl, HB9.out⟩
    by_cases he2 : 16 < each
    · have HA := hide (add_err g fun w1 hb => add_range b o len cap each g w1 (hB.below hb) (Or.inr he2))
      clear hB
      go_enter Tryd.func3, Tryd.ntmps3
      go_wp2_with fail
      refine (K1.out).mono ?_
      rintro en wA ⟨rfl, hbA⟩
      have HBA := hide hbA
      clear hbA
      have HW : Hid (StrsIn wA (.slice none 0 0) 0 g) := strsIn_nil _ _
      have KA := hide (HA.out wA HBA.out)
      go_wp2_with fail
      refine (KA.out).mono ?_
      rintro en w3 ⟨x3, err3, rfl, hE, hS3, hb3⟩
      have HB3 := hide (below_two HBA.out hb3)
      have KE := hide (error_right 1 err3 w3 (HG.out.below HG.out.lt HB3.out) hE)
      have HS3 := hide hS3
      have HW3 := hide (StrsIn.below HW.out hb3)
      clear hE hS3 hb3
      go_wp2_with fail
      refine (KE.out).mono ?_
      rintro en w4 ⟨rfl, hb4⟩
      have KS := hide (sstrs_same x3 (.slice none 0 0) 0 g w4 (by omega) (HS3.out.below hb4) (HW3.out.below hb4))
      have HB4 := hide (below_two HB3.out hb4)
      clear hb4
      go_wp2_with fail
      refine (KS.out).mono ?_
      rintro en w5 ⟨rfl, hb5⟩
      have HB5 := hide (below_two HB4.out hb5)
      have KR := hide (HHR.out w5 HB5.out)
      clear hb5
      go_wp2_with fail
      refine (KR.out).mono ?_
      rintro en w6 ⟨x6, rfl, hS6, hb6⟩
      have HB6 := hide (below_two HB5.out hb6)
      have HS6 := hide hS6
      have KH := hide (HH.out w6 HB6.out)
      clear hS6 hb6
      go_wp2_with fail
      refine (KH.out).mono ?_
      rintro en w7 ⟨x7, err7, rfl, hE7, hS7, hb7⟩
      have HB7 := hide (below_two HB6.out hb7)
      have KE7 := hide (error_right eH err7 w7 (HG.out.below HG.out.lt HB7.out) hE7)
      have HS7 := hide hS7
      have HW7 := hide (StrsIn.below HS6.out hb7)
      clear hE7 hS7 hb7
      go_wp2_with fail
      refine (KE7.out).mono ?_
      rintro en w8 ⟨rfl, hb8⟩
      have KS8 := hide (sstrs_same x7 x6 nH fH w8 (by omega) (HS7.out.below hb8) (HW7.out.below hb8))
      have HB8 := hide (below_two HB7.out hb8)
      clear hb8
      go_wp2_with fail
      refine (KS8.out).mono ?_
      rintro en w9 ⟨rfl, hb9⟩
      have HB9 := hide (below_two HB8.out hb9)
      clear hb9
      go_wp2
      go_ret
      exact ⟨rfl, HB9.out⟩
    obtain ⟨d, rfl⟩ : ∃ d : Nat, each = (d : Nat) := ⟨each.toNat, by omega⟩
    have hd1 : 1 ≤ d := by omega
    have hd2 : d ≤ 16 := by omega
    have KG := hide (fun W => rgroups_ok len d W hn16 hd1 hd2)
    have hgn := gN_le len d hd1
    by_cases hf : len + gN len d ≤ 16
    · have HA : Hid (∀ w1, Below w.heap.size w w1 → Calls Tryd.prog 8 #[.slice (some ⟨b, o, none⟩) len cap, .int .i64 (d : Nat)] w1 (Ans 0 (len + gN len d) (addG g len d) w1)) := fun w1 hb => (add_ok b o len cap d g w1 (hB.below hb) hd1 hd2 hf).mono (by
        rintro e w' ⟨v', rfl, hrow, hb'⟩
        exact ⟨_, _, rfl, Or.inl ⟨rfl, rfl⟩, strsIn_own hrow (by omega), hb'⟩)
      have HRA : Hid (∀ w1, Below w.heap.size w w1 → Calls Tryd.prog 7 #[.slice (some ⟨b, o, none⟩) len cap, .int .i64 (d : Nat)] w1 fun e w' => ∃ v, e = .returned v ∧ StrsIn w' v (len + gN len d) (addG g len d) ∧ Below w1.heap.size w1 w') := fun w1 hb => (radd_ok b o len cap d g w1 (hB.below hb) hd1 hd2 hf).mono (by
        rintro e w' ⟨v', rfl, hrow, hb'⟩
        exact ⟨_, rfl, strsIn_own hrow (by omega), hb'⟩)
      obtain ⟨T, hT⟩ : ∃ T, T = len + gN len d := ⟨_, rfl⟩
      have hfI : ¬ (16 : Int) < (len : Int) + ((gN len d : Nat) : Int) := by omega
      rw [← hT] at HA HRA hf
      generalize hGE : ((gN len d : Nat) : Int) = GI at *
      have hGI : 0 ≤ GI ∧ GI ≤ 16 := by omega
      obtain ⟨hG1, hG2⟩ := hGI
      clear hB hT hGE
      go_enter Tryd.func3, Tryd.ntmps3
      go_wp2_with fail
      refine (K1.out).mono ?_
      rintro en w0 ⟨rfl, hb0⟩
      have HB0 := hide hb0
      clear hb0
      have KRA := hide (HRA.out w0 HB0.out)
      go_wp2_with fail
      refine (KG.out _).mono ?_
      rintro en w00 ⟨rfl, hw00⟩
      subst hw00
      go_wp2_with fail
      refine (KRA.out).mono ?_
      rintro en wA ⟨vW, rfl, hSW, hbA⟩
      have HW := hide hSW
      have HBA := hide (below_two HB0.out hbA)
      clear hSW hbA
      have KA := hide (HA.out wA HBA.out)
      go_wp2_with fail
      refine (KA.out).mono ?_
      rintro en w3 ⟨x3, err3, rfl, hE, hS3, hb3⟩
      have HB3 := hide (below_two HBA.out hb3)
      have KE := hide (error_right 0 err3 w3 (HG.out.below HG.out.lt HB3.out) hE)
      have HS3 := hide hS3
      have HW3 := hide (StrsIn.below HW.out hb3)
      clear hE hS3 hb3
      go_wp2_with fail
      refine (KE.out).mono ?_
      rintro en w4 ⟨rfl, hb4⟩
      have KS := hide (sstrs_same x3 vW T (addG g len d) w4 (by omega) (HS3.out.below hb4) (HW3.out.below hb4))
      have HB4 := hide (below_two HB3.out hb4)
      clear hb4
      go_wp2_with fail
      refine (KS.out).mono ?_
      rintro en w5 ⟨rfl, hb5⟩
      have HB5 := hide (below_two HB4.out hb5)
      have KR := hide (HHR.out w5 HB5.out)
      clear hb5
      go_wp2_with fail
      refine (KR.out).mono ?_
      rintro en w6 ⟨x6, rfl, hS6, hb6⟩
      have HB6 := hide (below_two HB5.out hb6)
      have HS6 := hide hS6
      have KH := hide (HH.out w6 HB6.out)
      clear hS6 hb6
      go_wp2_with fail
      refine (KH.out).mono ?_
      rintro en w7 ⟨x7, err7, rfl, hE7, hS7, hb7⟩
      have HB7 := hide (below_two HB6.out hb7)
      have KE7 := hide (error_right eH err7 w7 (HG.out.below HG.out.lt HB7.out) hE7)
      have HS7 := hide hS7
      have HW7 := hide (StrsIn.below HS6.out hb7)
      clear hE7 hS7 hb7
      go_wp2_with fail
      refine (KE7.out).mono ?_
      rintro en w8 ⟨rfl, hb8⟩
      have KS8 := hide (sstrs_same x7 x6 nH fH w8 (by omega) (HS7.out.below hb8) (HW7.out.below hb8))
      have HB8 := hide (below_two HB7.out hb8)
      clear hb8
      go_wp2_with fail
      refine (KS8.out).mono ?_
      rintro en w9 ⟨rfl, hb9⟩
      have HB9 := hide (below_two HB8.out hb9)
      clear hb9
      go_wp2
      go_ret
      exact ⟨rfl, HB9.out⟩
    · have HA := hide (add_err g fun w1 hb => add_full b o len cap d g w1 (hB.below hb) hd1 hd2 (by omega))
      have hfI : (16 : Int) < (len : Int) + ((gN len d : Nat) : Int) := by omega
      generalize hGE : ((gN len d : Nat) : Int) = GI at *
      have hGI : 0 ≤ GI ∧ GI ≤ 16 := by omega
      obtain ⟨hG1, hG2⟩ := hGI
      clear hB hf hGE
      go_enter Tryd.func3, Tryd.ntmps3
      go_wp2_with fail
      refine (K1.out).mono ?_
      rintro en wA ⟨rfl, hbA⟩
      have HBA := hide hbA
      clear hbA
      have HW : Hid (StrsIn wA (.slice none 0 0) 0 g) := strsIn_nil _ _
      go_wp2_with fail
      refine (KG.out _).mono ?_
      rintro en w00 ⟨rfl, hw00⟩
      subst hw00
      have KA := hide (HA.out wA HBA.out)
      go_wp2_with fail
      refine (KA.out).mono ?_
      rintro en w3 ⟨x3, err3, rfl, hE, hS3, hb3⟩
      have HB3 := hide (below_two HBA.out hb3)
      have KE := hide (error_right 4 err3 w3 (HG.out.below HG.out.lt HB3.out) hE)
      have HS3 := hide hS3
      have HW3 := hide (StrsIn.below HW.out hb3)
      clear hE hS3 hb3
      go_wp2_with fail
      refine (KE.out).mono ?_
      rintro en w4 ⟨rfl, hb4⟩
      have KS := hide (sstrs_same x3 (.slice none 0 0) 0 g w4 (by omega) (HS3.out.below hb4) (HW3.out.below hb4))
      have HB4 := hide (below_two HB3.out hb4)
      clear hb4
      go_wp2_with fail
      refine (KS.out).mono ?_
      rintro en w5 ⟨rfl, hb5⟩
      have HB5 := hide (below_two HB4.out hb5)
      have KR := hide (HHR.out w5 HB5.out)
      clear hb5
      go_wp2_with fail
      refine (KR.out).mono ?_
      rintro en w6 ⟨x6, rfl, hS6, hb6⟩
      have HB6 := hide (below_two HB5.out hb6)
      have HS6 := hide hS6
      have KH := hide (HH.out w6 HB6.out)
      clear hS6 hb6
      go_wp2_with fail
      refine (KH.out).mono ?_
      rintro en w7 ⟨x7, err7, rfl, hE7, hS7, hb7⟩
      have HB7 := hide (below_two HB6.out hb7)
      have KE7 := hide (error_right eH err7 w7 (HG.out.below HG.out.lt HB7.out) hE7)
      have HS7 := hide hS7
      have HW7 := hide (StrsIn.below HS6.out hb7)
      clear hE7 hS7 hb7
      go_wp2_with fail
      refine (KE7.out).mono ?_
      rintro en w8 ⟨rfl, hb8⟩
      have KS8 := hide (sstrs_same x7 x6 nH fH w8 (by omega) (HS7.out.below hb8) (HW7.out.below hb8))
      have HB8 := hide (below_two HB7.out hb8)
      clear hb8
      go_wp2_with fail
      refine (KS8.out).mono ?_
      rintro en w9 ⟨rfl, hb9⟩
      have HB9 := hide (below_two HB8.out hb9)
      clear hb9
      go_wp2
      go_ret
      exact ⟨rfl, HB9.out⟩
end Go.Proofs.YtmmlcomfkikomaaDoor
