/-
  The walk of 'dropletmill/droplaw4.AirFull'. Lemmas for the law above; no statement is proved here.
-/
import Derived.Test.YtjoklnalkehegaaDoorAirK
import Derived.Test.YtjoklnalkehegaaDoorErrIs
import Derived.Deep.DeepCutAuto
namespace Go.Proofs.YtjoklnalkehegaaDoor
open Go.RowKit Go.Maps
set_option linter.unusedVariables false
set_option maxRecDepth 100000

theorem rep_at {q : Nat} (h : 0 < q) (d : Drp) : dAt (List.replicate q d) 0 = d := by
  cases q with
  | zero => omega
  | succ q => simp [dAt, List.replicate_succ]

set_option maxHeartbeats 4000000 in
theorem airFull_walk (s : Int) (data : ByteArray) (hd : data.size ≤ maxLen) (n : Int) (W : World) (hg : HasErr W) :
    Calls Tryd.prog 3 #[dropV s data, .int .i64 n] W fun e w' => e = .returned (.bool true) ∧ Below W.heap.size W w' := by
  have hb0 : Below W.heap.size W (W.alloc (.cells #[.int .i64 s, .string data] 23)) := (Below.refl _ _).alloc (Nat.le_refl _) _
  have D0 := hide (dropIn_new W s data)
  have HG := hide (hg.below hg.lt hb0)
  have HGL := hide (Nat.lt_of_lt_of_le hg.lt hb0.size)
  have FIN := hide (fun w' (h : Below (W.alloc (.cells #[.int .i64 s, .string data] 23)).heap.size (W.alloc (.cells #[.int .i64 s, .string data] 23)) w') => below_two hb0 h)
  have hsz : W.heap.size < (W.alloc (.cells #[.int .i64 s, .string data] 23)).heap.size := by simp
  generalize hsb : W.heap.size = sb at *
  clear hb0 hg
  unfold dropV
  go_enter Tryd.func3, Tryd.ntmps3
  go_upto_region 1 with fail
  generalize W.alloc (.cells #[.int .i64 s, .string data] 23) = w0 at *
  have N := hide (anew_ok w0.heap.size w0 (Nat.le_refl _))
  go_wp2_with fail
  refine (N.out).mono ?_
  rintro e w1 ⟨rfl, hq1, hb1⟩
  have HQ1 := hide hq1
  have HB1 := hide hb1
  clear hq1 hb1 N
  go_upto_region 2 with fail
  go_cut [22] (fun t wx => ∃ (r : Bool) (X : List Drp), t = .bool r ∧ AirAt w0 wx w0.heap.size X ∧ (r = true → X.length ≤ 1) ∧ (r = false → ∃ m k : Nat, s = m ∧ n = k ∧ 1 ≤ k ∧ k ≤ 90 ∧ (1 ≤ m ∧ m ≤ 10000 ∧ 1 ≤ data.size ∧ data.size ≤ 8) ∧ X = [(m, data)]))
  case first =>
    obtain ⟨⟨c0, _⟩, c1, _⟩ := D0.out.below HB1.out
    simp only [Nat.zero_add] at c1
    by_cases hf : aF 0 s data.size = 0
    · obtain ⟨f1, f2, f3, f4, f5⟩ := aF_ok hf
      obtain ⟨m, rfl⟩ : ∃ m : Nat, s = m := ⟨s.toNat, by omega⟩
      have K := hide (asend_ok m data HQ1.out hf)
      have HX := hide (fun w2 (h : Moved w1 w0.heap.size w0.heap.size (.slice none 0 0) ([] ++ [(m, data)]) w2) => h.at HQ1.out HB1.out)
      unfold dropV at K
      clear hf
      by_cases h1 : n < 1
      · go_wp2_with fail
        refine (K.out).mono ?_
        rintro e w2 ⟨rfl, hm⟩
        have HM := hide (HX.out _ hm)
        clear hm K
        go_wp2
        go_meet
        exact ⟨true, _, by first | rfl | simp, HM.out, (fun _ => by simp), (fun h => by cases h)⟩
      · by_cases h2 : 90 < n
        · go_wp2_with fail
          refine (K.out).mono ?_
          rintro e w2 ⟨rfl, hm⟩
          have HM := hide (HX.out _ hm)
          clear hm K
          go_wp2
          go_meet
          exact ⟨true, _, by first | rfl | simp, HM.out, (fun _ => by simp), (fun h => by cases h)⟩
        · go_wp2_with fail
          refine (K.out).mono ?_
          rintro e w2 ⟨rfl, hm⟩
          have HM := hide (HX.out _ hm)
          clear hm K
          go_wp2
          go_meet
          exact ⟨false, _, by first | rfl | (simp <;> omega), HM.out, (fun h => by cases h), (fun _ => ⟨m, n.toNat, rfl, by omega, by omega, by omega, ⟨by omega, by omega, f3, f4⟩, rfl⟩)⟩
    · have K := hide (asend_bad s data HQ1.out hd hf)
      unfold dropV at K
      generalize (aF ([] : List Drp).length s data.size : Nat) = f at *
      clear hf
      go_wp2_with fail
      refine (K.out).mono ?_
      rintro e w2 ⟨rfl, hb2⟩
      have HM : Hid (AirAt w0 w2 w0.heap.size []) := AirAt.below ⟨_, HQ1.out, HB1.out⟩ hb2
      clear hb2 K
      go_wp2
      go_meet
      exact ⟨true, _, by first | rfl | simp, HM.out, (fun _ => by simp), (fun h => by cases h)⟩
  case rest =>
  obtain ⟨r, X, rfl, hA, hr1, hr2⟩ := hcut
  have HA := hide hA
  have HR1 := hide hr1
  have HR2 := hide hr2
  clear hA hr1 hr2 HQ1 HB1
  cases r with
  | true =>
    have hX := HR1.out rfl
    clear HR1 HR2
    obtain ⟨v, hq, hb⟩ := HA.out
    have HQ := hide hq
    have HB := hide hb
    have K := hide (aall_ok hq)
    clear hq hb HA
    go_wp2_with fail
    refine (K.out).mono ?_
    rintro e w2 ⟨v2, rfl, ho, hb2⟩
    obtain ⟨a2, c2, rfl, q1, q2⟩ := own_slice ho
    have L := hide (alose_out (i := 1) (HQ.out.below hb2) (Or.inr (by omega)))
    have HB2 := hide (below_two HB.out hb2)
    clear ho hb2 K q1 q2
    have hXi : (X.length : Int) ≤ 1 := by omega
    go_wp2_with fail
    refine (L.out).mono ?_
    rintro e w3 ⟨rfl, rfl⟩
    go_wp2
    go_ret
    exact ⟨rfl, FIN.out _ HB2.out⟩
  | false =>
    obtain ⟨m, k, rfl, rfl, hk1, hk2, hgd, rfl⟩ := HR2.out rfl
    clear HR1 HR2
    have HGd := hide hgd
    clear hgd
    go_wp2
    go_loopw [6] (fun i wr => ∃ j : Nat, 1 ≤ j ∧ j ≤ k ∧ i = .int .i64 j ∧ AirAt w0 wr w0.heap.size (List.replicate (min j 60) (m, data))) (fun i _ => k - (intOf i).toNat)
    case atStart => exact ⟨1, Nat.le_refl _, hk1, rfl, by rw [show min 1 60 = 1 by omega]; exact HA.out⟩
    case round =>
      obtain ⟨j, hj1, hjk, rfl, hA⟩ := hrel
      obtain ⟨v, hq, hb⟩ := hA
      have HQ := hide hq
      have HB := hide hb
      have hlen : (List.replicate (min j 60) ((m, data) : Drp)).length = min j 60 := List.length_replicate
      have hdat := rep_at (q := min j 60) (by omega) (m, data)
      clear hq hb
      by_cases hlt : j < k
      · have T : Calls Tryd.prog 9 #[.pointer (some ⟨w0.heap.size, 0, none⟩), .int .i64 0] wr fun e w' => e = .returned (aErr (aF (min j 60) (m : Nat) data.size)) ∧ AirAt w0 w' w0.heap.size (aPut (List.replicate (min j 60) (m, data)) (m : Nat) data) := by
          have h9 := atwice_in (i := 0) HQ.out (by rw [hlen]; omega)
          rw [hdat, hlen] at h9
          exact h9.mono fun e w' ⟨he, hm⟩ => ⟨he, hm.at HQ.out HB.out⟩
        have hF : aF (min j 60) (m : Nat) data.size = if 60 ≤ min j 60 then 4 else 0 := aF_of_good (d := (m, data)) HGd.out
        unfold aPut aErr at T
        rw [hlen, hF] at T
        clear hF hdat
        by_cases c : j < 60
        · have e1 : ¬ 60 ≤ min j 60 := by omega
          rw [if_neg e1, if_pos rfl, if_pos rfl] at T
          have HX : Hid (List.replicate (min j 60) ((m, data) : Drp) ++ [(((m : Nat) : Int).toNat, data)] = List.replicate (min (j + 1) 60) (m, data)) := by
            unfold Hid
            rw [show min j 60 = j by omega, show min (j + 1) 60 = j + 1 by omega, List.replicate_succ']
            rfl
          have K := hide T
          have ci : (j : Int) < 60 := by omega
          clear T hlen e1
          go_wp2_with fail
          refine (K.out).mono ?_
          rintro e w2 ⟨rfl, hm⟩
          rw [HX.out] at hm
          have HM := hide hm
          clear hm K
          go_wp2
          go_roundw
          case rel => exact ⟨j + 1, by omega, by omega, by go_num, HM.out⟩
          case measure => simp [intOf]; omega
        · have e1 : 60 ≤ min j 60 := by omega
          rw [if_pos e1, if_neg (by omega), if_neg (by omega)] at T
          have HX : Hid (List.replicate (min j 60) ((m, data) : Drp) = List.replicate (min (j + 1) 60) (m, data)) := by
            unfold Hid
            rw [show min j 60 = 60 by omega, show min (j + 1) 60 = 60 by omega]
          have K := hide T
          have ci : ¬ (j : Int) < 60 := by omega
          clear T hlen e1
          go_wp2_with fail
          refine (K.out).mono ?_
          rintro e w2 ⟨rfl, hm⟩
          rw [HX.out] at hm
          obtain ⟨v2, hq2, hb2⟩ := hm
          have HQ2 := hide hq2
          have HB2 := hide hb2
          have E := hide (error_right 4 _ w2 (HG.out.below HGL.out hb2) (Or.inr rfl))
          clear hq2 hb2 K
          go_wp2_with fail
          refine (E.out).mono ?_
          rintro e w3 ⟨rfl, hb3⟩
          have HM := hide (AirAt.below ⟨_, HQ2.out, HB2.out⟩ hb3)
          clear hb3 E
          go_wp2
          go_roundw
          case rel => exact ⟨j + 1, by omega, by omega, by go_num, HM.out⟩
          case measure => simp [intOf]; omega
      · obtain rfl : j = k := by omega
        have G : Calls Tryd.prog 11 #[.pointer (some ⟨w0.heap.size, 0, none⟩), .int .i64 0] wr fun e w' => e = .returned (.tuple #[dropV (m : Nat) data, .nilIface]) ∧ AirAt w0 w' w0.heap.size ((List.replicate (min j 60) (m, data)).eraseIdx 0) := by
          have h9 := agive_in (i := 0) HQ.out (by rw [hlen]; omega)
          rw [hdat] at h9
          exact h9.mono fun e w' ⟨he, hm⟩ => ⟨he, hm.at HQ.out HB.out⟩
        have hel : ((List.replicate (min j 60) ((m, data) : Drp)).eraseIdx 0).length < 60 := by
          rw [List.length_eraseIdx_of_lt (by rw [hlen]; omega), hlen]; omega
        generalize (List.replicate (min j 60) ((m, data) : Drp)).eraseIdx 0 = X at *
        have hf : aF X.length (m : Nat) data.size = 0 := by
          rw [aF_of_good (d := (m, data)) HGd.out, if_neg (by omega)]
        have HF := hide hf
        have K := hide G
        unfold dropV at K
        clear G hlen hdat hel hf
        go_wp2_with fail
        refine (K.out).mono ?_
        rintro e w2 ⟨rfl, hm⟩
        obtain ⟨v2, hq2, hb2⟩ := hm
        have HQ2 := hide hq2
        have HB2 := hide hb2
        have hbA : Below w2.heap.size w2 (w2.alloc (.cells #[.int .i64 (m : Nat), .string data] 23)) := (Below.refl _ _).alloc (Nat.le_refl _) _
        have S := hide (asend_ok m data (hq2.below hbA) HF.out)
        have HB3 := hide (below_two hb2 hbA)
        obtain ⟨⟨c0, _⟩, c1, _⟩ := D0.out.below HB3.out
        obtain ⟨⟨e0, _⟩, e1, _⟩ := dropIn_new w2 (m : Nat) data
        simp only [Nat.zero_add] at c1 e1
        unfold dropV at S
        clear hq2 hb2 hbA K
        go_wp2_with fail
        refine (S.out).mono ?_
        rintro e w3 ⟨rfl, hm⟩
        have HM := hide (hm.at (HQ2.out.below ((Below.refl _ _).alloc (Nat.le_refl _) _)) HB3.out)
        clear hm S
        go_wp2
        go_ret
        obtain ⟨v4, _, hb4⟩ := HM.out
        exact ⟨rfl, FIN.out _ hb4⟩
end Go.Proofs.YtjoklnalkehegaaDoor
