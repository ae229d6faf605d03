/-
  Walks of MixTells where the blocks are right and some are named. Lemmas for the law above; no statement is proved here.
-/
import Derived.Test.YtgdfoahpkiglhaaDoorMTellsA
namespace Go.Proofs.YtgdfoahpkiglhaaDoor
open Go.RowKit
set_option linter.unusedVariables false
set_option maxRecDepth 100000

set_option maxHeartbeats 4000000 in
theorem tells_good (a b : ByteArray) (ha : a.size ≤ maxLen) (hb : b.size ≤ maxLen) (b1 o1 len cap1 b2 o2 n cap2 : Nat) (g : Nat → ByteArray) (f : Nat → Int) (z : Int) (w : World) (hg : HasErr w) (hlen : len ≤ 16) (h0 : 0 < n) (hnc : n ≤ cap2) (hc : cap2 ≤ maxLen) (hB : BlocksSay (.slice (some ⟨b1, o1, none⟩) len cap1) 0 w) (hcell2 : ∀ i, i < n → w.cell? ⟨b2, o2 + i, none⟩ = some (.int .i64 (f i))) (hgood : ∀ i, i < n → goodAt f len i)
    (hR : ∀ w1, Below w.heap.size w w1 → Calls Tryd.prog 18 #[.slice (some ⟨b1, o1, none⟩) len cap1, .slice (some ⟨b2, o2, none⟩) n cap2] w1 fun e w' => e = .returned (.string (sumB g f n)) ∧ Below w1.heap.size w1 w')
    (hS : ∀ w1, Below w.heap.size w w1 → Calls Tryd.prog 19 #[.slice (some ⟨b1, o1, none⟩) len cap1, .slice (some ⟨b2, o2, none⟩) n cap2] w1 fun e w' => e = .returned (.tuple #[.string (sumB g f n), .nilIface]) ∧ Below w1.heap.size w1 w') :
    Calls Tryd.prog 5 #[.string a, .string b, .slice (some ⟨b1, o1, none⟩) len cap1, .slice (some ⟨b2, o2, none⟩) n cap2, .int .i64 z] w fun e w' => e = .returned (.bool true) ∧ Below w.heap.size w w' := by
  have KB := hide hB
  have KS := hide hS
  have HC2 := hide hcell2
  unfold maxLen at hc
  have hn0 : ((n : Int) == 0) = false := by rw [beq_eq_false_iff_ne]; omega
  have KR2 := hide hR
  have HGood := hide hgood
  clear hB hS hcell2 hR hgood
  generalize sumB g f n = sum at *
  have HG := hide hg
  have hgl := hg.lt
  have HGL := hide hgl
  have HA := hide ha
  have HB := hide hb
  clear hg hgl ha hb
  go_enter Tryd.func5, Tryd.ntmps5
  go_upto_region 3 with fail
  go_cut [27] (fun t wx => ∃ r : Bool, t = .bool r ∧ (r = true ↔ (120 < a.size ∨ 120 < b.size)) ∧ w = wx)
  case first =>
    have ha := HA.out
    have hb := HB.out
    unfold maxLen at ha hb
    by_cases h1 : 120 < a.size
    · go_wp2
      go_meet
      exact ⟨true, rfl, ⟨fun _ => Or.inl h1, fun _ => rfl⟩, rfl⟩
    · by_cases h2 : 120 < b.size
      · go_wp2
        go_meet
        exact ⟨true, by first | rfl | simp <;> omega, ⟨fun _ => Or.inr h2, fun _ => rfl⟩, rfl⟩
      · go_wp2
        go_meet
        exact ⟨false, by first | rfl | simp <;> omega, ⟨fun h => Bool.noConfusion h, fun h => by omega⟩, rfl⟩
  case rest =>
  obtain ⟨r, rfl, hr, rfl⟩ := hcut
  have HR := hide hr
  clear hr
  go_upto_if 27 with fail
  go_cut [11, 12] (fun e want wx => ∃ (x : Int) (s : ByteArray), e = .int .i64 x ∧ want = .string s ∧ XorSays a b x s ∧ Below w.heap.size w wx)
  case first =>
    by_cases h : 120 < a.size ∨ 120 < b.size
    · obtain rfl : r = true := HR.out.2 h
      have KX := hide (xor_says_err (fun w1 => xor_full a b w1 HA.out HB.out h))
      clear h
      go_wp2
      go_meet
      exact ⟨4, _, rfl, rfl, KX.out, Below.refl _ _⟩
    · obtain rfl : r = false := by
        cases r with
        | false => rfl
        | true => exact absurd (HR.out.1 rfl) h
      have h1 : a.size ≤ 120 := by omega
      have h2 : b.size ≤ 120 := by omega
      by_cases h3 : b.size = a.size
      · have KX := hide (xor_says_ok h1 h3)
        have KR := hide (fun w1 => rxor_ok a b w1 h1 h3)
        have hne : ((a.size : Int) != (b.size : Int)) = false := by rw [h3]; simp
        clear h h3
        go_wp2_with fail
        refine (KR.out _).mono ?_
        rintro e w1 ⟨rfl, hb1⟩
        go_wp2
        go_meet
        exact ⟨0, _, rfl, rfl, KX.out, hb1⟩
      · have KX := hide (xor_says_err (fun w1 => xor_shape a b w1 h1 h2 (fun e => h3 e.symm)))
        have hne : ((a.size : Int) != (b.size : Int)) = true := by rw [bne_iff_ne]; omega
        clear h h3
        go_wp2
        go_meet
        exact ⟨3, _, rfl, rfl, KX.out, Below.refl _ _⟩
  case rest =>
  obtain ⟨x, s, rfl, rfl, hX, hb0⟩ := hcut
  have KX := hide hX
  clear hX
  go_wp2_with fail
  refine (KX.out _).mono ?_
  rintro e w1 ⟨err1, herr1, rfl, hb1⟩
  have b1 := below_two hb0 hb1
  have E1 := hide (error_right x err1 w1 (HG.out.below HGL.out b1) herr1)
  clear hb0 hb1 KX herr1
  go_wp2_with fail
  refine (E1.out).mono ?_
  rintro e w2 ⟨rfl, hb2⟩
  have b2 := below_two b1 hb2
  clear b1 hb2 E1
  go_wp2_with fail
  refine (KB.out _ b2).mono ?_
  rintro e w3 ⟨rfl, hb3⟩
  have b3 := below_two b2 hb3
  clear b2 hb3 KB
  go_wp2
  go_loopw [11, 16, 17] (fun e i h wr => ∃ j : Nat, j ≤ n ∧ e = .int .i64 0 ∧ i = .int .i64 j ∧ Below w3.heap.size w3 wr) (fun _ i _ _ => n - (intOf i).toNat)
  case atStart => exact ⟨0, Nat.zero_le _, rfl, rfl, Below.refl _ _⟩
  case round =>
    obtain ⟨j, hj, rfl, rfl, hbr⟩ := hrel
    by_cases hlt : j < n
    · -- one more
      have hb2 := below_two b3 hbr
      have hjn : (j : Int) < (n : Int) := by omega
      have hjc : (j : Int) ≤ (cap2 : Int) := by omega
      have hcm : ∀ m, (wr.drewN m).cell? ⟨b2, o2 + j, none⟩ = some (.int .i64 (f j)) := fun m => cell_below (below_drewN hb2 m) (HC2.out j (by omega))
      have hcj := cell_below hb2 (HC2.out j (by omega))
      obtain ⟨⟨hf0, hf1⟩, hf2⟩ := HGood.out j hlt
      have HIn : Hid (∀ m c : Nat, Calls Tryd.prog 17 #[.slice (some ⟨b2, o2, none⟩) j c, .int .i64 (f j)] (wr.drewN m) fun e w' => e = .returned (.bool false) ∧ w' = wr.drewN m) := fun m c =>
        (rin_no b2 o2 j c (f j) f (wr.drewN m) (by unfold maxLen; omega) (fun i hi => cell_below (below_drewN hb2 m) (HC2.out i (by omega))) hf2).mono fun e w' ⟨h1, h2⟩ => ⟨h1, h2.symm⟩
      have hf0' : ¬ f j < 0 := by omega
      have hf1' : ¬ (len : Int) ≤ f j := by omega
      clear hf2 hf0 hf1
      go_wp2_with fail
      go_quiet ((go_at_call 17; exact Calls.quiet_of_same (HIn.out _ _)))
      go_wp2
      go_roundw
      case rel => exact ⟨j + 1, by omega, rfl, by go_num, below_drewN hbr _⟩
      case measure => simp [intOf]; omega
    · obtain rfl : j = n := by omega
      have b5 := below_two b3 hbr
      go_wp2_with fail
      refine (KR2.out _ b5).mono ?_
      rintro e w55 ⟨rfl, hb55⟩
      have b55 := below_two b5 hb55
      clear hb55 KR2
      go_wp2_with fail
      refine (KS.out _ b55).mono ?_
      rintro e w6 ⟨rfl, hb6⟩
      have b6 := below_two b55 hb6
      have E2 := hide (error_right 0 _ w6 (HG.out.below HGL.out b6) (Or.inl ⟨rfl, rfl⟩))
      clear hb6 KS b55
      go_wp2_with fail
      refine (E2.out).mono ?_
      rintro e w7 ⟨rfl, hb7⟩
      have b7 := below_two b6 hb7
      clear b6 hb7 E2
      go_upto_region 28 with fail
      go_cut [116] (fun t wx => ∃ r : Bool, t = .bool r ∧ (r = true ↔ (z < 1 ∨ 8 < z)) ∧ w7 = wx)
      case first =>
        by_cases h1 : z < 1
        · go_wp2
          go_meet
          exact ⟨true, rfl, ⟨fun _ => Or.inl h1, fun _ => rfl⟩, rfl⟩
        · by_cases h2 : 8 < z
          · go_wp2
            go_meet
            exact ⟨true, by first | rfl | simp <;> omega, ⟨fun _ => Or.inr h2, fun _ => rfl⟩, rfl⟩
          · go_wp2
            go_meet
            exact ⟨false, by first | rfl | simp <;> omega, ⟨fun h => Bool.noConfusion h, fun h => by omega⟩, rfl⟩
      case rest =>
      obtain ⟨r2, rfl, hr2, rfl⟩ := hcut
      have HR2 := hide hr2
      clear hr2
      go_upto_if 116 with fail
      go_cut [11, 12] (fun e want wx => ∃ (x : Int) (s : ByteArray), e = .int .i64 x ∧ want = .string s ∧ ZeroSays z x s ∧ Below w7.heap.size w7 wx)
      case first =>
        by_cases h : z < 1 ∨ 8 < z
        · obtain rfl : r2 = true := HR2.out.2 h
          have KZ := hide (zero_says_range h)
          clear h
          go_wp2
          go_meet
          exact ⟨1, _, rfl, rfl, KZ.out, Below.refl _ _⟩
        · obtain rfl : r2 = false := by
            cases r2 with
            | false => rfl
            | true => exact absurd (HR2.out.1 rfl) h
          obtain ⟨m, rfl⟩ := Int.eq_ofNat_of_zero_le (show 0 ≤ z by omega)
          have KZ := hide (zero_says_ok (n := m) (by omega) (by omega))
          have KR := hide (fun w1 => zero_any m w1 (by omega))
          clear h
          go_wp2_with fail
          refine (KR.out _).mono ?_
          rintro e w8 ⟨rfl, rfl⟩
          go_wp2
          go_meet
          exact ⟨0, _, rfl, rfl, KZ.out, Below.refl _ _⟩
      case rest =>
      obtain ⟨x3, s3, rfl, rfl, hZ, hb8⟩ := hcut
      have KZ := hide hZ
      have b8 := below_two b7 hb8
      clear hZ hb8 b7
      go_wp2_with fail
      refine (KZ.out _).mono ?_
      rintro e w9 ⟨err3, herr3, rfl, hb9⟩
      have b9 := below_two b8 hb9
      have E3 := hide (error_right x3 err3 w9 (HG.out.below HGL.out b9) herr3)
      clear b8 hb9 KZ herr3
      go_wp2_with fail
      refine (E3.out).mono ?_
      rintro e w10 ⟨rfl, hb10⟩
      have b10 := below_two b9 hb10
      go_wp2
      go_ret
      exact ⟨rfl, b10⟩

set_option maxHeartbeats 4000000 in
theorem tells_bad1 (a b : ByteArray) (ha : a.size ≤ maxLen) (hb : b.size ≤ maxLen) (b1 o1 len cap1 b2 o2 n cap2 : Nat) (g : Nat → ByteArray) (f : Nat → Int) (q : Nat) (z : Int) (w : World) (hg : HasErr w) (hlen : len ≤ 16) (h0 : 0 < n) (hnc : n ≤ cap2) (hc : cap2 ≤ maxLen) (hB : BlocksSay (.slice (some ⟨b1, o1, none⟩) len cap1) 0 w) (hcell2 : ∀ i, i < n → w.cell? ⟨b2, o2 + i, none⟩ = some (.int .i64 (f i))) (hq : q < n) (hgood : ∀ i, i < q → goodAt f len i) (hbad : ¬ goodAt f len q) (hq1 : q + 1 < n)
    (hS : SumFault (.slice (some ⟨b1, o1, none⟩) len cap1) (.slice (some ⟨b2, o2, none⟩) n cap2) (faultAt f len q) w) :
    Calls Tryd.prog 5 #[.string a, .string b, .slice (some ⟨b1, o1, none⟩) len cap1, .slice (some ⟨b2, o2, none⟩) n cap2, .int .i64 z] w fun e w' => e = .returned (.bool true) ∧ Below w.heap.size w w' := by
  have KB := hide hB
  have KS := hide hS
  have HC2 := hide hcell2
  unfold maxLen at hc
  have hn0 : ((n : Int) == 0) = false := by rw [beq_eq_false_iff_ne]; omega
  have HGood := hide hgood
  have HBad := hide hbad
  have hF : faultAt f len q = if 0 ≤ f q ∧ f q < (len : Int) then 7 else 1 := rfl
  have hy0 : (faultAt f len q == 0) = false := by rw [beq_eq_false_iff_ne, hF]; split <;> decide
  have HF := hide hF
  clear hB hS hcell2 hgood hbad hF
  generalize faultAt f len q = y at *
  have HG := hide hg
  have hgl := hg.lt
  have HGL := hide hgl
  have HA := hide ha
  have HB := hide hb
  clear hg hgl ha hb
  go_enter Tryd.func5, Tryd.ntmps5
  go_upto_region 3 with fail
  go_cut [27] (fun t wx => ∃ r : Bool, t = .bool r ∧ (r = true ↔ (120 < a.size ∨ 120 < b.size)) ∧ w = wx)
  case first =>
    have ha := HA.out
    have hb := HB.out
    unfold maxLen at ha hb
    by_cases h1 : 120 < a.size
    · go_wp2
      go_meet
      exact ⟨true, rfl, ⟨fun _ => Or.inl h1, fun _ => rfl⟩, rfl⟩
    · by_cases h2 : 120 < b.size
      · go_wp2
        go_meet
        exact ⟨true, by first | rfl | simp <;> omega, ⟨fun _ => Or.inr h2, fun _ => rfl⟩, rfl⟩
      · go_wp2
        go_meet
        exact ⟨false, by first | rfl | simp <;> omega, ⟨fun h => Bool.noConfusion h, fun h => by omega⟩, rfl⟩
  case rest =>
  obtain ⟨r, rfl, hr, rfl⟩ := hcut
  have HR := hide hr
  clear hr
  go_upto_if 27 with fail
  go_cut [11, 12] (fun e want wx => ∃ (x : Int) (s : ByteArray), e = .int .i64 x ∧ want = .string s ∧ XorSays a b x s ∧ Below w.heap.size w wx)
  case first =>
    by_cases h : 120 < a.size ∨ 120 < b.size
    · obtain rfl : r = true := HR.out.2 h
      have KX := hide (xor_says_err (fun w1 => xor_full a b w1 HA.out HB.out h))
      clear h
      go_wp2
      go_meet
      exact ⟨4, _, rfl, rfl, KX.out, Below.refl _ _⟩
    · obtain rfl : r = false := by
        cases r with
        | false => rfl
        | true => exact absurd (HR.out.1 rfl) h
      have h1 : a.size ≤ 120 := by omega
      have h2 : b.size ≤ 120 := by omega
      by_cases h3 : b.size = a.size
      · have KX := hide (xor_says_ok h1 h3)
        have KR := hide (fun w1 => rxor_ok a b w1 h1 h3)
        have hne : ((a.size : Int) != (b.size : Int)) = false := by rw [h3]; simp
        clear h h3
        go_wp2_with fail
        refine (KR.out _).mono ?_
        rintro e w1 ⟨rfl, hb1⟩
        go_wp2
        go_meet
        exact ⟨0, _, rfl, rfl, KX.out, hb1⟩
      · have KX := hide (xor_says_err (fun w1 => xor_shape a b w1 h1 h2 (fun e => h3 e.symm)))
        have hne : ((a.size : Int) != (b.size : Int)) = true := by rw [bne_iff_ne]; omega
        clear h h3
        go_wp2
        go_meet
        exact ⟨3, _, rfl, rfl, KX.out, Below.refl _ _⟩
  case rest =>
  obtain ⟨x, s, rfl, rfl, hX, hb0⟩ := hcut
  have KX := hide hX
  clear hX
  go_wp2_with fail
  refine (KX.out _).mono ?_
  rintro e w1 ⟨err1, herr1, rfl, hb1⟩
  have b1 := below_two hb0 hb1
  have E1 := hide (error_right x err1 w1 (HG.out.below HGL.out b1) herr1)
  clear hb0 hb1 KX herr1
  go_wp2_with fail
  refine (E1.out).mono ?_
  rintro e w2 ⟨rfl, hb2⟩
  have b2 := below_two b1 hb2
  clear b1 hb2 E1
  go_wp2_with fail
  refine (KB.out _ b2).mono ?_
  rintro e w3 ⟨rfl, hb3⟩
  have b3 := below_two b2 hb3
  clear b2 hb3 KB
  go_wp2
  go_loopw [11, 16, 17] (fun e i h wr => ∃ j : Nat, ((j ≤ q ∧ e = .int .i64 0) ∨ (j = q + 1 ∧ e = .int .i64 y)) ∧ i = .int .i64 j ∧ Below w3.heap.size w3 wr) (fun _ i _ _ => n - (intOf i).toNat)
  case atStart => exact ⟨0, Or.inl ⟨Nat.zero_le _, rfl⟩, rfl, Below.refl _ _⟩
  case round =>
    obtain ⟨j, hje, rfl, hbr⟩ := hrel
    rcases hje with ⟨hj, rfl⟩ | ⟨rfl, rfl⟩
    · by_cases hjq : j < q
      · -- one more
        have hb2 := below_two b3 hbr
        have hjn : (j : Int) < (n : Int) := by omega
        have hjc : (j : Int) ≤ (cap2 : Int) := by omega
        have hcm : ∀ m, (wr.drewN m).cell? ⟨b2, o2 + j, none⟩ = some (.int .i64 (f j)) := fun m => cell_below (below_drewN hb2 m) (HC2.out j (by omega))
        have hcj := cell_below hb2 (HC2.out j (by omega))
        obtain ⟨⟨hf0, hf1⟩, hf2⟩ := HGood.out j hjq
        have HIn : Hid (∀ m c : Nat, Calls Tryd.prog 17 #[.slice (some ⟨b2, o2, none⟩) j c, .int .i64 (f j)] (wr.drewN m) fun e w' => e = .returned (.bool false) ∧ w' = wr.drewN m) := fun m c =>
          (rin_no b2 o2 j c (f j) f (wr.drewN m) (by unfold maxLen; omega) (fun i hi => cell_below (below_drewN hb2 m) (HC2.out i (by omega))) hf2).mono fun e w' ⟨h1, h2⟩ => ⟨h1, h2.symm⟩
        have hf0' : ¬ f j < 0 := by omega
        have hf1' : ¬ (len : Int) ≤ f j := by omega
        clear hf2 hf0 hf1
        go_wp2_with fail
        go_quiet ((go_at_call 17; exact Calls.quiet_of_same (HIn.out _ _)))
        go_wp2
        go_roundw
        case rel => exact ⟨j + 1, Or.inl ⟨by omega, rfl⟩, by go_num, below_drewN hbr _⟩
        case measure => simp [intOf]; omega
      · obtain rfl : j = q := by omega
        have hb2 := below_two b3 hbr
        have hjn : (j : Int) < (n : Int) := by omega
        have hjc : (j : Int) ≤ (cap2 : Int) := by omega
        have hcm : ∀ m, (wr.drewN m).cell? ⟨b2, o2 + j, none⟩ = some (.int .i64 (f j)) := fun m => cell_below (below_drewN hb2 m) (HC2.out j (by omega))
        have hcj := cell_below hb2 (HC2.out j (by omega))
        have HIn : Hid (∃ r : Bool, (r = true ↔ ∃ q, q < j ∧ f q = f j) ∧ ∀ m c : Nat, Calls Tryd.prog 17 #[.slice (some ⟨b2, o2, none⟩) j c, .int .i64 (f j)] (wr.drewN m) fun e w' => e = .returned (.bool r) ∧ w' = wr.drewN m) := by
          by_cases h : ∃ q, q < j ∧ f q = f j
          · obtain ⟨r, hr, he⟩ := h
            exact ⟨true, ⟨fun _ => ⟨r, hr, he⟩, fun _ => rfl⟩, fun m c => (rin_yes b2 o2 j c (f j) f (wr.drewN m) (by unfold maxLen; omega) (fun i hi => cell_below (below_drewN hb2 m) (HC2.out i (by omega))) r hr he).mono fun e w' ⟨h1, h2⟩ => ⟨h1, h2.symm⟩⟩
          · exact ⟨false, ⟨fun e => Bool.noConfusion e, fun e => absurd e h⟩, fun m c => (rin_no b2 o2 j c (f j) f (wr.drewN m) (by unfold maxLen; omega) (fun i hi => cell_below (below_drewN hb2 m) (HC2.out i (by omega))) (fun i hi he => h ⟨i, hi, he⟩)).mono fun e w' ⟨h1, h2⟩ => ⟨h1, h2.symm⟩⟩
        obtain ⟨r, hr, hIn⟩ := HIn.out
        have HI := hide hIn
        have HRr := hide hr
        clear hIn HIn hr
        by_cases hin : 0 ≤ f j ∧ f j < (len : Int)
        · have hx : ∃ r, r < j ∧ f r = f j := Classical.byContradiction fun hn => HBad.out ⟨hin, fun r hr e => hn ⟨r, hr, e⟩⟩
          obtain rfl : r = true := HRr.out.2 hx
          have hy7 : Hid (y = 7) := by unfold Hid; rw [HF.out, if_pos hin]
          obtain ⟨hf0, hf1⟩ := hin
          have hf0' : ¬ f j < 0 := by omega
          have hf1' : ¬ (len : Int) ≤ f j := by omega
          clear hx hf0 hf1
          go_wp2_with fail
          go_quiet ((go_at_call 17; exact Calls.quiet_of_same (HI.out _ _)))
          go_wp2
          go_roundw
          case rel => exact ⟨j + 1, Or.inr ⟨rfl, by rw [hy7.out]⟩, by go_num, below_drewN hbr _⟩
          case measure => simp [intOf]; omega
        · have hy1 : Hid (y = 1) := by unfold Hid; rw [HF.out, if_neg hin]
          by_cases hf0 : f j < 0
          · clear hin
            go_wp2_with fail
            go_quiet ((go_at_call 17; exact Calls.quiet_of_same (HI.out _ _)))
            go_wp2
            go_roundw
            case rel => exact ⟨j + 1, Or.inr ⟨rfl, by rw [hy1.out]⟩, by go_num, below_drewN hbr _⟩
            case measure => simp [intOf]; omega
          · have hf1 : (len : Int) ≤ f j := by omega
            clear hin
            go_wp2_with fail
            go_quiet ((go_at_call 17; exact Calls.quiet_of_same (HI.out _ _)))
            go_wp2
            go_roundw
            case rel => exact ⟨j + 1, Or.inr ⟨rfl, by rw [hy1.out]⟩, by go_num, below_drewN hbr _⟩
            case measure => simp [intOf]; omega
    · have b5 := below_two b3 hbr
      go_wp2_with fail
      refine (KS.out _ b5).mono ?_
      rintro e w6 ⟨rfl, hb6⟩
      have b6 := below_two b5 hb6
      have E2 := hide (error_right y _ w6 (HG.out.below HGL.out b6) (Or.inr rfl))
      clear hb6 KS
      go_wp2_with fail
      refine (E2.out).mono ?_
      rintro e w7 ⟨rfl, hb7⟩
      have b7 := below_two b6 hb7
      clear b6 hb7 E2
      go_upto_region 28 with fail
      go_cut [116] (fun t wx => ∃ r : Bool, t = .bool r ∧ (r = true ↔ (z < 1 ∨ 8 < z)) ∧ w7 = wx)
      case first =>
        by_cases h1 : z < 1
        · go_wp2
          go_meet
          exact ⟨true, rfl, ⟨fun _ => Or.inl h1, fun _ => rfl⟩, rfl⟩
        · by_cases h2 : 8 < z
          · go_wp2
            go_meet
            exact ⟨true, by first | rfl | simp <;> omega, ⟨fun _ => Or.inr h2, fun _ => rfl⟩, rfl⟩
          · go_wp2
            go_meet
            exact ⟨false, by first | rfl | simp <;> omega, ⟨fun h => Bool.noConfusion h, fun h => by omega⟩, rfl⟩
      case rest =>
      obtain ⟨r2, rfl, hr2, rfl⟩ := hcut
      have HR2 := hide hr2
      clear hr2
      go_upto_if 116 with fail
      go_cut [11, 12] (fun e want wx => ∃ (x : Int) (s : ByteArray), e = .int .i64 x ∧ want = .string s ∧ ZeroSays z x s ∧ Below w7.heap.size w7 wx)
      case first =>
        by_cases h : z < 1 ∨ 8 < z
        · obtain rfl : r2 = true := HR2.out.2 h
          have KZ := hide (zero_says_range h)
          clear h
          go_wp2
          go_meet
          exact ⟨1, _, rfl, rfl, KZ.out, Below.refl _ _⟩
        · obtain rfl : r2 = false := by
            cases r2 with
            | false => rfl
            | true => exact absurd (HR2.out.1 rfl) h
          obtain ⟨m, rfl⟩ := Int.eq_ofNat_of_zero_le (show 0 ≤ z by omega)
          have KZ := hide (zero_says_ok (n := m) (by omega) (by omega))
          have KR := hide (fun w1 => zero_any m w1 (by omega))
          clear h
          go_wp2_with fail
          refine (KR.out _).mono ?_
          rintro e w8 ⟨rfl, rfl⟩
          go_wp2
          go_meet
          exact ⟨0, _, rfl, rfl, KZ.out, Below.refl _ _⟩
      case rest =>
      obtain ⟨x3, s3, rfl, rfl, hZ, hb8⟩ := hcut
      have KZ := hide hZ
      have b8 := below_two b7 hb8
      clear hZ hb8 b7
      go_wp2_with fail
      refine (KZ.out _).mono ?_
      rintro e w9 ⟨err3, herr3, rfl, hb9⟩
      have b9 := below_two b8 hb9
      have E3 := hide (error_right x3 err3 w9 (HG.out.below HGL.out b9) herr3)
      clear b8 hb9 KZ herr3
      go_wp2_with fail
      refine (E3.out).mono ?_
      rintro e w10 ⟨rfl, hb10⟩
      have b10 := below_two b9 hb10
      go_wp2
      go_ret
      exact ⟨rfl, b10⟩

set_option maxHeartbeats 4000000 in
theorem tells_bad0 (a b : ByteArray) (ha : a.size ≤ maxLen) (hb : b.size ≤ maxLen) (b1 o1 len cap1 b2 o2 n cap2 : Nat) (g : Nat → ByteArray) (f : Nat → Int) (q : Nat) (z : Int) (w : World) (hg : HasErr w) (hlen : len ≤ 16) (h0 : 0 < n) (hnc : n ≤ cap2) (hc : cap2 ≤ maxLen) (hB : BlocksSay (.slice (some ⟨b1, o1, none⟩) len cap1) 0 w) (hcell2 : ∀ i, i < n → w.cell? ⟨b2, o2 + i, none⟩ = some (.int .i64 (f i))) (hq : q < n) (hgood : ∀ i, i < q → goodAt f len i) (hbad : ¬ goodAt f len q) (hq1 : ¬ q + 1 < n)
    (hS : SumFault (.slice (some ⟨b1, o1, none⟩) len cap1) (.slice (some ⟨b2, o2, none⟩) n cap2) (faultAt f len q) w) :
    Calls Tryd.prog 5 #[.string a, .string b, .slice (some ⟨b1, o1, none⟩) len cap1, .slice (some ⟨b2, o2, none⟩) n cap2, .int .i64 z] w fun e w' => e = .returned (.bool true) ∧ Below w.heap.size w w' := by
  have KB := hide hB
  have KS := hide hS
  have HC2 := hide hcell2
  unfold maxLen at hc
  have hn0 : ((n : Int) == 0) = false := by rw [beq_eq_false_iff_ne]; omega
  have HGood := hide hgood
  have HBad := hide hbad
  have hF : faultAt f len q = if 0 ≤ f q ∧ f q < (len : Int) then 7 else 1 := rfl
  have hy0 : (faultAt f len q == 0) = false := by rw [beq_eq_false_iff_ne, hF]; split <;> decide
  have HF := hide hF
  clear hB hS hcell2 hgood hbad hF
  generalize faultAt f len q = y at *
  have HG := hide hg
  have hgl := hg.lt
  have HGL := hide hgl
  have HA := hide ha
  have HB := hide hb
  clear hg hgl ha hb
  go_enter Tryd.func5, Tryd.ntmps5
  go_upto_region 3 with fail
  go_cut [27] (fun t wx => ∃ r : Bool, t = .bool r ∧ (r = true ↔ (120 < a.size ∨ 120 < b.size)) ∧ w = wx)
  case first =>
    have ha := HA.out
    have hb := HB.out
    unfold maxLen at ha hb
    by_cases h1 : 120 < a.size
    · go_wp2
      go_meet
      exact ⟨true, rfl, ⟨fun _ => Or.inl h1, fun _ => rfl⟩, rfl⟩
    · by_cases h2 : 120 < b.size
      · go_wp2
        go_meet
        exact ⟨true, by first | rfl | simp <;> omega, ⟨fun _ => Or.inr h2, fun _ => rfl⟩, rfl⟩
      · go_wp2
        go_meet
        exact ⟨false, by first | rfl | simp <;> omega, ⟨fun h => Bool.noConfusion h, fun h => by omega⟩, rfl⟩
  case rest =>
  obtain ⟨r, rfl, hr, rfl⟩ := hcut
  have HR := hide hr
  clear hr
  go_upto_if 27 with fail
  go_cut [11, 12] (fun e want wx => ∃ (x : Int) (s : ByteArray), e = .int .i64 x ∧ want = .string s ∧ XorSays a b x s ∧ Below w.heap.size w wx)
  case first =>
    by_cases h : 120 < a.size ∨ 120 < b.size
    · obtain rfl : r = true := HR.out.2 h
      have KX := hide (xor_says_err (fun w1 => xor_full a b w1 HA.out HB.out h))
      clear h
      go_wp2
      go_meet
      exact ⟨4, _, rfl, rfl, KX.out, Below.refl _ _⟩
    · obtain rfl : r = false := by
        cases r with
        | false => rfl
        | true => exact absurd (HR.out.1 rfl) h
      have h1 : a.size ≤ 120 := by omega
      have h2 : b.size ≤ 120 := by omega
      by_cases h3 : b.size = a.size
      · have KX := hide (xor_says_ok h1 h3)
        have KR := hide (fun w1 => rxor_ok a b w1 h1 h3)
        have hne : ((a.size : Int) != (b.size : Int)) = false := by rw [h3]; simp
        clear h h3
        go_wp2_with fail
        refine (KR.out _).mono ?_
        rintro e w1 ⟨rfl, hb1⟩
        go_wp2
        go_meet
        exact ⟨0, _, rfl, rfl, KX.out, hb1⟩
      · have KX := hide (xor_says_err (fun w1 => xor_shape a b w1 h1 h2 (fun e => h3 e.symm)))
        have hne : ((a.size : Int) != (b.size : Int)) = true := by rw [bne_iff_ne]; omega
        clear h h3
        go_wp2
        go_meet
        exact ⟨3, _, rfl, rfl, KX.out, Below.refl _ _⟩
  case rest =>
  obtain ⟨x, s, rfl, rfl, hX, hb0⟩ := hcut
  have KX := hide hX
  clear hX
  go_wp2_with fail
  refine (KX.out _).mono ?_
  rintro e w1 ⟨err1, herr1, rfl, hb1⟩
  have b1 := below_two hb0 hb1
  have E1 := hide (error_right x err1 w1 (HG.out.below HGL.out b1) herr1)
  clear hb0 hb1 KX herr1
  go_wp2_with fail
  refine (E1.out).mono ?_
  rintro e w2 ⟨rfl, hb2⟩
  have b2 := below_two b1 hb2
  clear b1 hb2 E1
  go_wp2_with fail
  refine (KB.out _ b2).mono ?_
  rintro e w3 ⟨rfl, hb3⟩
  have b3 := below_two b2 hb3
  clear b2 hb3 KB
  go_wp2
  go_loopw [11, 16, 17] (fun e i h wr => ∃ j : Nat, ((j ≤ q ∧ e = .int .i64 0) ∨ (j = q + 1 ∧ e = .int .i64 y)) ∧ i = .int .i64 j ∧ Below w3.heap.size w3 wr) (fun _ i _ _ => n - (intOf i).toNat)
  case atStart => exact ⟨0, Or.inl ⟨Nat.zero_le _, rfl⟩, rfl, Below.refl _ _⟩
  case round =>
    obtain ⟨j, hje, rfl, hbr⟩ := hrel
    rcases hje with ⟨hj, rfl⟩ | ⟨rfl, rfl⟩
    · by_cases hjq : j < q
      · -- one more
        have hb2 := below_two b3 hbr
        have hjn : (j : Int) < (n : Int) := by omega
        have hjc : (j : Int) ≤ (cap2 : Int) := by omega
        have hcm : ∀ m, (wr.drewN m).cell? ⟨b2, o2 + j, none⟩ = some (.int .i64 (f j)) := fun m => cell_below (below_drewN hb2 m) (HC2.out j (by omega))
        have hcj := cell_below hb2 (HC2.out j (by omega))
        obtain ⟨⟨hf0, hf1⟩, hf2⟩ := HGood.out j hjq
        have HIn : Hid (∀ m c : Nat, Calls Tryd.prog 17 #[.slice (some ⟨b2, o2, none⟩) j c, .int .i64 (f j)] (wr.drewN m) fun e w' => e = .returned (.bool false) ∧ w' = wr.drewN m) := fun m c =>
          (rin_no b2 o2 j c (f j) f (wr.drewN m) (by unfold maxLen; omega) (fun i hi => cell_below (below_drewN hb2 m) (HC2.out i (by omega))) hf2).mono fun e w' ⟨h1, h2⟩ => ⟨h1, h2.symm⟩
        have hf0' : ¬ f j < 0 := by omega
        have hf1' : ¬ (len : Int) ≤ f j := by omega
        clear hf2 hf0 hf1
        go_wp2_with fail
        go_quiet ((go_at_call 17; exact Calls.quiet_of_same (HIn.out _ _)))
        go_wp2
        go_roundw
        case rel => exact ⟨j + 1, Or.inl ⟨by omega, rfl⟩, by go_num, below_drewN hbr _⟩
        case measure => simp [intOf]; omega
      · obtain rfl : j = q := by omega
        have hb2 := below_two b3 hbr
        have hjn : (j : Int) < (n : Int) := by omega
        have hjc : (j : Int) ≤ (cap2 : Int) := by omega
        have hcm : ∀ m, (wr.drewN m).cell? ⟨b2, o2 + j, none⟩ = some (.int .i64 (f j)) := fun m => cell_below (below_drewN hb2 m) (HC2.out j (by omega))
        have hcj := cell_below hb2 (HC2.out j (by omega))
        have HIn : Hid (∃ r : Bool, (r = true ↔ ∃ q, q < j ∧ f q = f j) ∧ ∀ m c : Nat, Calls Tryd.prog 17 #[.slice (some ⟨b2, o2, none⟩) j c, .int .i64 (f j)] (wr.drewN m) fun e w' => e = .returned (.bool r) ∧ w' = wr.drewN m) := by
          by_cases h : ∃ q, q < j ∧ f q = f j
          · obtain ⟨r, hr, he⟩ := h
            exact ⟨true, ⟨fun _ => ⟨r, hr, he⟩, fun _ => rfl⟩, fun m c => (rin_yes b2 o2 j c (f j) f (wr.drewN m) (by unfold maxLen; omega) (fun i hi => cell_below (below_drewN hb2 m) (HC2.out i (by omega))) r hr he).mono fun e w' ⟨h1, h2⟩ => ⟨h1, h2.symm⟩⟩
          · exact ⟨false, ⟨fun e => Bool.noConfusion e, fun e => absurd e h⟩, fun m c => (rin_no b2 o2 j c (f j) f (wr.drewN m) (by unfold maxLen; omega) (fun i hi => cell_below (below_drewN hb2 m) (HC2.out i (by omega))) (fun i hi he => h ⟨i, hi, he⟩)).mono fun e w' ⟨h1, h2⟩ => ⟨h1, h2.symm⟩⟩
        obtain ⟨r, hr, hIn⟩ := HIn.out
        have HI := hide hIn
        have HRr := hide hr
        clear hIn HIn hr
        by_cases hin : 0 ≤ f j ∧ f j < (len : Int)
        · have hx : ∃ r, r < j ∧ f r = f j := Classical.byContradiction fun hn => HBad.out ⟨hin, fun r hr e => hn ⟨r, hr, e⟩⟩
          obtain rfl : r = true := HRr.out.2 hx
          have hy7 : Hid (y = 7) := by unfold Hid; rw [HF.out, if_pos hin]
          obtain ⟨hf0, hf1⟩ := hin
          have hf0' : ¬ f j < 0 := by omega
          have hf1' : ¬ (len : Int) ≤ f j := by omega
          clear hx hf0 hf1
          go_wp2_with fail
          go_quiet ((go_at_call 17; exact Calls.quiet_of_same (HI.out _ _)))
          go_wp2
          go_roundw
          case rel => exact ⟨j + 1, Or.inr ⟨rfl, by rw [hy7.out]⟩, by go_num, below_drewN hbr _⟩
          case measure => simp [intOf]; omega
        · have hy1 : Hid (y = 1) := by unfold Hid; rw [HF.out, if_neg hin]
          by_cases hf0 : f j < 0
          · clear hin
            go_wp2_with fail
            go_quiet ((go_at_call 17; exact Calls.quiet_of_same (HI.out _ _)))
            go_wp2
            go_roundw
            case rel => exact ⟨j + 1, Or.inr ⟨rfl, by rw [hy1.out]⟩, by go_num, below_drewN hbr _⟩
            case measure => simp [intOf]; omega
          · have hf1 : (len : Int) ≤ f j := by omega
            clear hin
            go_wp2_with fail
            go_quiet ((go_at_call 17; exact Calls.quiet_of_same (HI.out _ _)))
            go_wp2
            go_roundw
            case rel => exact ⟨j + 1, Or.inr ⟨rfl, by rw [hy1.out]⟩, by go_num, below_drewN hbr _⟩
            case measure => simp [intOf]; omega
    · have b5 := below_two b3 hbr
      go_wp2_with fail
      refine (KS.out _ b5).mono ?_
      rintro e w6 ⟨rfl, hb6⟩
      have b6 := below_two b5 hb6
      have E2 := hide (error_right y _ w6 (HG.out.below HGL.out b6) (Or.inr rfl))
      clear hb6 KS
      go_wp2_with fail
      refine (E2.out).mono ?_
      rintro e w7 ⟨rfl, hb7⟩
      have b7 := below_two b6 hb7
      clear b6 hb7 E2
      go_upto_region 28 with fail
      go_cut [116] (fun t wx => ∃ r : Bool, t = .bool r ∧ (r = true ↔ (z < 1 ∨ 8 < z)) ∧ w7 = wx)
      case first =>
        by_cases h1 : z < 1
        · go_wp2
          go_meet
          exact ⟨true, rfl, ⟨fun _ => Or.inl h1, fun _ => rfl⟩, rfl⟩
        · by_cases h2 : 8 < z
          · go_wp2
            go_meet
            exact ⟨true, by first | rfl | simp <;> omega, ⟨fun _ => Or.inr h2, fun _ => rfl⟩, rfl⟩
          · go_wp2
            go_meet
            exact ⟨false, by first | rfl | simp <;> omega, ⟨fun h => Bool.noConfusion h, fun h => by omega⟩, rfl⟩
      case rest =>
      obtain ⟨r2, rfl, hr2, rfl⟩ := hcut
      have HR2 := hide hr2
      clear hr2
      go_upto_if 116 with fail
      go_cut [11, 12] (fun e want wx => ∃ (x : Int) (s : ByteArray), e = .int .i64 x ∧ want = .string s ∧ ZeroSays z x s ∧ Below w7.heap.size w7 wx)
      case first =>
        by_cases h : z < 1 ∨ 8 < z
        · obtain rfl : r2 = true := HR2.out.2 h
          have KZ := hide (zero_says_range h)
          clear h
          go_wp2
          go_meet
          exact ⟨1, _, rfl, rfl, KZ.out, Below.refl _ _⟩
        · obtain rfl : r2 = false := by
            cases r2 with
            | false => rfl
            | true => exact absurd (HR2.out.1 rfl) h
          obtain ⟨m, rfl⟩ := Int.eq_ofNat_of_zero_le (show 0 ≤ z by omega)
          have KZ := hide (zero_says_ok (n := m) (by omega) (by omega))
          have KR := hide (fun w1 => zero_any m w1 (by omega))
          clear h
          go_wp2_with fail
          refine (KR.out _).mono ?_
          rintro e w8 ⟨rfl, rfl⟩
          go_wp2
          go_meet
          exact ⟨0, _, rfl, rfl, KZ.out, Below.refl _ _⟩
      case rest =>
      obtain ⟨x3, s3, rfl, rfl, hZ, hb8⟩ := hcut
      have KZ := hide hZ
      have b8 := below_two b7 hb8
      clear hZ hb8 b7
      go_wp2_with fail
      refine (KZ.out _).mono ?_
      rintro e w9 ⟨err3, herr3, rfl, hb9⟩
      have b9 := below_two b8 hb9
      have E3 := hide (error_right x3 err3 w9 (HG.out.below HGL.out b9) herr3)
      clear b8 hb9 KZ herr3
      go_wp2_with fail
      refine (E3.out).mono ?_
      rintro e w10 ⟨rfl, hb10⟩
      have b10 := below_two b9 hb10
      go_wp2
      go_ret
      exact ⟨rfl, b10⟩

end Go.Proofs.YtgdfoahpkiglhaaDoor
