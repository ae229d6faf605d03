/-
  Our own walks of the document's law on what a wheel says, where the wheel may be, over this seat's translation. Lemmas for the law above; no statement is proved here.
-/
import Derived.Test.YtkbnoebhckngaaaDoorWhTell
namespace Go.Proofs.YtkbnoebhckngaaaDoor
open Go.RowKit
set_option linter.unusedVariables false
set_option maxRecDepth 100000

/-- The law's search for a seed's first time, as it stands ahead of time j. -/
def WhS (k e s j F T : Nat) : Prop := (F = 5 ∧ T = 0 ∧ j ≤ 1001 ∧ ∀ q, q < j → whAt k e q ≠ s) ∨ (F = 0 ∧ j = T + 1 ∧ T ≤ 1000 ∧ whAt k e T = s ∧ ∀ q, q < T → whAt k e q ≠ s)
theorem irow_in {w : World} {b n cap : Nat} {f : Nat → Int} (h : IRow w b n f) : IntsIn w (.slice (some ⟨b, 0, none⟩) n cap) n f := by
  by_cases h0 : n = 0
  · subst h0; exact Or.inl ⟨rfl, _, _, rfl⟩
  · exact Or.inr ⟨by omega, b, 0, cap, rfl, fun i hi => by rw [Nat.zero_add]; exact (h i hi).1⟩

set_option maxHeartbeats 8000000 in
theorem wtells_norow_noseed (k e : Nat) (t m : Int) (s : Int) (w : World) (hg : HasErr w) (hk : 1 ≤ k) (hk2 : k ≤ 16) (he : e ≤ 16) (ht : ¬ SpOk t m) (hs : s < 1 ∨ 10000 < s) :
    Calls Tryd.prog 3 #[.int .i64 k, .int .i64 e, .int .i64 t, .int .i64 m, .int .i64 s] w fun r w' => r = .returned (.bool true) ∧ Below w.heap.size w w' := by
  have HG := hide hg
  have HGL := hide hg.lt
  obtain ⟨x1, f1, KR, KA⟩ := at_any k e t hk hk2 he
  have KR := hide KR
  have KA := hide KA
  have K0 := hide (fun w => rwheel_ok k e 0 w hk hk2 he (by omega))
  generalize whAt k e 0 = x0 at K0
  have KW := hide (fun w => when_range k e s w (Or.inr hs))
  have HS := hide hs
  clear hs
  have KO := hide (fun w => wrow_range k e t m w (Or.inr ht))
  have HT : Hid (t < 0 ∨ (0 ≤ t ∧ 1000 < t) ∨ (0 ≤ t ∧ t ≤ 1000 ∧ m < 0) ∨ (0 ≤ t ∧ t ≤ 1000 ∧ 0 ≤ m ∧ 60 < m) ∨ (0 ≤ t ∧ t ≤ 1000 ∧ 0 ≤ m ∧ m ≤ 60 ∧ 1000 < t + m)) := by
    unfold SpOk at ht
    exact hide (by omega)
  clear ht
  clear hg
  go_enter Tryd.func3, Tryd.ntmps3
  go_wp2_with fail
  refine (KR.out _).mono ?_
  rintro r w1 ⟨rfl, rfl⟩
  go_wp2_with fail
  refine (KA.out _).mono ?_
  rintro r w1 ⟨rfl, n1, rfl⟩
  have E1 := hide (error_right f1 _ (w.drewN n1) (HG.out.below HGL.out (below_drewN (Below.refl _ _) n1)) (errV_is f1))
  go_wp2_with fail
  refine (E1.out).mono ?_
  rintro r w1 ⟨rfl, hb1⟩
  have b1 : Below w.heap.size w w1 := below_two (below_drewN (Below.refl _ _) n1) hb1
  clear E1 hb1 KR KA
  go_wp2_with fail
  refine (K0.out _).mono ?_
  rintro r w2 ⟨rfl, rfl⟩
  clear K0
  go_upto_region 6 with fail
  go_cut [80] (fun t wx => t = .bool true ∧ w1 = wx)
  case first =>
    rcases HT.out with h1 | ⟨h0, h1⟩ | ⟨h0, h2, h1⟩ | ⟨h0, h2, h3, h1⟩ | ⟨h0, h2, h3, h4, h1⟩ <;>
    · go_wp2
      go_meet
      exact ⟨by first | rfl | (simp <;> omega), rfl⟩
  case rest =>
  obtain ⟨rfl, rfl⟩ := hcut
  go_wp2
  go_loop [16, 17, 18] (fun f v i => f = .int .i64 1 ∧ v = .slice none 0 0 ∧ i = .int .i64 0) (fun _ _ _ => 0)
  case atStart => exact ⟨rfl, rfl, rfl⟩
  case round =>
    obtain ⟨rfl, rfl, rfl⟩ := hrel
    go_upto_region 10 with fail
    go_cut [87] (fun t wx => t = .bool false ∧ w1 = wx)
    case first =>
      by_cases h1 : 0 < m
      · go_wp2
        go_meet
        exact ⟨by first | rfl | simp, rfl⟩
      · go_wp2
        go_meet
        exact ⟨by first | rfl | simp, rfl⟩
    case rest =>
    obtain ⟨rfl, rfl⟩ := hcut
    go_wp2_with fail
    refine (KO.out _).mono ?_
    rintro r w2 ⟨rfl, rfl⟩
    have E2 := hide (error_right 1 _ w1 (HG.out.below HGL.out b1) (Or.inr rfl))
    go_wp2_with fail
    refine (E2.out).mono ?_
    rintro r w2 ⟨rfl, b2⟩
    have S := hide (ints_none none none 0 0 w2)
    have b3 := below_two b1 b2
    clear E2
    go_wp2_with fail
    refine (S.out).mono ?_
    rintro r w3 ⟨rfl, b4⟩
    have b5 := below_two b3 b4
    clear S b4 b3 b2 b1
    go_upto_region 19 with fail
    go_cut [130] (fun t wx => t = .bool true ∧ w3 = wx)
    case first =>
      rcases HS.out with h1 | h1
      · go_wp2
        go_meet
        exact ⟨by first | rfl | simp, rfl⟩
      · have h2 : ¬ s < 1 := by omega
        go_wp2
        go_meet
        exact ⟨by first | rfl | simp, rfl⟩
    case rest =>
    obtain ⟨rfl, rfl⟩ := hcut
    go_wp2_with fail
    refine (KW.out w3).mono ?_
    rintro r w8 ⟨rfl, rfl⟩
    have E3 := hide (error_right 1 _ w3 (HG.out.below HGL.out b5) (Or.inr rfl))
    go_wp2_with fail
    refine (E3.out).mono ?_
    rintro r w9 ⟨rfl, hb9⟩
    have b9 := below_two b5 hb9
    clear hb9 E3
    go_wp2
    go_ret
    exact ⟨rfl, b9⟩

set_option maxHeartbeats 8000000 in
theorem wtells_norow_seed (k e : Nat) (t m : Int) (s : Nat) (w : World) (hg : HasErr w) (hk : 1 ≤ k) (hk2 : k ≤ 16) (he : e ≤ 16) (ht : ¬ SpOk t m) (hs : 1 ≤ s) (hs2 : s ≤ 10000) :
    Calls Tryd.prog 3 #[.int .i64 k, .int .i64 e, .int .i64 t, .int .i64 m, .int .i64 s] w fun r w' => r = .returned (.bool true) ∧ Below w.heap.size w w' := by
  have HG := hide hg
  have HGL := hide hg.lt
  obtain ⟨x1, f1, KR, KA⟩ := at_any k e t hk hk2 he
  have KR := hide KR
  have KA := hide KA
  have K0 := hide (fun w => rwheel_ok k e 0 w hk hk2 he (by omega))
  generalize whAt k e 0 = x0 at K0
  have KW := hide (fun w => when_ok k e s w hk hk2 he hs hs2)
  have KQ := hide (fun (q : Nat) w (hq : q ≤ 1000) => rwheel_ok k e q w hk hk2 he hq)
  have hs3 : ¬ (s : Int) < 1 := by omega
  have hs4 : ¬ 10000 < (s : Int) := by omega
  have KO := hide (fun w => wrow_range k e t m w (Or.inr ht))
  have HT : Hid (t < 0 ∨ (0 ≤ t ∧ 1000 < t) ∨ (0 ≤ t ∧ t ≤ 1000 ∧ m < 0) ∨ (0 ≤ t ∧ t ≤ 1000 ∧ 0 ≤ m ∧ 60 < m) ∨ (0 ≤ t ∧ t ≤ 1000 ∧ 0 ≤ m ∧ m ≤ 60 ∧ 1000 < t + m)) := by
    unfold SpOk at ht
    exact hide (by omega)
  clear ht
  clear hg
  go_enter Tryd.func3, Tryd.ntmps3
  go_wp2_with fail
  refine (KR.out _).mono ?_
  rintro r w1 ⟨rfl, rfl⟩
  go_wp2_with fail
  refine (KA.out _).mono ?_
  rintro r w1 ⟨rfl, n1, rfl⟩
  have E1 := hide (error_right f1 _ (w.drewN n1) (HG.out.below HGL.out (below_drewN (Below.refl _ _) n1)) (errV_is f1))
  go_wp2_with fail
  refine (E1.out).mono ?_
  rintro r w1 ⟨rfl, hb1⟩
  have b1 : Below w.heap.size w w1 := below_two (below_drewN (Below.refl _ _) n1) hb1
  clear E1 hb1 KR KA
  go_wp2_with fail
  refine (K0.out _).mono ?_
  rintro r w2 ⟨rfl, rfl⟩
  clear K0
  go_upto_region 6 with fail
  go_cut [80] (fun t wx => t = .bool true ∧ w1 = wx)
  case first =>
    rcases HT.out with h1 | ⟨h0, h1⟩ | ⟨h0, h2, h1⟩ | ⟨h0, h2, h3, h1⟩ | ⟨h0, h2, h3, h4, h1⟩ <;>
    · go_wp2
      go_meet
      exact ⟨by first | rfl | (simp <;> omega), rfl⟩
  case rest =>
  obtain ⟨rfl, rfl⟩ := hcut
  go_wp2
  go_loop [16, 17, 18] (fun f v i => f = .int .i64 1 ∧ v = .slice none 0 0 ∧ i = .int .i64 0) (fun _ _ _ => 0)
  case atStart => exact ⟨rfl, rfl, rfl⟩
  case round =>
    obtain ⟨rfl, rfl, rfl⟩ := hrel
    go_upto_region 10 with fail
    go_cut [87] (fun t wx => t = .bool false ∧ w1 = wx)
    case first =>
      by_cases h1 : 0 < m
      · go_wp2
        go_meet
        exact ⟨by first | rfl | simp, rfl⟩
      · go_wp2
        go_meet
        exact ⟨by first | rfl | simp, rfl⟩
    case rest =>
    obtain ⟨rfl, rfl⟩ := hcut
    go_wp2_with fail
    refine (KO.out _).mono ?_
    rintro r w2 ⟨rfl, rfl⟩
    have E2 := hide (error_right 1 _ w1 (HG.out.below HGL.out b1) (Or.inr rfl))
    go_wp2_with fail
    refine (E2.out).mono ?_
    rintro r w2 ⟨rfl, b2⟩
    have S := hide (ints_none none none 0 0 w2)
    have b3 := below_two b1 b2
    clear E2
    go_wp2_with fail
    refine (S.out).mono ?_
    rintro r w3 ⟨rfl, b4⟩
    have b5 := below_two b3 b4
    clear S b4 b3 b2 b1
    go_wp2
    go_loop [12, 22, 23] (fun f n i => ∃ j F T : Nat, Hid (WhS k e s j F T) ∧ f = .int .i64 F ∧ n = .int .i64 T ∧ i = .int .i64 j) (fun _ _ i => 1002 - (intOf i).toNat)
    case atStart => exact ⟨0, 5, 0, hide (Or.inl ⟨rfl, rfl, by omega, fun q hq => absurd hq (by omega)⟩), rfl, rfl, rfl⟩
    case round =>
      obtain ⟨j, F, T, hS, rfl, rfl, rfl⟩ := hrel
      rcases hS.out with ⟨rfl, rfl, hj, hq⟩ | ⟨rfl, rfl, hT, hx, hq⟩
      · have HQ := hide hq
        clear hS hq
        by_cases hlt : j ≤ 1000
        · have K := hide (KQ.out j w3 hlt)
          by_cases hx : whAt k e j = s
          · have HN : Hid (WhS k e s (j + 1) 0 j) := Or.inr ⟨rfl, rfl, hlt, hx, HQ.out⟩
            rw [hx] at K
            clear hx
            go_wp2_with fail
            refine (K.out).mono ?_
            rintro r w7 ⟨rfl, rfl⟩
            go_wp2
            go_round
            case rel => exact ⟨j + 1, 0, j, HN, rfl, rfl, by go_num⟩
            case measure => simp [intOf]; omega
          · have HN : Hid (WhS k e s (j + 1) 5 0) := Or.inl ⟨rfl, rfl, by omega, fun q hq => by
              rcases Nat.lt_or_ge q j with h | h
              · exact HQ.out q h
              · obtain rfl : q = j := by omega
                exact hx⟩
            have hx2 : ((whAt k e j : Int) == (s : Int)) = false := by rw [beq_eq_false_iff_ne]; omega
            clear hx
            generalize whAt k e j = x at *
            go_wp2_with fail
            refine (K.out).mono ?_
            rintro r w7 ⟨rfl, rfl⟩
            go_wp2
            go_round
            case rel => exact ⟨j + 1, 5, 0, HN, rfl, rfl, by go_num⟩
            case measure => simp [intOf]; omega
        · have IW : Hid (IsWhen k e s 5 0) := Or.inr ⟨rfl, rfl, fun q hq => HQ.out q (by omega)⟩
          have hlt2 : ¬ (j : Int) ≤ 1000 := by omega
          go_wp2_with fail
          refine (KW.out w3).mono ?_
          rintro r w8 ⟨f8, t8, hw8, rfl, n8, rfl⟩
          obtain ⟨rfl, rfl⟩ := IW.out.det hw8
          have E3 := hide (error_right 5 (errV 5) (World.drewN w3 n8) (HG.out.below HGL.out (below_drewN b5 n8)) (errV_is 5))
          go_wp2_with fail
          refine (E3.out).mono ?_
          rintro r w9 ⟨rfl, hb9⟩
          have b9 := below_two (below_drewN b5 n8) hb9
          clear hb9 E3 hw8
          go_wp2
          go_ret
          exact ⟨ret_bool (by first | rfl | simp), b9⟩
      · have IW : Hid (IsWhen k e s 0 T) := Or.inl ⟨rfl, hT, hx, hq⟩
        clear hS hx hq
        go_upto_region 25 with fail
        go_cut [138] (fun t wx => t = .bool false ∧ w3 = wx)
        case first =>
          by_cases h1 : (T : Int) + 1 ≤ 1000
          · go_wp2
            go_meet
            exact ⟨by first | rfl | simp, rfl⟩
          · go_wp2
            go_meet
            exact ⟨by first | rfl | simp, rfl⟩
        case rest =>
        obtain ⟨rfl, rfl⟩ := hcut
        go_wp2_with fail
        refine (KW.out w3).mono ?_
        rintro r w8 ⟨f8, t8, hw8, rfl, n8, rfl⟩
        obtain ⟨rfl, rfl⟩ := IW.out.det hw8
        have E3 := hide (error_right 0 (errV 0) (World.drewN w3 n8) (HG.out.below HGL.out (below_drewN b5 n8)) (errV_is 0))
        go_wp2_with fail
        refine (E3.out).mono ?_
        rintro r w9 ⟨rfl, hb9⟩
        have b9 := below_two (below_drewN b5 n8) hb9
        clear hb9 E3 hw8
        go_wp2
        go_ret
        exact ⟨ret_bool (by first | rfl | simp), b9⟩

set_option maxHeartbeats 8000000 in
theorem wtells_row_noseed (k e : Nat) (t m : Nat) (s : Int) (w : World) (hg : HasErr w) (hk : 1 ≤ k) (hk2 : k ≤ 16) (he : e ≤ 16) (hm : m ≤ 60) (ht : t + m ≤ 1000) (hs : s < 1 ∨ 10000 < s) :
    Calls Tryd.prog 3 #[.int .i64 k, .int .i64 e, .int .i64 t, .int .i64 m, .int .i64 s] w fun r w' => r = .returned (.bool true) ∧ Below w.heap.size w w' := by
  have HG := hide hg
  have HGL := hide hg.lt
  obtain ⟨x1, f1, KR, KA⟩ := at_any k e t hk hk2 he
  have KR := hide KR
  have KA := hide KA
  have K0 := hide (fun w => rwheel_ok k e 0 w hk hk2 he (by omega))
  generalize whAt k e 0 = x0 at K0
  have KW := hide (fun w => when_range k e s w (Or.inr hs))
  have HS := hide hs
  clear hs
  have KO := hide (fun w => wrow_ok k e t m w hk hk2 he hm ht)
  have KQ1 := hide (fun (q : Nat) w (hq : q ≤ 1000) => rwheel_ok k e q w hk hk2 he hq)
  have ht1 : ¬ (t : Int) < 0 := by omega
  have ht2 : ¬ 1000 < (t : Int) := by omega
  have ht3 : ¬ (m : Int) < 0 := by omega
  have ht4 : ¬ 60 < (m : Int) := by omega
  have ht5 : ¬ 1000 < (t : Int) + (m : Int) := by omega
  obtain ⟨i0, hif, hz0, hzs, hzb⟩ := info_parts Tryd.infoInt
  have Hi := hide hif
  have Hz0 := hide hz0
  have Hzs := hide hzs
  have Hzb := hide hzb
  clear hif hz0 hzs hzb
  clear hg
  go_enter Tryd.func3, Tryd.ntmps3
  go_wp2_with fail
  refine (KR.out _).mono ?_
  rintro r w1 ⟨rfl, rfl⟩
  go_wp2_with fail
  refine (KA.out _).mono ?_
  rintro r w1 ⟨rfl, n1, rfl⟩
  have E1 := hide (error_right f1 _ (w.drewN n1) (HG.out.below HGL.out (below_drewN (Below.refl _ _) n1)) (errV_is f1))
  go_wp2_with fail
  refine (E1.out).mono ?_
  rintro r w1 ⟨rfl, hb1⟩
  have b1 : Below w.heap.size w w1 := below_two (below_drewN (Below.refl _ _) n1) hb1
  clear E1 hb1 KR KA
  go_wp2_with fail
  refine (K0.out _).mono ?_
  rintro r w2 ⟨rfl, rfl⟩
  clear K0
  go_wp2
  go_loopw [16, 17, 18] (fun f v i wr => ∃ (j : Nat) (aA : Option Addr) (cA : Nat), j ≤ m ∧ f = .int .i64 0 ∧ i = .int .i64 j ∧ v = .slice aA j cA ∧ wr.ownsRow w1.heap.size 3 1 v j ((List.range j).map fun i : Nat => .int .i64 (whAt k e (t + i) : Int)) ∧ Below w1.heap.size w1 wr) (fun _ _ i _ => m - (intOf i).toNat)
  case atStart => exact ⟨0, none, 0, Nat.zero_le _, rfl, rfl, rfl, World.ownsRow_nil _ _ _ _, Below.refl _ _⟩
  case round =>
    obtain ⟨j, aA, cA, hj, rfl, rfl, rfl, hA, hb⟩ := hrel
    have hbs := hb.size
    have HA := hide hA
    clear hA
    by_cases hlt : j < m
    · have K := hide (KQ1.out (t + j) wr (by omega))
      have hc : ((t + j : Nat) : Int) = (t : Int) + (j : Int) := by omega
      rw [hc] at K
      clear hc
      generalize hx : whAt k e (t + j) = x at K
      have HX := hide hx
      clear hx
      go_wp2_with fail
      refine (K.out).mono ?_
      rintro r w2 ⟨rfl, rfl⟩
      go_wp2_with (at_builtin; refine wpList_append_lies _ rfl _ _ 29 rfl w1.heap.size 3 i0 (.int .i64 0) 1 8 Tryd.underlying29 Hi.out Hz0.out Hzs.out Hzb.out rfl (by decide) _ _ _ rfl (HA.out.alloc _) ⟨wr.heap.size, 0, none⟩ 1 1 [.int .i64 (x : Int)] rfl rfl (cell_one_new _ _ _) (fun x hx => by simp at hx; subst hx; rfl) (by decide) (by unfold maxLen; omega) (by omega) (by simp; omega) _ rfl ?_; intro g3 cap3 w3 hown3 hgrow3 hat3 hlt3)
      go_roundw
      case rel =>
        have R : j + 1 ≤ m ∧ Value.int .i64 0 = .int .i64 0 ∧ Value.int .i64 ((j : Int) + 1) = .int .i64 (((j + 1 : Nat) : Int)) ∧ Value.slice (some ⟨g3, 0, none⟩) (j + 1) cap3 = .slice (some ⟨g3, 0, none⟩) (j + 1) cap3
            ∧ w3.ownsRow w1.heap.size 3 1 (.slice (some ⟨g3, 0, none⟩) (j + 1) cap3) (j + 1) ((List.range (j + 1)).map fun i : Nat => .int .i64 (whAt k e (t + i) : Int)) ∧ Below w1.heap.size w1 w3 :=
          ⟨by omega, rfl, by simp, rfl, by rw [List.range_succ, List.map_append]; simp only [List.map_cons, List.map_nil, HX.out]; exact hown3, (hb.alloc hbs _).grown hgrow3 (by simp; omega) (fun q hq => (HA.out.lt q hq).1)⟩
        first
          | exact ⟨j + 1, some ⟨g3, 0, none⟩, cap3, R⟩
          | ((repeat apply Exists.intro); exact ⟨⟨j + 1, some ⟨g3, 0, none⟩, cap3, R⟩, rfl⟩)
      case measure => simp [intOf]; omega
    · obtain rfl : j = m := by omega
      have hle : ¬ (j : Int) < (j : Int) := by omega
      have HI := hide (own_in (f := fun i => (whAt k e (t + i) : Int)) HA.out)
      have b2 := below_two b1 hb
      clear HA b1 hb
      go_wp2_with fail
      refine (KO.out _).mono ?_
      rintro r w2 ⟨rfl, hI2, hb2⟩
      have b3 := below_two b2 hb2
      have E2 := hide (error_right 0 .nilIface w2 (HG.out.below HGL.out b3) (Or.inl ⟨rfl, rfl⟩))
      have HI' := hide (HI.out.below hb2)
      have HI2 := hide (irow_in (cap := j) hI2)
      clear KO hI2 hb2 b2 HI
      go_wp2_with fail
      refine (E2.out).mono ?_
      rintro r w3 ⟨rfl, hb3⟩
      have S := hide (ints_same (by omega) (HI2.out.below hb3) (HI'.out.below hb3))
      have b4 := below_two b3 hb3
      clear hb3 E2 b3
      go_wp2_with fail
      refine (S.out).mono ?_
      rintro r w4 ⟨rfl, hb4⟩
      have b5 := below_two b4 hb4
      clear hb4 b4 S
      go_upto_region 19 with fail
      go_cut [130] (fun t wx => t = .bool true ∧ w4 = wx)
      case first =>
        rcases HS.out with h1 | h1
        · go_wp2
          go_meet
          exact ⟨by first | rfl | simp, rfl⟩
        · have h2 : ¬ s < 1 := by omega
          go_wp2
          go_meet
          exact ⟨by first | rfl | simp, rfl⟩
      case rest =>
      obtain ⟨rfl, rfl⟩ := hcut
      go_wp2_with fail
      refine (KW.out w4).mono ?_
      rintro r w8 ⟨rfl, rfl⟩
      have E3 := hide (error_right 1 _ w4 (HG.out.below HGL.out b5) (Or.inr rfl))
      go_wp2_with fail
      refine (E3.out).mono ?_
      rintro r w9 ⟨rfl, hb9⟩
      have b9 := below_two b5 hb9
      clear hb9 E3
      go_wp2
      go_ret
      exact ⟨rfl, b9⟩

set_option maxHeartbeats 8000000 in
theorem wtells_row_seed (k e : Nat) (t m : Nat) (s : Nat) (w : World) (hg : HasErr w) (hk : 1 ≤ k) (hk2 : k ≤ 16) (he : e ≤ 16) (hm : m ≤ 60) (ht : t + m ≤ 1000) (hs : 1 ≤ s) (hs2 : s ≤ 10000) :
    Calls Tryd.prog 3 #[.int .i64 k, .int .i64 e, .int .i64 t, .int .i64 m, .int .i64 s] w fun r w' => r = .returned (.bool true) ∧ Below w.heap.size w w' := by
  have HG := hide hg
  have HGL := hide hg.lt
  obtain ⟨x1, f1, KR, KA⟩ := at_any k e t hk hk2 he
  have KR := hide KR
  have KA := hide KA
  have K0 := hide (fun w => rwheel_ok k e 0 w hk hk2 he (by omega))
  generalize whAt k e 0 = x0 at K0
  have KW := hide (fun w => when_ok k e s w hk hk2 he hs hs2)
  have KQ := hide (fun (q : Nat) w (hq : q ≤ 1000) => rwheel_ok k e q w hk hk2 he hq)
  have hs3 : ¬ (s : Int) < 1 := by omega
  have hs4 : ¬ 10000 < (s : Int) := by omega
  have KO := hide (fun w => wrow_ok k e t m w hk hk2 he hm ht)
  have KQ1 := hide (fun (q : Nat) w (hq : q ≤ 1000) => rwheel_ok k e q w hk hk2 he hq)
  have ht1 : ¬ (t : Int) < 0 := by omega
  have ht2 : ¬ 1000 < (t : Int) := by omega
  have ht3 : ¬ (m : Int) < 0 := by omega
  have ht4 : ¬ 60 < (m : Int) := by omega
  have ht5 : ¬ 1000 < (t : Int) + (m : Int) := by omega
  obtain ⟨i0, hif, hz0, hzs, hzb⟩ := info_parts Tryd.infoInt
  have Hi := hide hif
  have Hz0 := hide hz0
  have Hzs := hide hzs
  have Hzb := hide hzb
  clear hif hz0 hzs hzb
  clear hg
  go_enter Tryd.func3, Tryd.ntmps3
  go_wp2_with fail
  refine (KR.out _).mono ?_
  rintro r w1 ⟨rfl, rfl⟩
  go_wp2_with fail
  refine (KA.out _).mono ?_
  rintro r w1 ⟨rfl, n1, rfl⟩
  have E1 := hide (error_right f1 _ (w.drewN n1) (HG.out.below HGL.out (below_drewN (Below.refl _ _) n1)) (errV_is f1))
  go_wp2_with fail
  refine (E1.out).mono ?_
  rintro r w1 ⟨rfl, hb1⟩
  have b1 : Below w.heap.size w w1 := below_two (below_drewN (Below.refl _ _) n1) hb1
  clear E1 hb1 KR KA
  go_wp2_with fail
  refine (K0.out _).mono ?_
  rintro r w2 ⟨rfl, rfl⟩
  clear K0
  go_wp2
  go_loopw [16, 17, 18] (fun f v i wr => ∃ (j : Nat) (aA : Option Addr) (cA : Nat), j ≤ m ∧ f = .int .i64 0 ∧ i = .int .i64 j ∧ v = .slice aA j cA ∧ wr.ownsRow w1.heap.size 3 1 v j ((List.range j).map fun i : Nat => .int .i64 (whAt k e (t + i) : Int)) ∧ Below w1.heap.size w1 wr) (fun _ _ i _ => m - (intOf i).toNat)
  case atStart => exact ⟨0, none, 0, Nat.zero_le _, rfl, rfl, rfl, World.ownsRow_nil _ _ _ _, Below.refl _ _⟩
  case round =>
    obtain ⟨j, aA, cA, hj, rfl, rfl, rfl, hA, hb⟩ := hrel
    have hbs := hb.size
    have HA := hide hA
    clear hA
    by_cases hlt : j < m
    · have K := hide (KQ1.out (t + j) wr (by omega))
      have hc : ((t + j : Nat) : Int) = (t : Int) + (j : Int) := by omega
      rw [hc] at K
      clear hc
      generalize hx : whAt k e (t + j) = x at K
      have HX := hide hx
      clear hx
      go_wp2_with fail
      refine (K.out).mono ?_
      rintro r w2 ⟨rfl, rfl⟩
      go_wp2_with (at_builtin; refine wpList_append_lies _ rfl _ _ 29 rfl w1.heap.size 3 i0 (.int .i64 0) 1 8 Tryd.underlying29 Hi.out Hz0.out Hzs.out Hzb.out rfl (by decide) _ _ _ rfl (HA.out.alloc _) ⟨wr.heap.size, 0, none⟩ 1 1 [.int .i64 (x : Int)] rfl rfl (cell_one_new _ _ _) (fun x hx => by simp at hx; subst hx; rfl) (by decide) (by unfold maxLen; omega) (by omega) (by simp; omega) _ rfl ?_; intro g3 cap3 w3 hown3 hgrow3 hat3 hlt3)
      go_roundw
      case rel =>
        have R : j + 1 ≤ m ∧ Value.int .i64 0 = .int .i64 0 ∧ Value.int .i64 ((j : Int) + 1) = .int .i64 (((j + 1 : Nat) : Int)) ∧ Value.slice (some ⟨g3, 0, none⟩) (j + 1) cap3 = .slice (some ⟨g3, 0, none⟩) (j + 1) cap3
            ∧ w3.ownsRow w1.heap.size 3 1 (.slice (some ⟨g3, 0, none⟩) (j + 1) cap3) (j + 1) ((List.range (j + 1)).map fun i : Nat => .int .i64 (whAt k e (t + i) : Int)) ∧ Below w1.heap.size w1 w3 :=
          ⟨by omega, rfl, by simp, rfl, by rw [List.range_succ, List.map_append]; simp only [List.map_cons, List.map_nil, HX.out]; exact hown3, (hb.alloc hbs _).grown hgrow3 (by simp; omega) (fun q hq => (HA.out.lt q hq).1)⟩
        first
          | exact ⟨j + 1, some ⟨g3, 0, none⟩, cap3, R⟩
          | ((repeat apply Exists.intro); exact ⟨⟨j + 1, some ⟨g3, 0, none⟩, cap3, R⟩, rfl⟩)
      case measure => simp [intOf]; omega
    · obtain rfl : j = m := by omega
      have hle : ¬ (j : Int) < (j : Int) := by omega
      have HI := hide (own_in (f := fun i => (whAt k e (t + i) : Int)) HA.out)
      have b2 := below_two b1 hb
      clear HA b1 hb
      go_wp2_with fail
      refine (KO.out _).mono ?_
      rintro r w2 ⟨rfl, hI2, hb2⟩
      have b3 := below_two b2 hb2
      have E2 := hide (error_right 0 .nilIface w2 (HG.out.below HGL.out b3) (Or.inl ⟨rfl, rfl⟩))
      have HI' := hide (HI.out.below hb2)
      have HI2 := hide (irow_in (cap := j) hI2)
      clear KO hI2 hb2 b2 HI
      go_wp2_with fail
      refine (E2.out).mono ?_
      rintro r w3 ⟨rfl, hb3⟩
      have S := hide (ints_same (by omega) (HI2.out.below hb3) (HI'.out.below hb3))
      have b4 := below_two b3 hb3
      clear hb3 E2 b3
      go_wp2_with fail
      refine (S.out).mono ?_
      rintro r w4 ⟨rfl, hb4⟩
      have b5 := below_two b4 hb4
      clear hb4 b4 S
      go_wp2
      go_loop [12, 22, 23] (fun f n i => ∃ j F T : Nat, Hid (WhS k e s j F T) ∧ f = .int .i64 F ∧ n = .int .i64 T ∧ i = .int .i64 j) (fun _ _ i => 1002 - (intOf i).toNat)
      case atStart => exact ⟨0, 5, 0, hide (Or.inl ⟨rfl, rfl, by omega, fun q hq => absurd hq (by omega)⟩), rfl, rfl, rfl⟩
      case round =>
        obtain ⟨j, F, T, hS, rfl, rfl, rfl⟩ := hrel
        rcases hS.out with ⟨rfl, rfl, hj, hq⟩ | ⟨rfl, rfl, hT, hx, hq⟩
        · have HQ := hide hq
          clear hS hq
          by_cases hlt : j ≤ 1000
          · have K := hide (KQ.out j w4 hlt)
            by_cases hx : whAt k e j = s
            · have HN : Hid (WhS k e s (j + 1) 0 j) := Or.inr ⟨rfl, rfl, hlt, hx, HQ.out⟩
              rw [hx] at K
              clear hx
              go_wp2_with fail
              refine (K.out).mono ?_
              rintro r w7 ⟨rfl, rfl⟩
              go_wp2
              go_round
              case rel => exact ⟨j + 1, 0, j, HN, rfl, rfl, by go_num⟩
              case measure => simp [intOf]; omega
            · have HN : Hid (WhS k e s (j + 1) 5 0) := Or.inl ⟨rfl, rfl, by omega, fun q hq => by
                rcases Nat.lt_or_ge q j with h | h
                · exact HQ.out q h
                · obtain rfl : q = j := by omega
                  exact hx⟩
              have hx2 : ((whAt k e j : Int) == (s : Int)) = false := by rw [beq_eq_false_iff_ne]; omega
              clear hx
              generalize whAt k e j = x at *
              go_wp2_with fail
              refine (K.out).mono ?_
              rintro r w7 ⟨rfl, rfl⟩
              go_wp2
              go_round
              case rel => exact ⟨j + 1, 5, 0, HN, rfl, rfl, by go_num⟩
              case measure => simp [intOf]; omega
          · have IW : Hid (IsWhen k e s 5 0) := Or.inr ⟨rfl, rfl, fun q hq => HQ.out q (by omega)⟩
            have hlt2 : ¬ (j : Int) ≤ 1000 := by omega
            go_wp2_with fail
            refine (KW.out w4).mono ?_
            rintro r w8 ⟨f8, t8, hw8, rfl, n8, rfl⟩
            obtain ⟨rfl, rfl⟩ := IW.out.det hw8
            have E3 := hide (error_right 5 (errV 5) (World.drewN w4 n8) (HG.out.below HGL.out (below_drewN b5 n8)) (errV_is 5))
            go_wp2_with fail
            refine (E3.out).mono ?_
            rintro r w9 ⟨rfl, hb9⟩
            have b9 := below_two (below_drewN b5 n8) hb9
            clear hb9 E3 hw8
            go_wp2
            go_ret
            exact ⟨ret_bool (by first | rfl | simp), b9⟩
        · have IW : Hid (IsWhen k e s 0 T) := Or.inl ⟨rfl, hT, hx, hq⟩
          clear hS hx hq
          go_upto_region 25 with fail
          go_cut [138] (fun t wx => t = .bool false ∧ w4 = wx)
          case first =>
            by_cases h1 : (T : Int) + 1 ≤ 1000
            · go_wp2
              go_meet
              exact ⟨by first | rfl | simp, rfl⟩
            · go_wp2
              go_meet
              exact ⟨by first | rfl | simp, rfl⟩
          case rest =>
          obtain ⟨rfl, rfl⟩ := hcut
          go_wp2_with fail
          refine (KW.out w4).mono ?_
          rintro r w8 ⟨f8, t8, hw8, rfl, n8, rfl⟩
          obtain ⟨rfl, rfl⟩ := IW.out.det hw8
          have E3 := hide (error_right 0 (errV 0) (World.drewN w4 n8) (HG.out.below HGL.out (below_drewN b5 n8)) (errV_is 0))
          go_wp2_with fail
          refine (E3.out).mono ?_
          rintro r w9 ⟨rfl, hb9⟩
          have b9 := below_two (below_drewN b5 n8) hb9
          clear hb9 E3 hw8
          go_wp2
          go_ret
          exact ⟨ret_bool (by first | rfl | simp), b9⟩
end Go.Proofs.YtkbnoebhckngaaaDoor
