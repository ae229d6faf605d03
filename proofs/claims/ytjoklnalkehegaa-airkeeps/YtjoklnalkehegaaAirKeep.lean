/-
  The walk of 'dropletmill/droplaw2.AirKeeps'. Lemmas for the law above; no statement is proved here.
-/
import Derived.Test.YtjoklnalkehegaaAirKp
import Derived.Test.YtjoklnalkehegaaDFrame
import Derived.Test.YtjoklnalkehegaaRowsI
import Derived.Deep.CutBlock
import Derived.Deep.DeepCutAuto
import Derived.Deep.QuietTactic
import Derived.BigQuiet
import Derived.Maps.AppendAt
namespace Go.Proofs.Ytjoklnalkehegaa
open Go.RowKit Go.Maps
set_option linter.unusedVariables false
set_option maxRecDepth 100000

set_option maxHeartbeats 8000000 in
theorem airKeeps_walk (vl : Value) (ln : Nat) (s : Nat → Int) (d : Nat → ByteArray) {W : World} (hl : DropsAt W vl ln s d) (v : Value) (sn : Nat) (R : Nat → RowI) (hv : RowsAt W v sn R) :
    Calls Try.prog 3 #[vl, v] W fun e w' => e = .returned (.bool true) ∧ Below W.heap.size W w' := by
  obtain ⟨av, cv, rfl, hv1, hv2, hv3, hv4⟩ := hv
  have HV3 := hide hv3
  have HV4 := hide hv4
  obtain ⟨al, cl, rfl, hcl⟩ : ∃ a cap, vl = .slice a ln cap ∧ (0 < ln → ∃ b o, a = some ⟨b, o, none⟩ ∧ ln ≤ cap ∧ cap ≤ maxLen ∧ ∀ i, i < ln → W.cell? ⟨b, o + i * 2, none⟩ = some (.int .i64 (s i)) ∧ W.cell? ⟨b, o + i * 2 + 1, none⟩ = some (.string (d i)) ∧ (d i).size ≤ maxLen ∧ (Lit.int .i64 (s i)).wf = true) := by
    rcases hl with ⟨rfl, a, cap, rfl⟩ | ⟨h0, b, o, cap, rfl, h1, h2, h3⟩
    · exact ⟨a, cap, rfl, fun h => by omega⟩
    · exact ⟨_, cap, rfl, fun _ => ⟨b, o, rfl, h1, h2, h3⟩⟩
  have HCL := hide hcl
  unfold maxLen at hv2
  have N := hide (anew_ok W.heap.size W (Nat.le_refl _))
  clear hv3 hv4 hl hcl
  go_enter Try.func3, Try.ntmps3
  go_wp2_with fail
  refine (N.out).mono ?_
  rintro e w1 ⟨rfl, hq1, hb1⟩
  have K := hide (asend_ok 5 ⟨#[120]⟩ hq1 (by decide))
  have HX := hide (fun w' (h : Moved w1 W.heap.size W.heap.size (.slice none 0 0) ([] ++ [(5, ⟨#[120]⟩)]) w') => h.at hq1 hb1)
  unfold dropV at K
  clear hq1 hb1 N
  go_wp2_with fail
  refine (K.out).mono ?_
  rintro e w2 ⟨rfl, hm⟩
  obtain ⟨v2, hq2, hb2⟩ := HX.out _ hm
  have K2 : Hid (Calls Try.prog 6 #[.pointer (some ⟨W.heap.size, 0, none⟩), .int .i64 0] w2 fun e w' => e = .returned (.tuple #[.agg #[.int .i64 5, .string ⟨#[120]⟩], .nilIface]) ∧ AirAt W w' W.heap.size []) :=
    (agive_in (i := 0) hq2 (by simp)).mono fun e w' ⟨he, hm⟩ => ⟨he, hm.at hq2 hb2⟩
  clear hm hq2 hb2 K HX
  go_wp2_with fail
  refine (K2.out).mono ?_
  rintro e w3 ⟨rfl, hA⟩
  have HA3 := hide (hA.below ((Below.refl _ w3).alloc (Nat.le_refl _) (.cells #[.int .i64 5, .string ⟨#[120]⟩] 30)))
  obtain ⟨⟨g0, _⟩, g1, _⟩ := dropIn_new w3 5 ⟨#[120]⟩
  simp only [Nat.zero_add] at g1
  obtain ⟨v4, hq4, hb4⟩ := HA3.out
  have K4 : Hid (Calls Try.prog 7 #[.pointer (some ⟨W.heap.size, 0, none⟩)] (w3.alloc (.cells #[.int .i64 5, .string ⟨#[120]⟩] 30)) fun e w' => ∃ a c, e = .returned (.slice a 0 c) ∧ Below W.heap.size W w') :=
    (aall_ok hq4).mono fun e w' ⟨v', he, ho, hb⟩ => by
      obtain ⟨a, c, rfl, q1, q2⟩ := own_slice ho
      exact ⟨a, c, he, below_two hb4 hb⟩
  clear hA hq4 hb4 K2
  go_wp2_with fail
  refine (K4.out).mono ?_
  rintro e w5 ⟨a5, c5, rfl, hb5⟩
  have N5 := hide (anew_ok W.heap.size w5 hb5.size)
  have HB5 := hide hb5
  clear hb5 K4 g0 g1
  go_wp2_with fail
  refine (N5.out).mono ?_
  rintro e w6 ⟨rfl, hq6, hb6⟩
  have HK0 : Hid (Keep W w6 w5.heap.size [] [] (.slice none 0 0)) := ⟨_, hq6, World.ownsRow_nil _ _ _ _, (fun i hi e => by cases e), below_two HB5.out hb6, by simp⟩
  generalize w5.heap.size = b at *
  clear hq6 hb6 HB5 N5 HA3
  go_wp2
  go_loopw [10, 11] (fun sv iv wr => ∃ (i : Nat) (S : List Drp) (aS : Option Addr) (cS : Nat), sv = .slice aS S.length cS ∧ iv = .int .i64 i ∧ i ≤ ln ∧ S.length ≤ cS ∧ cS ≤ 2 ^ 63 - 1 ∧ Keep W wr b S S (.slice aS S.length cS)) (fun _ iv _ => ln - (intOf iv).toNat)
  case atStart => exact ⟨0, [], none, 0, rfl, rfl, Nat.zero_le _, Nat.zero_le _, by omega, HK0.out⟩
  case round =>
    obtain ⟨i, S, aS, cS, rfl, rfl, hi, hS1, hS2, hK⟩ := hrel
    have HK := hide hK
    clear hK HK0
    go_upto_region 9 with fail
    go_cut [58] (fun t wx => ∃ r : Bool, t = .bool r ∧ (r = true → i < ln) ∧ wr = wx)
    case first =>
      by_cases h1 : i < ln
      · have h1' : (i : Int) < (ln : Int) := by omega
        by_cases h2 : i < 60
        · have h2' : (i : Int) < 60 := by omega
          go_wp2
          go_meet
          exact ⟨true, by first | rfl | (simp <;> omega), (fun _ => h1), rfl⟩
        · have h2' : ¬ (i : Int) < 60 := by omega
          go_wp2
          go_meet
          exact ⟨false, by first | rfl | (simp <;> omega), (fun h => by cases h), rfl⟩
      · have h1' : ¬ (i : Int) < (ln : Int) := by omega
        go_wp2
        go_meet
        exact ⟨false, by first | rfl | (simp <;> omega), (fun h => by cases h), rfl⟩
    case rest =>
    obtain ⟨r, rfl, hr, rfl⟩ := hcut
    have HR := hide hr
    clear hr
    cases r with
    | true =>
      have hiln := HR.out rfl
      obtain ⟨bl, ol, rfl, q1, q2, hc⟩ := HCL.out (by omega)
      obtain ⟨e1, e2, e3, _⟩ := hc i hiln
      have HC1 := hide e1
      have HC2 := hide e2
      have HSz := hide e3
      have e1' := cell_below HK.out.above e1
      have e2' := cell_below HK.out.above e2
      have hi0 : (0 : Int) ≤ (i : Int) := by omega
      have hi1 : (i : Int) < (ln : Int) := by omega
      unfold maxLen at q2
      clear hc e1 e2 e3 HCL HR
      generalize s i = sd at *
      generalize d i = dd at *
      by_cases hf : aF S.length sd dd.size = 0
      · obtain ⟨f1, f2, f3, f4, f5⟩ := aF_ok hf
        obtain ⟨n, rfl⟩ : ∃ n : Nat, sd = n := ⟨sd.toNat, by omega⟩
        have K := hide (HK.out.call (X' := S ++ [(n, dd)]) (fun v h => asend_ok n dd h hf))
        unfold dropV at K
        clear hf
        go_wp2_with fail
        refine (K.out).mono ?_
        rintro e w8 ⟨rfl, hK8⟩
        have HK8 := hide hK8
        have e1' := cell_below HK8.out.above HC1.out
        have e2' := cell_below HK8.out.above HC2.out
        have HK9 := hide (HK8.out.below ((Below.refl _ w8).alloc (Nat.le_refl _) (.cells #[.int .i64 (n : Nat), .string dd] 30)))
        have hbs := HK9.out.above.size
        obtain ⟨i0, hi0, hz0, hz1, hz2⟩ := info_parts Try.infoDrop
        have Hi := hide hi0
        have Hz0 := hide hz0
        have Hz1 := hide hz1
        have Hz2 := hide hz2
        have HO := hide HK9.out.row
        clear hK8 K hi0 hz0 hz1 hz2
        go_wp2_with (first | (at_builtin; refine wpList_append_own_at (w8.alloc (.cells #[.int .i64 (n : Nat), .string dd] 30)) rfl _ _ 22 rfl W.heap.size 30 i0 (.agg #[.int .i64 0, .string ⟨#[]⟩]) 2 24 Try.underlying22 Hi.out Hz0.out Hz1.out Hz2.out rfl (by decide) (.slice aS S.length cS) S.length (dC S) rfl HO.out ⟨w8.heap.size, 0, none⟩ 1 1 [.int .i64 (n : Nat), .string dd] rfl rfl (World.news_of_block (cs := #[.int .i64 (n : Nat), .string dd]) (t := 30) (fr := (0, 0)) (heap_alloc_new w8 _)) (by simp [Value.oneCell']) (by unfold maxLen; omega) (by omega) hbs ?_; intro v1 w9 ho1 hg1 hn1 ha1; obtain ⟨a1, c1, rfl, q3, q4⟩ := own_slice ho1) | fail)
        have HK10 := hide (HK9.out.grow (d := (n, dd)) f5 hg1 ho1 ha1)
        unfold maxLen at q4
        go_roundw
        case rel => exact ⟨i + 1, S ++ [(n, dd)], a1, c1, by rw [List.length_append]; rfl, by go_num, by omega, by rw [List.length_append]; exact q3, q4, by rw [List.length_append]; exact HK10.out⟩
        case measure => simp [intOf]; omega
      · have K := hide (HK.out.call (X' := S) (fun v h => (asend_bad sd dd h HSz.out hf).mono fun e w' ⟨he, hb⟩ => ⟨he, Moved.same h hb⟩))
        unfold dropV at K
        generalize aF S.length sd dd.size = ff at *
        clear hf
        go_wp2_with fail
        refine (K.out).mono ?_
        rintro e w8 ⟨rfl, hK8⟩
        have HK8 := hide hK8
        clear hK8 K
        go_wp2
        go_roundw
        case rel => exact ⟨i + 1, S, aS, cS, rfl, by go_num, by omega, hS1, hS2, HK8.out⟩
        case measure => simp [intOf]; omega
    | false =>
      have A1 := hide HK.out.all
      clear HR
      go_wp2_with fail
      refine (A1.out).mono ?_
      rintro e w8 ⟨a8, c8, rfl, q1, q2, hK8⟩
      have HK8 := hide hK8
      have hfew := HK8.out.few.2
      clear hK8 A1 q1 q2 HK
      go_wp2
      go_loopw [12, 13] (fun bv iv wr => ∃ (bt : Bool) (i : Nat) (X : List Drp), bv = .bool bt ∧ iv = .int .i64 i ∧ i ≤ sn ∧ (bt = false → X = S) ∧ (∀ d ∈ X, d ∈ S) ∧ Keep W wr b X S (.slice aS S.length cS)) (fun _ iv _ => sn - (intOf iv).toNat)
      case atStart => exact ⟨false, 0, S, rfl, rfl, Nat.zero_le _, (fun _ => rfl), (fun d h => h), HK8.out⟩
      case round =>
        obtain ⟨bt, i, X, rfl, rfl, hi, hbt, hXS, hK⟩ := hrel
        have HK := hide hK
        have HBt := hide hbt
        have HXS := hide hXS
        clear hK HK8 hbt hXS
        go_upto_region 17 with fail
        go_cut [88] (fun t wx => ∃ r : Bool, t = .bool r ∧ (r = true → i < sn) ∧ wr = wx)
        case first =>
          by_cases h1 : i < sn
          · have h1' : (i : Int) < (sn : Int) := by omega
            by_cases h2 : i < 60
            · have h2' : (i : Int) < 60 := by omega
              go_wp2
              go_meet
              exact ⟨true, by first | rfl | (simp <;> omega), (fun _ => h1), rfl⟩
            · have h2' : ¬ (i : Int) < 60 := by omega
              go_wp2
              go_meet
              exact ⟨false, by first | rfl | (simp <;> omega), (fun h => by cases h), rfl⟩
          · have h1' : ¬ (i : Int) < (sn : Int) := by omega
            go_wp2
            go_meet
            exact ⟨false, by first | rfl | (simp <;> omega), (fun h => by cases h), rfl⟩
        case rest =>
        obtain ⟨r, rfl, hr, rfl⟩ := hcut
        have HR := hide hr
        clear hr
        cases r with
        | true =>
          have hisn := HR.out rfl
          have hisn' : (i : Int) < (sn : Int) := by omega
          have hi0 : (0 : Int) ≤ (i : Int) := by omega
          obtain ⟨bv, ov, rfl, hcv⟩ := HV3.out (by omega)
          have hrow := hcv i hisn
          obtain ⟨hri, hrl⟩ := HV4.out i hisn
          generalize R i = rr at *
          have HRI := hide hri
          have HRow := hide hrow
          have hrow1 := cell_below HK.out.above hrow
          clear hrow hri hcv HR
          unfold maxLen at hrl
          unfold RowI.val at hrow1
          by_cases h2 : rr.len = 2
          · have hrv := HRI.out
            rcases hrv with ⟨e0, _⟩ | ⟨_, br, orr, cr, hrv, hc1, hc2, hc3, _⟩
            · omega
            unfold RowI.val at hrv
            rw [hrv, h2] at hrow1
            have HR2 : Hid (∀ w', Below W.heap.size W w' → w'.cell? ⟨bv, ov + i, none⟩ = some (.slice (some ⟨br, orr, none⟩) 2 cr) ∧ w'.cell? ⟨br, orr, none⟩ = some (.int .i64 (rr.f 0)) ∧ w'.cell? ⟨br, orr + 1, none⟩ = some (.int .i64 (rr.f 1))) := fun w' hb => by
              have h9 := HRow.out
              unfold RowI.val at h9
              rw [hrv, h2] at h9
              exact ⟨cell_below hb h9, cell_below hb (hc3 0 (by omega)), cell_below hb (hc3 1 (by omega))⟩
            obtain ⟨k0, k1, k2⟩ := HR2.out _ HK.out.above
            clear hrv hc3 hrow1 HRI HRow h2
            generalize rr.f 0 = x at *
            generalize rr.f 1 = y at *
            have HOut : Hid (¬ (0 ≤ y ∧ y < (X.length : Int)) → y < 0 ∨ (X.length : Int) ≤ y) := fun h => by omega
            by_cases hx0 : x = 0
            · subst hx0
              by_cases hy : 0 ≤ y ∧ y < (X.length : Int)
              · obtain ⟨k, rfl⟩ : ∃ k : Nat, y = k := ⟨y.toNat, by omega⟩
                have K := hide (HK.out.call (fun v h => alose_in (i := k) h (by omega)))
                clear hy HOut
                go_wp2_with fail
                refine (K.out).mono ?_
                rintro e w9 ⟨rfl, hK9⟩
                have HK9 := hide hK9
                obtain ⟨k0', k1', k2'⟩ := HR2.out _ hK9.above
                clear hK9 K
                go_wp2
                go_roundw
                case rel => exact ⟨true, i + 1, X.eraseIdx k, rfl, by go_num, by omega, (fun h => by cases h), (fun d hd => HXS.out d (List.mem_of_mem_eraseIdx hd)), HK9.out⟩
                case measure => simp [intOf]; omega
              · have K := hide (HK.out.call (fun v h => (alose_out (i := y) h (HOut.out hy)).mono fun e w' ⟨he, hw⟩ => ⟨he, Moved.same h (hw ▸ Below.refl _ _)⟩))
                clear hy HOut
                go_wp2_with fail
                refine (K.out).mono ?_
                rintro e w9 ⟨rfl, hK9⟩
                have HK9 := hide hK9
                obtain ⟨k0', k1', k2'⟩ := HR2.out _ hK9.above
                clear hK9 K
                go_wp2
                go_roundw
                case rel => exact ⟨bt, i + 1, X, rfl, by go_num, by omega, HBt.out, HXS.out, HK9.out⟩
                case measure => simp [intOf]; omega
            · have hx0' : (x == 0) = false := by rw [beq_eq_false_iff_ne]; exact hx0
              by_cases hx1 : x = 1
              · subst hx1
                clear hx0 hx0'
                by_cases hy : 0 ≤ y ∧ y < (X.length : Int)
                · obtain ⟨k, rfl⟩ : ∃ k : Nat, y = k := ⟨y.toNat, by omega⟩
                  have hk : k < X.length := by omega
                  have hgd : ∀ v, AQ wr W.heap.size b v X → 1 ≤ (dAt X k).1 ∧ (dAt X k).1 ≤ 10000 ∧ 1 ≤ (dAt X k).2.size ∧ (dAt X k).2.size ≤ 8 := fun v h => h.good _ (dAt_mem hk)
                  have HMem := hide (HXS.out _ (dAt_mem hk))
                  have K : Hid (Calls Try.prog 9 #[.pointer (some ⟨b, 0, none⟩), .int .i64 k] wr fun e w' => ∃ (full : Bool), e = .returned (if full then .iface 39 (.int .i64 4) else .nilIface) ∧ Keep W w' b (if full then X else X ++ [dAt X k]) S (.slice aS S.length cS)) := by
                    have h9 := HK.out.call (X' := aPut X (dAt X k).1 (dAt X k).2) (fun v h => atwice_in h hk)
                    obtain ⟨v, hq, _⟩ := HK.out
                    have hg := hgd v hq
                    unfold aPut aErr at h9
                    rw [aF_of_good hg] at h9
                    by_cases c : 60 ≤ X.length
                    · rw [if_pos c, if_neg (by omega), if_neg (by omega)] at h9
                      exact h9.mono fun e w' ⟨he, hk⟩ => ⟨true, he, hk⟩
                    · rw [if_neg c, if_pos rfl, if_pos rfl] at h9
                      exact h9.mono fun e w' ⟨he, hk⟩ => ⟨false, he, hk⟩
                  clear hy HOut hgd hk
                  generalize dAt X k = dk at *
                  go_wp2_with fail
                  refine (K.out).mono ?_
                  rintro e w9 ⟨full, rfl, hK9⟩
                  have HK9 := hide hK9
                  clear hK9 K
                  cases full with
                  | true =>
                    go_wp2
                    go_roundw
                    case rel => exact ⟨bt, i + 1, X, rfl, by go_num, by omega, HBt.out, HXS.out, HK9.out⟩
                    case measure => simp [intOf]; omega
                  | false =>
                    go_wp2
                    go_roundw
                    case rel => exact ⟨true, i + 1, X ++ [dk], rfl, by go_num, by omega, (fun h => by cases h), (fun d hd => (List.mem_append.1 hd).elim (HXS.out d) (fun h => by rw [List.mem_singleton.1 h]; exact HMem.out)), HK9.out⟩
                    case measure => simp [intOf]; omega
                · have K := hide (HK.out.call (fun v h => (atwice_out (i := y) h (HOut.out hy)).mono fun e w' ⟨he, hw⟩ => ⟨he, Moved.same h (hw ▸ Below.refl _ _)⟩))
                  clear hy HOut
                  go_wp2_with fail
                  refine (K.out).mono ?_
                  rintro e w9 ⟨rfl, hK9⟩
                  have HK9 := hide hK9
                  clear hK9 K
                  go_wp2
                  go_roundw
                  case rel => exact ⟨bt, i + 1, X, rfl, by go_num, by omega, HBt.out, HXS.out, HK9.out⟩
                  case measure => simp [intOf]; omega
              · have hx1' : (x == 1) = false := by rw [beq_eq_false_iff_ne]; exact hx1
                clear hx0 hx1 HOut
                go_wp2
                go_roundw
                case rel => exact ⟨bt, i + 1, X, rfl, by go_num, by omega, HBt.out, HXS.out, HK.out⟩
                case measure => simp [intOf]; omega
          · have h2' : ((rr.len : Int) != 2) = true := by rw [bne_iff_ne]; omega
            clear HRI HRow h2
            go_wp2
            go_roundw
            case rel => exact ⟨bt, i + 1, X, rfl, by go_num, by omega, HBt.out, HXS.out, HK.out⟩
            case measure => simp [intOf]; omega
        | false =>
          clear HR HV3 HV4 HCL
          go_wp2
          go_loopw [14] (fun iv wr => ∃ (i : Nat) (X : List Drp), iv = .int .i64 i ∧ X.length + i ≤ 60 ∧ (bt = false → X = S.drop i) ∧ (∀ d ∈ X, d ∈ S) ∧ Keep W wr b X S (.slice aS S.length cS)) (fun iv _ => 60 - (intOf iv).toNat)
          case atStart => exact ⟨0, X, rfl, HK.out.few.1, HBt.out, HXS.out, HK.out⟩
          case round =>
            clear HBt HXS HK hi
            obtain ⟨i, X, rfl, hi, hbt, hXS, hK⟩ := hrel
            have HK := hide hK
            have HBt := hide hbt
            have HXS := hide hXS
            clear hK hbt hXS
            go_upto_region 25 with fail
            go_cut [140] (fun t wx => ∃ r : Bool, t = .bool r ∧ (r = true → 0 < X.length ∧ i < 60) ∧ (r = false → X = []) ∧ Keep W wx b X S (.slice aS S.length cS))
            case first =>
              by_cases h1 : i < 60
              · have h1' : (i : Int) < 60 := by omega
                have A := hide HK.out.all
                go_wp2_with fail
                refine (A.out).mono ?_
                rintro e w8 ⟨a8, c8, rfl, q1, q2, hK8⟩
                have HK8 := hide hK8
                clear hK8 A q1 q2
                by_cases h2 : 0 < X.length
                · have h2' : (0 : Int) < (X.length : Int) := by omega
                  go_wp2
                  go_meet
                  exact ⟨true, by first | rfl | (simp <;> omega), (fun _ => ⟨h2, h1⟩), (fun h => by cases h), HK8.out⟩
                · have h2' : ¬ (0 : Int) < (X.length : Int) := by omega
                  have h3 : X = [] := List.eq_nil_of_length_eq_zero (by omega)
                  have H3 := hide h3
                  clear h3
                  go_wp2
                  go_meet
                  exact ⟨false, by first | rfl | (simp <;> omega), (fun h => by cases h), (fun _ => H3.out), HK8.out⟩
              · have h1' : ¬ (i : Int) < 60 := by omega
                have h3 : X = [] := List.eq_nil_of_length_eq_zero (by omega)
                have H3 := hide h3
                clear h3
                go_wp2
                go_meet
                exact ⟨false, by first | rfl | (simp <;> omega), (fun h => by cases h), (fun _ => H3.out), HK.out⟩
            case rest =>
            obtain ⟨r, rfl, hr1, hr2, hK⟩ := hcut
            have HK := hide hK
            have HR1 := hide hr1
            have HR2 := hide hr2
            clear hK hr1 hr2
            cases r with
            | false =>
              obtain rfl := HR2.out rfl
              have A := hide HK.out.all
              clear HR1 HR2
              go_wp2_with fail
              refine (A.out).mono ?_
              rintro e w8 ⟨a8, c8, rfl, q1, q2, hK8⟩
              have HB8 := hide hK8.above
              clear hK8 A q1 q2
              go_wp2
              go_ret
              exact ⟨rfl, HB8.out⟩
            | true =>
              obtain ⟨hpos, h60⟩ := HR1.out rfl
              have HMem := hide (HXS.out _ (dAt_mem hpos))
              have HNx : Hid (bt = false → i < S.length ∧ dAt S i = dAt X 0) := fun h => by
                have e := HBt.out h
                rw [e] at hpos ⊢
                rw [List.length_drop] at hpos
                exact ⟨by omega, dAt_drop.symm⟩
              have HXe : Hid (∀ d ∈ X.eraseIdx 0, d ∈ S) := fun d hd => HXS.out d (List.mem_of_mem_eraseIdx hd)
              have HBe : Hid (bt = false → X.eraseIdx 0 = S.drop (i + 1)) := fun h => by rw [eraseIdx_zero, HBt.out h, List.drop_drop]
              have HLe : Hid ((X.eraseIdx 0).length + (i + 1) ≤ 60) := by unfold Hid; rw [List.length_eraseIdx_of_lt hpos]; omega
              have K : Hid (Calls Try.prog 6 #[.pointer (some ⟨b, 0, none⟩), .int .i64 0] wc fun e w' => e = .returned (.tuple #[.agg #[.int .i64 ((dAt X 0).1 : Nat), .string (dAt X 0).2], .nilIface]) ∧ Keep W w' b (X.eraseIdx 0) S (.slice aS S.length cS)) := HK.out.call (fun v h => agive_in (i := 0) h hpos)
              clear HR1 HR2 HXS HBt hpos hi
              generalize X.eraseIdx 0 = X' at *
              generalize dAt X 0 = d0 at *
              obtain ⟨n, dd⟩ := d0
              simp only at K
              go_wp2_with fail
              refine (K.out).mono ?_
              rintro e w9 ⟨rfl, hK9⟩
              have HK10 := hide (hK9.below ((Below.refl _ w9).alloc (Nat.le_refl _) (.cells #[.int .i64 (n : Nat), .string dd] 30)))
              have HD10 := hide (dropIn_new w9 (n : Nat) dd)
              clear hK9 K HK
              go_upto_region 28 with fail
              generalize w9.alloc (.cells #[.int .i64 (n : Nat), .string dd] 30) = w10 at *
              generalize w9.heap.size = dq at *
              clear w9
              go_cut [167] (fun t wx => t = .bool false ∧ Keep W wx b X' S (.slice aS S.length cS) ∧ DropIn wx dq (n : Nat) dd)
              case first =>
                obtain ⟨⟨z0, _⟩, z1, _⟩ := HD10.out
                simp only [Nat.zero_add] at z1
                have HEND : Hid (∀ m, Keep W (w10.drewN m) b X' S (.slice aS S.length cS) ∧ DropIn (w10.drewN m) dq (n : Nat) dd) := fun m => ⟨HK10.out.below (below_drewN (Below.refl _ _) m), HD10.out.below (below_drewN (Below.refl _ _) m)⟩
                cases bt with
                | true =>
                  go_wp2_with fail
                  go_quiet (fail)
                  go_wp2
                  go_meet
                  exact ⟨by first | rfl | (simp <;> omega), (HEND.out _).1, (HEND.out _).2⟩
                | false =>
                  obtain ⟨hiS, hdS⟩ := HNx.out rfl
                  obtain ⟨a, cap, hv, q1, q2, q3, q4⟩ := own_drops HK10.out.row
                  injection hv with ea _ ec
                  subst ea ec
                  obtain ⟨g, rfl⟩ := q3 (by omega)
                  obtain ⟨y0, y1⟩ := q4 g rfl i hiS
                  rw [hdS] at y0 y1
                  simp only at y0 y1
                  have hlt' : (i : Int) < (S.length : Int) := by omega
                  have hge : decide ((S.length : Int) ≤ (i : Int)) = false := decide_eq_false (by omega)
                  have hi0 : (0 : Int) ≤ (i : Int) := by omega
                  clear q3 q4 hdS
                  go_wp2_with fail
                  go_quiet (fail)
                  go_wp2
                  go_meet
                  exact ⟨by first | rfl | (simp <;> omega), (HEND.out _).1, (HEND.out _).2⟩
              case rest =>
              obtain ⟨rfl, hK11, hD11⟩ := hcut
              have HK11 := hide hK11
              have HD11 := hide hD11
              clear hK11 hD11 HK10 HD10 HNx
              generalize wc = w11 at *
              have hfew := HK11.out.few.2
              obtain ⟨a, cap, hv, q1, q2, q3, q4⟩ := own_drops HK11.out.row
              injection hv with ea _ ec
              subst ea ec
              have HQ3 := hide q3
              have HQ4 := hide q4
              obtain ⟨⟨z0, _⟩, z1, _⟩ := HD11.out
              simp only [Nat.zero_add] at z1
              clear q1 q2 q3 q4
              go_wp2
              go_loopw [17, 18] (fun wv jv wr => ∃ (wb : Bool) (j : Nat), wv = .bool wb ∧ jv = .int .i64 j ∧ j ≤ S.length ∧ (wb = false → ∀ q, q < j → dAt S q ≠ (n, dd)) ∧ Below w11.heap.size w11 wr) (fun _ jv _ => S.length - (intOf jv).toNat)
              case atStart => exact ⟨false, 0, rfl, rfl, Nat.zero_le _, (fun _ q hq => absurd hq (Nat.not_lt_zero _)), Below.refl _ _⟩
              case round =>
                obtain ⟨wb, j, rfl, rfl, hj, hno, hb⟩ := hrel
                have HNo := hide hno
                have HB := hide hb
                have z0' := cell_below hb z0
                have z1' := cell_below hb z1
                clear hno hb
                by_cases hlt : j < S.length
                · have hlt' : (j : Int) < (S.length : Int) := by omega
                  have hj0 : (0 : Int) ≤ (j : Int) := by omega
                  obtain ⟨g, rfl⟩ := HQ3.out (by omega)
                  obtain ⟨y0, y1⟩ := HQ4.out g rfl j hlt
                  have y0' := cell_below HB.out y0
                  have y1' := cell_below HB.out y1
                  clear y0 y1
                  cases wb with
                  | true =>
                    clear y0' y1'
                    go_wp2_with fail
                    go_quiet (fail)
                    go_wp2
                    go_roundw
                    case rel => exact ⟨true, j + 1, by first | rfl | simp, by go_num, by omega, (fun h => by cases h), below_drewN HB.out _⟩
                    case measure => simp [intOf]; omega
                  | false =>
                    by_cases heq : dAt S j = (n, dd)
                    · rw [heq] at y0' y1'
                      simp only at y0' y1'
                      clear heq
                      go_wp2_with fail
                      go_quiet (fail)
                      go_wp2
                      go_roundw
                      case rel => exact ⟨true, j + 1, by first | rfl | simp, by go_num, by omega, (fun h => by cases h), below_drewN HB.out _⟩
                      case measure => simp [intOf]; omega
                    · have HNq : Hid (∀ q, q < j + 1 → dAt S q ≠ (n, dd)) := fun q hq => by
                        by_cases c : q = j
                        · rw [c]; exact heq
                        · exact HNo.out rfl q (by omega)
                      generalize dAt S j = dj at *
                      obtain ⟨nj, bj⟩ := dj
                      simp only at y0' y1'
                      have hne : ¬ (nj = n ∧ bj = dd) := fun h => heq (by rw [h.1, h.2])
                      clear heq
                      by_cases c : nj = n
                      · subst c
                        have hbn : ¬ bj = dd := fun h => hne ⟨rfl, h⟩
                        have q1 : (bj.toList == dd.toList) = false := by
                          rw [beq_eq_false_iff_ne, ByteArray.toList_eq, ByteArray.toList_eq]
                          exact fun e => hbn (ByteArray.ext (Array.toList_inj.1 e))
                        clear hne hbn
                        go_wp2_with fail
                        go_quiet (fail)
                        go_wp2
                        go_roundw
                        case rel => exact ⟨false, j + 1, by first | rfl | simp, by go_num, by omega, (fun _ => HNq.out), below_drewN HB.out _⟩
                        case measure => simp [intOf]; omega
                      · have q1 : ((nj : Int) == (n : Int)) = false := by rw [beq_eq_false_iff_ne]; omega
                        clear hne c
                        go_wp2_with fail
                        go_quiet (fail)
                        go_wp2
                        go_roundw
                        case rel => exact ⟨false, j + 1, by first | rfl | simp, by go_num, by omega, (fun _ => HNq.out), below_drewN HB.out _⟩
                        case measure => simp [intOf]; omega
                · obtain rfl : j = S.length := by omega
                  have hlt' : ¬ (S.length : Int) < (S.length : Int) := by omega
                  have hw : wb = true := by
                    cases wb with
                    | true => rfl
                    | false =>
                      obtain ⟨q, hq, e⟩ := List.getElem_of_mem HMem.out
                      exact absurd (by rw [← e]; simp [dAt, List.getD, hq]) (HNo.out rfl q hq)
                  subst hw
                  have HK12 := hide (HK11.out.below HB.out)
                  clear HNo HQ3 HQ4 z0 z1 z0' z1'
                  go_wp2
                  go_roundw
                  case rel => exact ⟨i + 1, X', by go_num, HLe.out, HBe.out, HXe.out, HK12.out⟩
                  case measure => simp [intOf]; omega
end Go.Proofs.Ytjoklnalkehegaa
