/-
  The walk of 'dropletmill/droplaw2.AirPlays'. Lemmas for the law above; no statement is proved here.
-/
import Derived.Test.YtjoklnalkehegaaDoorAirTwo
import Derived.Test.YtjoklnalkehegaaDoorDFrame
import Derived.Test.YtjoklnalkehegaaDoorRowsI
import Derived.Test.YtjoklnalkehegaaDoorErrIs
import Derived.Test.YtjoklnalkehegaaDoorInOwn
import Derived.Deep.CutBlock
import Derived.Deep.DeepCutAuto
import Derived.Deep.QuietTactic
import Derived.BigQuiet
import Derived.Deep.RegionLaw
namespace Go.Proofs.YtjoklnalkehegaaDoor
open Go.RowKit Go.Maps
set_option linter.unusedVariables false
set_option maxRecDepth 100000

theorem two_new {w0 w1 : World} (h : AQ w1 w0.heap.size w0.heap.size (.slice none 0 0) []) (hb : Below w0.heap.size w0 w1) (t : TypeId) : Two w0 (w1.alloc (.cells #[.slice none 0 0] t)) w0.heap.size w1.heap.size [] [] [] := by
  have hlt := (h.lt w0.heap.size (Or.inl rfl)).2
  refine ⟨.slice none 0 0, .slice none 0 0, h.below ((Below.refl _ w1).alloc (Nat.le_refl _) _), aq_new w1 t hb.size, fun i hi hr => ?_, below_two hb ((Below.refl _ w1).alloc (Nat.le_refl _) _), fun q hq => by cases hq⟩
  rcases hi with rfl | e
  · rcases hr with e | e
    · omega
    · cases e
  · cases e

set_option maxHeartbeats 8000000 in
theorem airPlays_walk (v : Value) (sn : Nat) (R : Nat → RowI) (vl : Value) (ln : Nat) (s : Nat → Int) (d : Nat → ByteArray) (W : World) (hv : RowsAt W v sn R) (hl : DropsAt W vl ln s d) (hg : HasErr W) :
    Calls Tryd.prog 4 #[v, vl] W fun e w' => e = .returned (.bool true) ∧ Below W.heap.size W w' := by
  have HG := hide hg
  have HGL := hide hg.lt
  obtain ⟨av, cv, rfl, hv1, hv2, hv3, hv4⟩ := hv
  have HV3 := hide hv3
  have HV4 := hide hv4
  obtain ⟨al, cl, rfl, hcl⟩ : ∃ a cap, vl = .slice a ln cap ∧ (0 < ln → ∃ b o, a = some ⟨b, o, none⟩ ∧ ln ≤ cap ∧ cap ≤ maxLen ∧ ∀ i, i < ln → W.cell? ⟨b, o + i * 2, none⟩ = some (.int .i64 (s i)) ∧ W.cell? ⟨b, o + i * 2 + 1, none⟩ = some (.string (d i)) ∧ (d i).size ≤ maxLen ∧ (Lit.int .i64 (s i)).wf = true) := by
    rcases hl with ⟨rfl, a, cap, rfl⟩ | ⟨h0, b, o, cap, rfl, h1, h2, h3⟩
    · exact ⟨a, cap, rfl, fun h => by omega⟩
    · exact ⟨_, cap, rfl, fun _ => ⟨b, o, rfl, h1, h2, h3⟩⟩
  have HCL := hide hcl
  unfold maxLen at hv2
  have HLn : Hid (ln ≤ 9223372036854775807) := by
    unfold Hid
    by_cases h : 0 < ln
    · obtain ⟨_, _, _, q1, q2, _⟩ := hcl h
      unfold maxLen at q2; omega
    · omega
  have N := hide (anew_ok W.heap.size W (Nat.le_refl _))
  clear hg hv3 hv4 hl hcl
  go_enter Tryd.func4, Tryd.ntmps4
  go_wp2_with fail
  refine (N.out).mono ?_
  rintro e w1 ⟨rfl, hq1, hb1⟩
  have HT0 := hide (two_new hq1 hb1 40)
  clear hq1 hb1 N
  go_wp2_with fail
  generalize w1.alloc (.cells #[.slice none 0 0] 40) = w2 at *
  generalize w1.heap.size = m at *
  generalize hb : W.heap.size = b at *
  clear w1
  have HGE : Hid (∀ w', Below W.heap.size W w' → HasErr w') := fun w' h => HG.out.below (by rw [hb]; exact HGL.out) h
  go_loopw [7, 8] (fun tv iv wr => ∃ (t i : Nat) (X : List Drp), tv = .int .i64 t ∧ iv = .int .i64 i ∧ t ≤ ln ∧ i ≤ sn ∧ Two W wr b m X X []) (fun _ iv _ => sn - (intOf iv).toNat)
  case atStart => exact ⟨0, 0, [], rfl, rfl, Nat.zero_le _, Nat.zero_le _, HT0.out⟩
  case round =>
    obtain ⟨t, i, X, rfl, rfl, ht, hi, hT⟩ := hrel
    have HT := hide hT
    clear hT HT0
    go_upto_region 5 with fail
    go_cut [30] (fun t wx => ∃ r : Bool, t = .bool r ∧ (r = true → i < sn) ∧ wr = wx)
    case first =>
      by_cases h1 : i < sn
      · have h1' : (i : Int) < (sn : Int) := by omega
        by_cases h2 : i < 150
        · have h2' : (i : Int) < 150 := by omega
          go_wp2
          go_meet
          exact ⟨true, by first | rfl | (simp <;> omega), (fun _ => h1), rfl⟩
        · have h2' : ¬ (i : Int) < 150 := by omega
          go_wp2
          go_meet
          exact ⟨false, by first | rfl | (simp <;> omega), (fun h => by cases h), rfl⟩
      · have h1' : ¬ (i : Int) < (sn : Int) := by omega
        go_wp2
        go_meet
        exact ⟨false, by first | rfl | (simp <;> omega), (fun h => by cases h), rfl⟩
    case rest =>
    obtain ⟨r, rfl, hr, rfl⟩ := hcut
    have HR := hide hr
    clear hr
    cases r with
    | false =>
      go_wp2
      go_ret
      exact ⟨rfl, HT.out.above⟩
    | true =>
      have hisn := HR.out rfl
      have hisn' : (i : Int) < (sn : Int) := by omega
      obtain ⟨bv, ov, rfl, hcv⟩ := HV3.out (by omega)
      have hrow := hcv i hisn
      obtain ⟨hri, hrl⟩ := HV4.out i hisn
      generalize R i = r at *
      have HRI := hide hri
      have HRow := hide hrow
      clear hrow hri hcv HR
      unfold maxLen at hrl
      have HTA := hide (HT.out.alloc (.cells #[.int .i64 0, .int .i64 0] 41))
      have HI0 := hide (irow_two wr 41)
      have HAb0 := hide ((Below.refl wr.heap.size wr).alloc (Nat.le_refl _) (.cells #[.int .i64 0, .int .i64 0] 41))
      go_upto_region 8 with fail
      generalize wr.alloc (.cells #[.int .i64 0, .int .i64 0] 41) = w3 at *
      have HAb : Hid (Below wr.heap.size wr w3) := HAb0.out
      clear HAb0
      generalize hq : wr.heap.size = q at *
      have HQB : Hid (b ≤ q) := by unfold Hid; rw [← hb, ← hq]; exact HT.out.above.size
      clear hq
      go_wp2
      go_loopw [10] (fun jv wz => ∃ (j : Nat) (f : Nat → Int), jv = .int .i64 j ∧ j ≤ 2 ∧ j ≤ r.len ∧ IRow wz q 2 f ∧ Two W wz b m X X [q]) (fun jv _ => 2 - (intOf jv).toNat)
      case atStart => exact ⟨0, fun _ => 0, rfl, Nat.zero_le _, Nat.zero_le _, HI0.out, HTA.out⟩
      case round =>
        obtain ⟨j, f, rfl, hj2, hjl, hI, hT⟩ := hrel
        have HI := hide hI
        have HT2 := hide hT
        have hrow := cell_below HT2.out.above HRow.out
        clear hI hT HTA HI0
        unfold RowI.val at hrow
        have hisn0 : (0 : Int) ≤ (i : Int) := by omega
        go_upto_region 9 with fail
        go_cut [43] (fun t wx => ∃ r2 : Bool, t = .bool r2 ∧ (r2 = true → j < r.len ∧ j < 2) ∧ wr = wx)
        case first =>
          by_cases h1 : j < r.len
          · have h1' : (j : Int) < (r.len : Int) := by omega
            by_cases h2 : j < 2
            · have h2' : (j : Int) < 2 := by omega
              go_wp2
              go_meet
              exact ⟨true, by first | rfl | (simp <;> omega), (fun _ => ⟨h1, h2⟩), rfl⟩
            · have h2' : ¬ (j : Int) < 2 := by omega
              go_wp2
              go_meet
              exact ⟨false, by first | rfl | (simp <;> omega), (fun h => by cases h), rfl⟩
          · have h1' : ¬ (j : Int) < (r.len : Int) := by omega
            go_wp2
            go_meet
            exact ⟨false, by first | rfl | (simp <;> omega), (fun h => by cases h), rfl⟩
        case rest =>
        obtain ⟨r2, rfl, hr2, rfl⟩ := hcut
        have HR2 := hide hr2
        clear hr2
        cases r2 with
        | true =>
          obtain ⟨h1, h2⟩ := HR2.out rfl
          have hrv := HRI.out
          rcases hrv with ⟨e0, _⟩ | ⟨_, br, orr, cr, hrv, hc1, hc2, hc3, _⟩
          · omega
          unfold RowI.val at hrv
          have hcj := cell_below HT2.out.above (hc3 j h1)
          obtain ⟨qc, qf⟩ := HI.out j h2
          have h1' : (j : Int) < (r.len : Int) := by omega
          have h2' : (j : Int) < 2 := by omega
          have hj0 : (0 : Int) ≤ (j : Int) := by omega
          have HIs := hide (HI.out.set j (r.f j))
          have HTs := hide (HT2.out.set (a := ⟨q, j, none⟩) (List.mem_singleton.2 rfl) (.int .i64 (r.f j)))
          rw [hrv] at hrow
          clear hc3 HR2 hrv
          generalize r.f j = y at *
          go_wp2
          go_roundw
          case rel => exact ⟨j + 1, _, by go_num, by omega, by omega, HIs.out, HTs.out⟩
          case measure => simp [intOf]; omega
        | false =>
          clear HR2 hrow HRI HRow
          have HP : Hid (∃ x y, Pair wr q x y) := ⟨f 0, f 1, (HI.out 0 (by omega)).1, (HI.out 1 (by omega)).1⟩
          obtain ⟨x, y, hp⟩ := HP.out
          have HPr := hide hp
          clear hp HP HI
          go_upto_region 12 with fail
          go_cut [11] (fun t wx => ∃ ins : Bool, t = .bool ins ∧ (ins = true ↔ 0 ≤ y ∧ y < X.length) ∧ Pair wx q x y ∧ Two W wx b m X X [q])
          case first =>
            obtain ⟨c0, c1⟩ := HPr.out
            obtain ⟨am, capm, cm, cl1, cl2, _⟩ := HT2.out.look
            unfold maxLen at cl2
            have HEND : Hid (∀ n, Pair (wr.drewN n) q x y ∧ Two W (wr.drewN n) b m X X [q]) := fun n => ⟨HPr.out.below (below_drewN (Below.refl _ _) n), HT2.out.below (below_drewN (Below.refl _ _) n)⟩
            by_cases h1 : 0 ≤ y
            · by_cases h2 : y < (X.length : Int)
              · go_wp2_with fail
                go_quiet (fail)
                go_wp2
                go_meet
                exact ⟨true, by first | rfl | (simp <;> omega), by simp <;> omega, (HEND.out _).1, (HEND.out _).2⟩
              · go_wp2_with fail
                go_quiet (fail)
                go_wp2
                go_meet
                exact ⟨false, by first | rfl | (simp <;> omega), by simp <;> omega, (HEND.out _).1, (HEND.out _).2⟩
            · have hd1 : decide (0 ≤ y) = false := decide_eq_false h1
              go_wp2_with fail
              go_quiet (fail)
              go_wp2
              go_meet
              exact ⟨false, by first | rfl | (simp <;> omega), by simp <;> omega, (HEND.out _).1, (HEND.out _).2⟩
          case rest =>
          obtain ⟨ins, rfl, hins, hp, hT⟩ := hcut
          have HIns := hide hins
          have HPc := hide hp
          have HTc := hide hT
          clear hins hp hT HPr HT2
          generalize wc = w5 at *
          obtain ⟨c0, c1⟩ := HPc.out
          go_upto_block 4 with fail
          go_cut [7, 13] (fun tv dv wx => ∃ (t' : Nat) (X' : List Drp), tv = .int .i64 t' ∧ t' ≤ ln ∧ dv = .bool true ∧ Two W wx b m X' X' [])
          case first =>
            by_cases h012 : x = 0 ∨ x = 1 ∨ x = 2
            · have HTd := hide (HTc.out.alloc (.cells #[.int .i64 0, .string ⟨#[]⟩] 23))
              have HD0 := hide (dropIn_new w5 0 ⟨#[]⟩)
              clear HPc c1
              have HTl := hide ht
              go_upto_if 87 with fail
              go_cut [87] (fun t wx => t = .bool true ∧ w5 = wx)
              case first =>
                rcases h012 with rfl | rfl | rfl
                · go_wp2
                  go_meet
                  exact ⟨by first | rfl | simp, rfl⟩
                · go_wp2
                  go_meet
                  exact ⟨by first | rfl | simp, rfl⟩
                · go_wp2
                  go_meet
                  exact ⟨by first | rfl | simp, rfl⟩
              case rest =>
              obtain ⟨rfl, rfl⟩ := hcut
              clear h012 c0
              as_aux_lemma =>
                go_upto_region 23 with fail
                generalize w5.alloc (.cells #[.int .i64 0, .string ⟨#[]⟩] 23) = w6 at *
                generalize w5.heap.size = dq at *
                go_upto_if 94 with fail
                go_cut [7] (fun tv wx => ∃ (t' : Nat) (sd : Int) (dd : ByteArray), tv = .int .i64 t' ∧ t' ≤ ln ∧ DropIn wx dq sd dd ∧ dd.size ≤ maxLen ∧ Two W wx b m X X [dq, q])
                case first =>
                  by_cases hlt : t < ln
                  · obtain ⟨bl, ol, rfl, q1, q2, hc⟩ := HCL.out (by omega)
                    obtain ⟨e1, e2, e3, _⟩ := hc t hlt
                    have e1' := cell_below HTd.out.above e1
                    have e2' := cell_below HTd.out.above e2
                    have HP2 := hide (HD0.out.put (s t) (d t))
                    have HT6 := hide ((HTd.out.set (a := ⟨dq, 0, none⟩) (by simp) (.int .i64 (s t))).set (a := ⟨dq, 0 + 1, none⟩) (by simp) (.string (d t)))
                    obtain ⟨⟨g0, gf0⟩, g1, gf1⟩ := HD0.out
                    have hlt' : (t : Int) < (ln : Int) := by omega
                    have ht0 : (0 : Int) ≤ (t : Int) := by omega
                    have hwr : IntKind.i64.wrap ((t : Int) + 1) = ((t + 1 : Nat) : Int) := by rw [IntKind.wrap_i64]; have := HLn.out; omega
                    unfold maxLen at q2
                    clear hc e1 e2
                    generalize s t = sd at *
                    generalize d t = dd at *
                    go_wp2
                    go_meet
                    exact ⟨t + 1, sd, dd, by first | rfl | simp, by omega, HP2.out, e3, HT6.out⟩
                  · have hlt' : ¬ (t : Int) < (ln : Int) := by omega
                    go_wp2
                    go_meet
                    exact ⟨t, 0, ⟨#[]⟩, rfl, HTl.out, HD0.out, Nat.zero_le _, HTd.out⟩
                case rest =>
                  obtain ⟨t2, sd, dd, rfl, ht2, hd2, hsz, hT2⟩ := hcut
                  have HTl2 := hide ht2
                  have HD2 := hide hd2
                  have HSz := hide hsz
                  have HT2 := hide hT2
                  clear ht2 hd2 hsz hT2 HTd HD0 HTl ht
                  generalize wc = w7 at *
                  have K := hide (HT2.out.right (fun v h => rsend_any sd dd h HSz.out))
                  unfold dropV at K
                  obtain ⟨⟨g0, _⟩, g1, _⟩ := HD2.out
                  simp only [Nat.zero_add] at g1
                  go_wp2_with fail
                  refine (K.out).mono ?_
                  rintro e w8 ⟨rfl, hT8, hs8⟩
                  have HT8 := hide hT8
                  have HD8 := hide (dropIn_of_block HD2.out (hs8 dq (by simp)))
                  have K2 := hide (HT8.out.left (fun v h => asend_any sd dd h HSz.out))
                  unfold dropV at K2
                  obtain ⟨⟨g2, _⟩, g3, _⟩ := HD8.out
                  simp only [Nat.zero_add] at g3
                  clear hT8 hs8 K g0 g1
                  go_wp2_with fail
                  refine (K2.out).mono ?_
                  rintro e w9 ⟨rfl, hT9, _⟩
                  have HT9 := hide hT9
                  have E := hide (error_right (aF X.length sd dd.size : Nat) (aErr (aF X.length sd dd.size)) w9 (HGE.out _ hT9.above) (aErr_is _))
                  clear hT9 K2 g2 g3
                  generalize aF X.length sd dd.size = ff at *
                  go_wp2_with fail
                  refine (E.out).mono ?_
                  rintro e w10 ⟨rfl, hb10⟩
                  have HT10 := hide ((HT9.out.below hb10).fewer (N' := []) (fun q h => by cases h))
                  clear hb10 E
                  go_wp2
                  go_meet
                  exact ⟨t2, _, rfl, HTl2.out, rfl, HT10.out⟩
            · have hx0 : (x == 0) = false := by rw [beq_eq_false_iff_ne]; omega
              have hx1 : (x == 1) = false := by rw [beq_eq_false_iff_ne]; omega
              have hx2 : (x == 2) = false := by rw [beq_eq_false_iff_ne]; omega
              have HTl := hide ht
              clear h012
              by_cases h3 : x = 3
              · -- arm 3
                subst h3
                clear hx0 hx1 hx2
                have HTd := hide (HTc.out.alloc (.cells #[.int .i64 0, .string ⟨#[]⟩] 23))
                have HPd := hide (HPc.out.below ((Below.refl _ w5).alloc (Nat.le_refl _) (.cells #[.int .i64 0, .string ⟨#[]⟩] 23)))
                have HD0 := hide (dropIn_new w5 0 ⟨#[]⟩)
                clear c0 c1 HPc
                cases ins with
                | true =>
                  as_aux_lemma =>
                    obtain ⟨hy0, hy1⟩ := HIns.out.1 rfl
                    obtain ⟨k, rfl⟩ : ∃ k : Nat, y = k := ⟨y.toNat, by omega⟩
                    have hk : k < X.length := by omega
                    have hqd : q ≠ w5.heap.size := by
                      obtain ⟨_, _, _, _, _, _, hN⟩ := HTc.out
                      have := (hN q (by simp)).1.2
                      omega
                    have HQD := hide hqd
                    clear hqd HTc
                    go_upto_region 31 with fail
                    generalize w5.alloc (.cells #[.int .i64 0, .string ⟨#[]⟩] 23) = w6 at *
                    generalize w5.heap.size = dq at *
                    generalize hn : (dAt X k).1 = n at *
                    generalize hdd : (dAt X k).2 = dd at *
                    go_cut [119] (fun t wx => t = dropV (n : Nat) dd ∧ DropIn wx dq (n : Nat) dd ∧ Pair wx q 3 k ∧ Two W wx b m X X [dq, q])
                    case first =>
                      obtain ⟨am, capm, cm, cl1, cl2, cl3, cl4⟩ := HTd.out.look
                      obtain ⟨g, rfl⟩ := cl3 (by omega)
                      obtain ⟨d1, d2⟩ := cl4 g rfl k hk
                      rw [hn] at d1
                      rw [hdd] at d2
                      obtain ⟨p0, p1⟩ := HPd.out
                      have hbd : Below w6.heap.size w6 w6.drew := (Below.refl _ _).drew
                      have HEND : Hid (DropIn ((w6.drew.setCell ⟨dq, 0, none⟩ (.int .i64 (n : Nat))).setCell ⟨dq, 0 + 1, none⟩ (.string dd)) dq (n : Nat) dd ∧ Pair ((w6.drew.setCell ⟨dq, 0, none⟩ (.int .i64 (n : Nat))).setCell ⟨dq, 0 + 1, none⟩ (.string dd)) q 3 k ∧ Two W ((w6.drew.setCell ⟨dq, 0, none⟩ (.int .i64 (n : Nat))).setCell ⟨dq, 0 + 1, none⟩ (.string dd)) b m X X [dq, q]) :=
                        ⟨(HD0.out.below hbd).put _ _, (HPd.out.below hbd).of_block ((Below.heap_setCell _ ⟨dq, 0 + 1, none⟩ _ q HQD.out).trans (Below.heap_setCell _ ⟨dq, 0, none⟩ _ q HQD.out)), ((HTd.out.below hbd).set (a := ⟨dq, 0, none⟩) (by simp) _).set (a := ⟨dq, 0 + 1, none⟩) (by simp) _⟩
                      obtain ⟨⟨z0, zf0⟩, z1, zf1⟩ := HD0.out
                      have hk0 : (0 : Int) ≤ (k : Int) := by omega
                      have hk1 : (k : Int) < (X.length : Int) := by omega
                      unfold maxLen at cl2
                      clear cl3 cl4 hbd
                      go_region
                      all_goals
                        go_wp2_with fail
                        go_meet
                        exact ⟨rfl, HEND.out.1, HEND.out.2.1, HEND.out.2.2⟩
                    case rest =>
                    obtain ⟨_, hd2, hp2, hT2⟩ := hcut
                    have HD2 := hide hd2
                    have HT2 := hide hT2
                    have HP2 := hide hp2
                    clear hd2 hT2 hp2 HTd HPd HD0
                    generalize wc = w7 at *
                    have K := hide (HT2.out.right (fun v h => rout_ok h hk))
                    obtain ⟨g0, g1⟩ := HP2.out
                    go_wp2_with fail
                    refine (K.out).mono ?_
                    rintro e w8 ⟨rfl, hT8, hs8⟩
                    have HT8 := hide hT8
                    have HD8 := hide (dropIn_of_block HD2.out (hs8 dq (by simp)))
                    have HP8 := hide (HP2.out.of_block (hs8 q (by simp)))
                    have K2 : Hid (Calls Tryd.prog 11 #[.pointer (some ⟨b, 0, none⟩), .int .i64 k] w8 fun e w' => e = .returned (.tuple #[.agg #[.int .i64 (n : Nat), .string dd], .nilIface]) ∧ Two W w' b m (X.eraseIdx k) (X.eraseIdx k) [dq, q] ∧ Same [dq, q] w8 w') := HT8.out.left (fun v h => by have h9 := agive_in h hk; rw [hn, hdd] at h9; exact h9)
                    obtain ⟨g2, g3⟩ := HP8.out
                    clear hT8 hs8 K g0 g1
                    go_wp2_with fail
                    refine (K2.out).mono ?_
                    rintro e w9 ⟨rfl, hT9, hs9⟩
                    have HT9 := hide (hT9.alloc (.cells #[.int .i64 (n : Nat), .string dd] 23))
                    have HD9 := hide ((dropIn_of_block HD8.out (hs9 dq (by simp))).below ((Below.refl _ w9).alloc (Nat.le_refl _) (.cells #[.int .i64 (n : Nat), .string dd] 23)))
                    have HN9 := hide (dropIn_new w9 (n : Nat) dd)
                    have E := hide (error_right 0 .nilIface (w9.alloc (.cells #[.int .i64 (n : Nat), .string dd] 23)) (HGE.out _ HT9.out.above) (Or.inl ⟨rfl, rfl⟩))
                    clear hT9 hs9 K2 g2 g3
                    go_wp2_with fail
                    refine (E.out).mono ?_
                    rintro e w10 ⟨rfl, hb10⟩
                    have HT10 := hide ((HT9.out.below hb10).fewer (N' := []) (fun q h => by cases h))
                    obtain ⟨⟨g0, _⟩, g1, _⟩ := HD9.out.below hb10
                    obtain ⟨⟨g2, _⟩, g3, _⟩ := HN9.out.below hb10
                    simp only [Nat.zero_add] at g1 g3
                    clear hb10 E
                    go_wp2
                    go_meet
                    exact ⟨t, _, rfl, HTl.out, by first | rfl | simp, HT10.out⟩
                | false =>
                  as_aux_lemma =>
                    have hi9 : y < 0 ∨ (X.length : Int) ≤ y := by
                      have h9 := HIns.out
                      simp at h9
                      by_cases c : 0 ≤ y
                      · exact Or.inr (by have := h9 c; omega)
                      · exact Or.inl (by omega)
                    have HI9 := hide hi9
                    clear hi9 HIns
                    go_upto_region 34 with fail
                    generalize w5.alloc (.cells #[.int .i64 0, .string ⟨#[]⟩] 23) = w6 at *
                    generalize w5.heap.size = dq at *
                    have K2 := hide (HTd.out.left (fun v h => (agive_out h HI9.out).mono fun e w' ⟨he, hb⟩ => ⟨he, Moved.same h hb⟩))
                    unfold dropV at K2
                    obtain ⟨g2, g3⟩ := HPd.out
                    go_wp2_with fail
                    refine (K2.out).mono ?_
                    rintro e w9 ⟨rfl, hT9, hs9⟩
                    have HT9 := hide (hT9.alloc (.cells #[.int .i64 0, .string ⟨#[]⟩] 23))
                    have HD9 := hide ((dropIn_of_block HD0.out (hs9 dq (by simp))).below ((Below.refl _ w9).alloc (Nat.le_refl _) (.cells #[.int .i64 0, .string ⟨#[]⟩] 23)))
                    have HN9 := hide (dropIn_new w9 0 ⟨#[]⟩)
                    have E := hide (error_right 1 _ (w9.alloc (.cells #[.int .i64 0, .string ⟨#[]⟩] 23)) (HGE.out _ HT9.out.above) (Or.inr rfl))
                    clear hT9 hs9 K2 g2 g3
                    go_wp2_with fail
                    refine (E.out).mono ?_
                    rintro e w10 ⟨rfl, hb10⟩
                    have HT10 := hide ((HT9.out.below hb10).fewer (N' := []) (fun q h => by cases h))
                    obtain ⟨⟨g0, _⟩, g1, _⟩ := HD9.out.below hb10
                    obtain ⟨⟨g2, _⟩, g3, _⟩ := HN9.out.below hb10
                    simp only [Nat.zero_add] at g1 g3
                    clear hb10 E
                    go_wp2
                    go_meet
                    exact ⟨t, _, rfl, HTl.out, by first | rfl | simp, HT10.out⟩
              · -- arms 4 and on
                have hx3 : (x == 3) = false := by rw [beq_eq_false_iff_ne]; omega
                by_cases h4 : x = 4
                · subst h4
                  clear hx0 hx1 hx2 hx3 h3 c0 c1
                  obtain ⟨g0, g1⟩ := HPc.out
                  cases ins with
                  | true =>
                    as_aux_lemma =>
                      obtain ⟨hy0, hy1⟩ := HIns.out.1 rfl
                      obtain ⟨k, rfl⟩ : ∃ k : Nat, y = k := ⟨y.toNat, by omega⟩
                      have hk : k < X.length := by omega
                      have K := hide (HTc.out.right (fun v h => rout_ok h hk))
                      go_wp2_with fail
                      refine (K.out).mono ?_
                      rintro e w8 ⟨rfl, hT8, hs8⟩
                      have HT8 := hide hT8
                      obtain ⟨g2, g3⟩ := HPc.out.of_block (hs8 q (by simp))
                      have K2 := hide (HT8.out.left (fun v h => alose_in h hk))
                      clear hT8 hs8 K g0 g1
                      go_wp2_with fail
                      refine (K2.out).mono ?_
                      rintro e w9 ⟨rfl, hT9, _⟩
                      have HT9 := hide hT9
                      have E := hide (error_right 0 .nilIface w9 (HGE.out _ hT9.above) (Or.inl ⟨rfl, rfl⟩))
                      clear hT9 K2 g2 g3
                      go_wp2_with fail
                      refine (E.out).mono ?_
                      rintro e w10 ⟨rfl, hb10⟩
                      have HT10 := hide ((HT9.out.below hb10).fewer (N' := []) (fun q h => by cases h))
                      clear hb10 E
                      go_wp2
                      go_meet
                      exact ⟨t, _, rfl, HTl.out, rfl, HT10.out⟩
                  | false =>
                    as_aux_lemma =>
                      have hi9 : y < 0 ∨ (X.length : Int) ≤ y := by
                        have h9 := HIns.out
                        simp at h9
                        by_cases c : 0 ≤ y
                        · exact Or.inr (by have := h9 c; omega)
                        · exact Or.inl (by omega)
                      have K2 := hide (HTc.out.left (fun v h => (alose_out h hi9).mono fun e w' ⟨he, hw⟩ => ⟨he, Moved.same h (hw ▸ Below.refl _ _)⟩))
                      clear hi9 HIns
                      go_wp2_with fail
                      refine (K2.out).mono ?_
                      rintro e w9 ⟨rfl, hT9, _⟩
                      have HT9 := hide hT9
                      have E := hide (error_right 1 _ w9 (HGE.out _ hT9.above) (Or.inr rfl))
                      clear hT9 K2 g0 g1
                      go_wp2_with fail
                      refine (E.out).mono ?_
                      rintro e w10 ⟨rfl, hb10⟩
                      have HT10 := hide ((HT9.out.below hb10).fewer (N' := []) (fun q h => by cases h))
                      clear hb10 E
                      go_wp2
                      go_meet
                      exact ⟨t, _, rfl, HTl.out, rfl, HT10.out⟩
                · have hx4 : (x == 4) = false := by rw [beq_eq_false_iff_ne]; omega
                  clear h3 h4
                  cases ins with
                  | true =>
                    as_aux_lemma =>
                      obtain ⟨hy0, hy1⟩ := HIns.out.1 rfl
                      obtain ⟨k, rfl⟩ : ∃ k : Nat, y = k := ⟨y.toNat, by omega⟩
                      have hk : k < X.length := by omega
                      have hgd := HTc.out.good _ (dAt_mem hk)
                      go_upto_region 17 with fail
                      generalize hn : (dAt X k).1 = n at *
                      generalize hdd : (dAt X k).2 = dd at *
                      have HSz : Hid (dd.size ≤ maxLen) := by unfold Hid maxLen; omega
                      go_cut [12] (fun t wx => t = .int .i64 (aF X.length (n : Nat) dd.size : Nat) ∧ Pair wx q x k ∧ Two W wx b m X (aPut X (n : Nat) dd) [q])
                      case first =>
                        obtain ⟨am, capm, cm, cl1, cl2, cl3, cl4⟩ := HTc.out.look
                        obtain ⟨g, rfl⟩ := cl3 (by omega)
                        obtain ⟨d1, d2⟩ := cl4 g rfl k hk
                        rw [hn] at d1
                        rw [hdd] at d2
                        have hbd : Below w5.heap.size w5 w5.drew := (Below.refl _ _).drew
                        have HTe := hide (HTc.out.below hbd)
                        have HPe := hide (HPc.out.below hbd)
                        have K := hide (HTe.out.right (fun v h => rsend_any (n : Nat) dd h HSz.out))
                        unfold dropV at K
                        have hk0 : (0 : Int) ≤ (k : Int) := by omega
                        have hk1 : (k : Int) < (X.length : Int) := by omega
                        unfold maxLen at cl2
                        clear cl3 cl4 hbd
                        go_region_law (((rw [if_pos (by rfl)]; go_simp; go_at_call 12; refine (K.out).mono ?_; rintro e w8 ⟨rfl, hT8, hs8⟩)))
                        all_goals
                          go_wp2_with fail
                          go_meet
                          exact ⟨rfl, HPe.out.of_block (hs8 q (by simp)), hT8⟩
                      case rest =>
                      obtain ⟨rfl, hp2, hT2⟩ := hcut
                      have HT2 := hide hT2
                      obtain ⟨g2, g3⟩ := hp2
                      clear hT2
                      generalize wc = w8 at *
                      have K2 : Hid (Calls Tryd.prog 9 #[.pointer (some ⟨b, 0, none⟩), .int .i64 k] w8 fun e w' => e = .returned (aErr (aF X.length (n : Nat) dd.size)) ∧ Two W w' b m (aPut X (n : Nat) dd) (aPut X (n : Nat) dd) [q] ∧ Same [q] w8 w') := HT2.out.left (fun v h => by have h9 := atwice_in h hk; rw [hn, hdd] at h9; exact h9)
                      go_wp2_with fail
                      refine (K2.out).mono ?_
                      rintro e w9 ⟨rfl, hT9, _⟩
                      have HT9 := hide hT9
                      have E := hide (error_right (aF X.length (n : Nat) dd.size : Nat) (aErr (aF X.length (n : Nat) dd.size)) w9 (HGE.out _ hT9.above) (aErr_is _))
                      clear hT9 K2 g2 g3
                      generalize aF X.length (n : Nat) dd.size = ff at *
                      go_wp2_with fail
                      refine (E.out).mono ?_
                      rintro e w10 ⟨rfl, hb10⟩
                      have HT10 := hide ((HT9.out.below hb10).fewer (N' := []) (fun q h => by cases h))
                      clear hb10 E
                      go_wp2
                      go_meet
                      exact ⟨t, _, rfl, HTl.out, rfl, HT10.out⟩
                  | false =>
                    as_aux_lemma =>
                      have hi9 : y < 0 ∨ (X.length : Int) ≤ y := by
                        have h9 := HIns.out
                        simp at h9
                        by_cases c : 0 ≤ y
                        · exact Or.inr (by have := h9 c; omega)
                        · exact Or.inl (by omega)
                      have K2 := hide (HTc.out.left (fun v h => (atwice_out h hi9).mono fun e w' ⟨he, hw⟩ => ⟨he, Moved.same h (hw ▸ Below.refl _ _)⟩))
                      clear hi9 HIns
                      go_wp2_with fail
                      refine (K2.out).mono ?_
                      rintro e w9 ⟨rfl, hT9, _⟩
                      have HT9 := hide hT9
                      have E := hide (error_right 1 _ w9 (HGE.out _ hT9.above) (Or.inr rfl))
                      clear hT9 K2 c0 c1
                      go_wp2_with fail
                      refine (E.out).mono ?_
                      rintro e w10 ⟨rfl, hb10⟩
                      have HT10 := hide ((HT9.out.below hb10).fewer (N' := []) (fun q h => by cases h))
                      clear hb10 E
                      go_wp2
                      go_meet
                      exact ⟨t, _, rfl, HTl.out, rfl, HT10.out⟩
          case rest =>
          obtain ⟨t', X', rfl, ht', rfl, hT⟩ := hcut
          as_aux_lemma =>
            have HT4 := hide hT
            clear hT HTc HPc HIns c0 c1
            generalize wc = w4 at *
            have hfew := HT4.out.few
            obtain ⟨am, capm, cm, cl1, cl2, cl3, cl4⟩ := HT4.out.look
            unfold maxLen at cl2
            have HC3 := hide cl3
            have HC4 := hide cl4
            obtain ⟨i0, hi0, hz0, hz1, hz2⟩ := info_parts Tryd.infoInt
            have Hi := hide hi0
            have Hz0 := hide hz0
            have Hz1 := hide hz1
            have Hz2 := hide hz2
            clear cl3 cl4 hi0 hz0 hz1 hz2
            generalize hS : (fun k : Nat => Value.int .i64 (((dAt X' k).1 : Nat) : Int)) = S at *
            go_wp2
            go_loopw [18, 19] (fun sv jv wz => ∃ j : Nat, jv = .int .i64 j ∧ j ≤ X'.length ∧ wz.ownsRow w4.heap.size 3 1 sv j ((List.range j).map S) ∧ Below w4.heap.size w4 wz) (fun _ jv _ => X'.length - (intOf jv).toNat)
            case atStart => exact ⟨0, rfl, Nat.zero_le _, World.ownsRow_nil _ _ _ _, Below.refl _ _⟩
            case round =>
              obtain ⟨j, rfl, hj, hr, hb4⟩ := hrel
              have HRo := hide hr
              have HB4 := hide hb4
              have hbs := hb4.size
              have cm4 := cell_below hb4 cm
              clear hr hb4
              by_cases hlt : j < X'.length
              · obtain ⟨g, rfl⟩ := HC3.out (by omega)
                obtain ⟨d1, d2⟩ := HC4.out g rfl j hlt
                have d1' := cell_below HB4.out d1
                have HS : Hid (S j = .int .i64 ((dAt X' j).1 : Nat)) := by unfold Hid; rw [← hS]
                clear d1 d2
                generalize (dAt X' j).1 = z at *
                have HO := hide (HRo.out.alloc (.cells #[.int .i64 (z : Nat)] 3))
                have hj0 : (0 : Int) ≤ (j : Int) := by omega
                have hj1 : (j : Int) < (X'.length : Int) := by omega
                go_wp2_with (first | (at_builtin; refine wpList_append_own _ rfl _ _ 29 rfl w4.heap.size 3 i0 (.int .i64 0) 1 8 Tryd.underlying29 Hi.out Hz0.out Hz1.out Hz2.out rfl (by decide) _ _ _ rfl HO.out ⟨wr.heap.size, 0, none⟩ 1 1 [.int .i64 (z : Nat)] rfl rfl (cell_one_new _ _ _) (fun x hx => by simp at hx; subst hx; rfl) (by unfold maxLen; omega) (by omega) (by simp; omega) ?_; intro v3 w3 hown3 hgrow3 hnil3) | fail)
                go_roundw
                case rel =>
                  refine ⟨j + 1, by go_num, by omega, ?_, (HB4.out.alloc hbs _).grown hgrow3 (by simp; omega) (fun q hq => (HRo.out.lt q hq).1)⟩
                  rw [List.range_succ, List.map_append]
                  show w3.ownsRow _ _ _ _ _ (_ ++ [S j])
                  rw [HS.out]
                  exact hown3
                case measure => simp [intOf]; omega
              · obtain rfl : j = X'.length := by omega
                have HT5 := hide (HT4.out.below HB4.out)
                obtain ⟨vP, vR, k1, k2, k3, k4, k5⟩ := HT5.out
                have K := hide (aall_ok k1)
                have HN1 := hide (own_in (f := fun k => (((dAt X' k).1 : Nat) : Int)) (by rw [← hS] at HRo; exact HRo.out))
                clear k1 k2 k3 k4 k5
                have hj1 : ¬ (X'.length : Int) < (X'.length : Int) := by omega
                go_wp2_with fail
                refine (K.out).mono ?_
                rintro e w6 ⟨v6, rfl, ho6, hb6⟩
                have I := hide (ints_same (by omega) (own_in (f := fun k => (((dAt X' k).1 : Nat) : Int)) ho6) (HN1.out.below hb6))
                have HT6 := hide (HT5.out.below hb6)
                clear ho6 hb6 K
                go_wp2_with fail
                refine (I.out).mono ?_
                rintro e w7 ⟨rfl, hb7⟩
                have HT7 := hide (HT6.out.below hb7)
                clear hb7 I
                go_wp2
                go_roundw
                case rel => exact ⟨t', i + 1, X', rfl, by go_num, ht', by omega, HT7.out⟩
                case measure => simp [intOf]; omega
end Go.Proofs.YtjoklnalkehegaaDoor
