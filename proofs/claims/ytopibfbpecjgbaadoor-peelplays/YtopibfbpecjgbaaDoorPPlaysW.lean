/-
  'dropletmill/droplaw1.PeelPlays' over any Peeler that keeps its contracts (PIm): the walk. Lemmas for the laws above; no statement is proved here.
-/
import Derived.Test.YtopibfbpecjgbaaDoorPPlays
import Derived.Deep.DeepCutAuto
import Derived.Deep.CutRange
import Derived.Deep.RegionHeld3
namespace Go.Proofs.YtopibfbpecjgbaaDoor
open Go.RowKit Go.Maps
set_option linter.unusedVariables false
set_option maxRecDepth 100000

/-- dropref1's Peeler, as it is made. -/
theorem rpb_new (w : World) (k : Nat) (c : Array Value) (hc : c = #[.int .i64 k, .bool false, .bool false, .bool false, .bool false, .bool false, .bool false, .bool false, .bool false, .bool false, .bool false, .bool false, .bool false, .bool false, .bool false, .bool false, .bool false, .string ⟨#[]⟩, .string ⟨#[]⟩, .string ⟨#[]⟩, .string ⟨#[]⟩, .string ⟨#[]⟩, .string ⟨#[]⟩, .string ⟨#[]⟩, .string ⟨#[]⟩, .string ⟨#[]⟩, .string ⟨#[]⟩, .string ⟨#[]⟩, .string ⟨#[]⟩, .string ⟨#[]⟩, .string ⟨#[]⟩, .string ⟨#[]⟩, .string ⟨#[]⟩, .slice none 0 0, .slice none 0 0]) (t : TypeId) :
    RPb (w.alloc (.cells c t)) w.heap.size k p0.known p0.B (.slice none 0 0) (.slice none 0 0) := by
  have hh := (MapKept.heap_alloc w (.cells c t)).1
  have hf : ∀ i, (w.alloc (.cells c t)).frozen? ⟨w.heap.size, i, none⟩ = false := fun i => by simp only [World.frozen?, hh]; simp
  have hcell : ∀ i, (w.alloc (.cells c t)).cell? ⟨w.heap.size, i, none⟩ = c[i]? := fun i => cell_of_row _ _ i c t (0, 0) hh
  subst hc
  refine ⟨by rw [hcell]; rfl, fun r hr => ⟨?_, hf _⟩, fun r hr => ⟨?_, hf _⟩, ⟨by rw [hcell]; rfl, hf _⟩, ⟨by rw [hcell]; rfl, hf _⟩⟩
  · rw [hcell]
    match r, hr with
    | 0, _ | 1, _ | 2, _ | 3, _ | 4, _ | 5, _ | 6, _ | 7, _ | 8, _ | 9, _ | 10, _ | 11, _ | 12, _ | 13, _ | 14, _ | 15, _ => rfl
    | n + 16, h => omega
  · rw [hcell]
    match r, hr with
    | 0, _ | 1, _ | 2, _ | 3, _ | 4, _ | 5, _ | 6, _ | 7, _ | 8, _ | 9, _ | 10, _ | 11, _ | 12, _ | 13, _ | 14, _ | 15, _ => rfl
    | n + 16, h => omega

set_option maxHeartbeats 4000000 in
theorem plays_ok (I : PIm) (k z : Nat) (v : Value) (len : Nat) (s : Nat → Int) (d : Nat → ByteArray) (i : Int) (w : World) (hg : HasErr w) (hk : 1 ≤ k) (hk2 : k ≤ 16) (hz : 1 ≤ z) (hz2 : z ≤ 8) (hv : DropsAt w v len s d) :
    Calls Tryd.prog 5 #[.int .i64 k, .int .i64 z, v, .int .i64 i] w fun e w' => e = .returned (.bool true) ∧ Below w.heap.size w w' := by
  have N := hide (I.new_ok k z w hk hk2 hz hz2)
  have HG := hide hg
  have HGL := hide hg.lt
  have HV := hide hv
  clear hg hv
  have g1 : ¬ (k : Int) < 1 := by omega
  have g2 : ¬ 16 < (k : Int) := by omega
  have g3 : ¬ (z : Int) < 1 := by omega
  have g4 : ¬ 8 < (z : Int) := by omega
  obtain ⟨a0, cap0, rfl, hcv⟩ : ∃ a cap, v = .slice a len cap ∧ (0 < len → ∃ b o, a = some ⟨b, o, none⟩ ∧ len ≤ cap ∧ cap ≤ maxLen ∧ ∀ i, i < len → w.cell? ⟨b, o + i * 2, none⟩ = some (.int .i64 (s i)) ∧ w.cell? ⟨b, o + i * 2 + 1, none⟩ = some (.string (d i)) ∧ (d i).size ≤ maxLen ∧ (Lit.int .i64 (s i)).wf = true) := by
    rcases HV.out with ⟨rfl, a, cap, rfl⟩ | ⟨h0, b, o, cap, rfl, h1, h2, h3⟩
    · exact ⟨a, cap, rfl, fun h => by omega⟩
    · exact ⟨_, cap, rfl, fun _ => ⟨b, o, rfl, h1, h2, h3⟩⟩
  have HCV := hide hcv
  clear hcv HV
  go_enter Tryd.func5, Tryd.ntmps5
  go_wp2_with fail
  refine (N.out).mono ?_
  rintro e w1 ⟨vP, rfl, hst, hfr, hb1⟩
  have E := hide (error_nil 0 w1)
  have HSt := hide hst
  have HFr := hide hfr
  have HB1 := hide hb1
  clear hst hfr hb1 N
  go_wp2_with fail
  refine (E.out).mono ?_
  rintro e w2 ⟨rfl, rfl⟩
  clear E
  have hbA : Below w1.heap.size w1 (w1.alloc (.cells #[.int .i64 k, .bool false, .bool false, .bool false, .bool false, .bool false, .bool false, .bool false, .bool false, .bool false, .bool false, .bool false, .bool false, .bool false, .bool false, .bool false, .bool false, .string ⟨#[]⟩, .string ⟨#[]⟩, .string ⟨#[]⟩, .string ⟨#[]⟩, .string ⟨#[]⟩, .string ⟨#[]⟩, .string ⟨#[]⟩, .string ⟨#[]⟩, .string ⟨#[]⟩, .string ⟨#[]⟩, .string ⟨#[]⟩, .string ⟨#[]⟩, .string ⟨#[]⟩, .string ⟨#[]⟩, .string ⟨#[]⟩, .string ⟨#[]⟩, .slice none 0 0, .slice none 0 0] 49)) := (Below.refl _ _).alloc (Nat.le_refl _) _
  have hR := rpb_new w1 k _ rfl 49
  have hP := I.below HSt.out hbA
  have HBo : Hid (Both I w _ vP w1.heap.size k z p0 [] (.slice none 0 0) (.slice none 0 0)) :=
    ⟨hP.1, ⟨hR, World.ownsRow_nil _ _ _ _, World.ownsRow_nil _ _ _ _, by simp [Value.ownBlock], by simp [Value.ownBlock], Or.inl rfl, HB1.out.size⟩, fun i hi hr => by
      rcases hr with rfl | e | e
      · have := I.foot_lt HSt.out _ (hP.2 _ hi); omega
      · simp [Value.ownBlock] at e
      · simp [Value.ownBlock] at e, fun i hi => HFr.out i (hP.2 i hi), below_two HB1.out hbA⟩
  clear hbA hR hP HSt HFr
  go_wp2_with fail
  generalize w1.alloc (.cells #[.int .i64 k, .bool false, .bool false, .bool false, .bool false, .bool false, .bool false, .bool false, .bool false, .bool false, .bool false, .bool false, .bool false, .bool false, .bool false, .bool false, .bool false, .string ⟨#[]⟩, .string ⟨#[]⟩, .string ⟨#[]⟩, .string ⟨#[]⟩, .string ⟨#[]⟩, .string ⟨#[]⟩, .string ⟨#[]⟩, .string ⟨#[]⟩, .string ⟨#[]⟩, .string ⟨#[]⟩, .string ⟨#[]⟩, .string ⟨#[]⟩, .string ⟨#[]⟩, .string ⟨#[]⟩, .string ⟨#[]⟩, .string ⟨#[]⟩, .slice none 0 0, .slice none 0 0] 49) = w2 at *
  generalize w1.heap.size = bR at *
  go_loopw [14] (fun vi wr => ∃ (j : Nat) (p : PS) (T : List Nat) (vL vT : Value), j ≤ 70 ∧ vi = .int .i64 j ∧ Both I w wr vP bR k z p T vL vT ∧ Good z p ∧ p.L.length ≤ T.length ∧ T.length ≤ 60 ∧ ∀ r, p.known r = true → r < k) (fun vi _ => 70 - (intOf vi).toNat)
  case atStart => exact ⟨0, p0, [], _, _, by omega, rfl, HBo.out, ⟨fun d hd => absurd hd (by simp [p0]), fun r hr => absurd hr (by simp [p0])⟩, by simp [p0], by simp, fun r hr => absurd hr (by simp [p0])⟩
  case round =>
    obtain ⟨j, p, T, vL, vT, hj, rfl, hbo, hgd, hLT, hT60, hkn⟩ := hrel
    have HBo' := hide hbo
    have HGd := hide hgd
    have HKn := hide hkn
    clear hbo hgd hkn HBo
    by_cases hlt : j < len
    · have hlt' : (j : Int) < (len : Int) := by omega
      by_cases h70 : j < 70
      · have h70' : (j : Int) < 70 := by omega
        obtain ⟨b0, o0, rfl, hl1, hl2, hcs⟩ := HCV.out (by omega)
        obtain ⟨hc1, hc2, hc3, hc4⟩ := hcs j hlt
        have HC1 := hide (cell_below HBo'.out.below hc1)
        have HC2 := hide (cell_below HBo'.out.below hc2)
        have hc1' := HC1.out
        have hc2' := HC2.out
        have HCW1 := hide hc1
        have HCW2 := hide hc2
        have HLb := hide (cell_lt hc1)
        have HW := hide hc4
        unfold maxLen at hl2
        have HDz := hide hc3
        clear hcs hc1 hc2 hc3 hc4 HCV
        have RD := hide (rdrop_any k z (s j) (d j) wr)
        generalize s j = sj at *
        generalize d j = dj at *
        go_wp2_with fail
        refine (RD.out).mono ?_
        rintro e w3 ⟨rfl, hb3⟩
        have HBo3 := hide (HBo'.out.grow hb3)
        have c1 := cell_below hb3 HC1.out
        have c2 := cell_below hb3 HC2.out
        obtain ⟨aT, capT, hvT, hT1, hT2, r, hr, hIn⟩ := rin_T HBo3.out.rq.ownT sj
        subst hvT
        have HIn := hide hIn
        have HR := hide hr
        have ct := HBo3.out.rq.blk.taken.1
        obtain ⟨ι, F, hF⟩ := fam_some w3
        have HF := hide hF
        have hne := hF.ne
        have f1 := hF.cell c1
        have f2 := hF.cell ct
        have hj0 : (0 : Int) ≤ (j : Int) := by omega
        unfold maxLen at hT2
        clear hc1' hc2' hb3 hIn hr hF RD
        have XC : Hid (∀ i : ι, Calls Tryd.prog 16 #[.slice aT T.length capT, .int .i64 sj] (F i) fun e w' => e = .returned (.bool r) ∧ Below (F i).heap.size (F i) w') := fun i => (HIn.out (F i) (HF.out.above i)).mono fun e w' ⟨he, hw⟩ => ⟨he, hw ▸ Below.refl _ _⟩
        go_wp2_with fail
        refine HF.out.region (by kernel_rfl) (by kernel_rfl) ?_
        repeat (go_big_quiet_step (exact HF.out.call (XC.out _)))
        refine wpQuiet_nil ?_
        intro wq hw'
        obtain ⟨i1, hw''⟩ := hw'
        subst hw''
        have hb4 := HF.out.above i1
        have HBo4 := hide (HBo3.out.grow hb4)
        have HC1' := hide (cell_below hb4 c1)
        have HC2' := hide (cell_below hb4 c2)
        clear f1 f2 hb4 c1 c2 ct
        generalize F i1 = w4 at *
        have HF0 : Hid (∃ f0, f0 = fD k z sj dj.size) := ⟨_, rfl⟩
        obtain ⟨f0, hf0⟩ := HF0.out
        rw [← hf0]
        have HFF := hide hf0
        clear hf0 HF0
        go_upto_region 14 with fail
        go_cut [9, 86] from 55 to 179 (fun t9 t wx => ∃ o : Bool, t9 = .int .i64 f0 ∧ t = .bool o ∧ (o = true ↔ (f0 = 0 ∧ r = true)) ∧ w4 = wx)
        case first =>
          by_cases w1c : f0 = 0
          · subst w1c
            cases r with
            | true =>
              go_wp2
              go_meet
              exact ⟨true, rfl, rfl, by simp, rfl⟩
            | false =>
              go_wp2
              go_meet
              exact ⟨false, rfl, rfl, by simp, rfl⟩
          · have hA : (f0 == 0) = false := by rw [beq_eq_false_iff_ne]; exact w1c
            have HNe := hide w1c
            clear w1c
            go_wp2
            go_meet
            exact ⟨false, rfl, rfl, ⟨(fun h => by cases h), (fun h => absurd h.1 HNe.out)⟩, rfl⟩
        case rest =>
        obtain ⟨o, rfl, rfl, ho, rfl⟩ := hcut
        have HO1 := hide ho
        clear ho
        go_upto_if 86 with fail
        go_cut [9] from 55 to 179 (fun t9 wx => t9 = .int .i64 (tF k z T sj dj.size) ∧ w4 = wx)
        case first =>
          cases o with
          | true =>
            have HX : Hid (tF k z T sj dj.size = 7) := by
              have h9 := HO1.out.1 rfl
              obtain ⟨n, rfl, hn⟩ := HR.out.1 h9.2
              unfold Hid tF
              rw [if_neg (by rw [← HFF.out, h9.1]; simp), if_pos (by simpa using hn)]
            go_wp2
            go_meet
            exact ⟨by rw [HX.out], rfl⟩
          | false =>
            by_cases w1c : f0 = 0
            · have hfd : fD k z sj dj.size = 0 := by rw [← HFF.out]; exact w1c
              have hnm : sj.toNat ∉ T := fun hm => by
                have hpos : 0 ≤ sj := by have := (fD_ok hfd).1.2.2.1; omega
                have h9 := HO1.out.2 ⟨w1c, HR.out.2 ⟨sj.toNat, by omega, hm⟩⟩
                cases h9
              have ctk := HBo4.out.rq.blk.taken.1
              by_cases h60 : 60 ≤ T.length
              · have HX : Hid (tF k z T sj dj.size = 4) := by unfold Hid tF; rw [if_neg (by simp [hfd]), if_neg hnm, if_pos h60]
                have h60' : (60 : Int) ≤ (T.length : Int) := by omega
                clear hfd hnm HFF HO1
                subst w1c
                go_wp2
                go_meet
                exact ⟨by rw [HX.out], rfl⟩
              · have HX : Hid (tF k z T sj dj.size = 0) := by unfold Hid tF; rw [if_neg (by simp [hfd]), if_neg hnm, if_neg h60]
                have h60' : ¬ (60 : Int) ≤ (T.length : Int) := by omega
                clear hfd hnm HFF HO1
                subst w1c
                go_wp2
                go_meet
                exact ⟨by rw [HX.out], rfl⟩
            · have HX : Hid (tF k z T sj dj.size = f0) := by unfold Hid tF; rw [← HFF.out, if_pos w1c]
              have hA : (f0 == 0) = false := by rw [beq_eq_false_iff_ne]; exact w1c
              clear w1c
              go_wp2
              go_meet
              exact ⟨by rw [HX.out], rfl⟩
        case rest =>
        obtain ⟨rfl, rfl⟩ := hcut
        have HF2 : Hid (∃ x2, x2 = tF k z T sj dj.size) := ⟨_, rfl⟩
        obtain ⟨x2, hx2⟩ := HF2.out
        rw [← hx2]
        have HXX := hide hx2
        clear hx2 HF2 HFF HO1
        go_upto_region 19 with fail
        go_cut [98] from 55 to 179 (fun t wx => ∃ o : Bool, t = .bool o ∧ (o = true ↔ x2 = 0) ∧ w4 = wx)
        case first =>
          go_wp2
          go_meet
          exact ⟨_, rfl, by simp, rfl⟩
        case rest =>
        obtain ⟨o2, rfl, ho2, rfl⟩ := hcut
        have HO2 := hide ho2
        clear ho2
        go_upto_if 98 with fail
        go_cut [16] from 55 to 179 (fun want wx => ∃ q T' vL' vT', Join I w vP bR k z p T sj dj q T' vL' vT' want wx)
        case first =>
          cases o2 with
          | true =>
            have h90 : tF k z T sj dj.size = 0 := by rw [← HXX.out]; exact HO2.out.1 rfl
            have hfd : fD k z sj dj.size = 0 := by
              unfold tF at h90
              by_cases c : fD k z sj dj.size = 0
              · exact c
              · rw [if_pos c] at h90; exact absurd h90 c
            have hT60' : ¬ 60 ≤ T.length := fun h => by
              unfold tF at h90
              rw [if_neg (by simp [hfd])] at h90
              by_cases c : sj.toNat ∈ T
              · rw [if_pos c] at h90; cases h90
              · rw [if_neg c, if_pos h] at h90; cases h90
            have hokd := fD_ok hfd
            obtain ⟨n, rfl⟩ := Int.eq_ofNat_of_zero_le (show 0 ≤ sj by have := hokd.1.2.2.1; omega)
            have hn1 : 1 ≤ n := by have := hokd.1.2.2.1; omega
            have hn2 : n ≤ 10000 := by have := hokd.1.2.2.2; omega
            have hdz : dj.size = z := by have := hokd.2; omega
            have H90 := hide h90
            have RT := hide (rtake_ok (footR bR vL (.slice aT T.length capT)) w.heap.size bR k n p T vL (.slice aT T.length capT) dj w4 hk hk2 hn1 hn2 HBo4.out.rq.st HBo4.out.below.size (by omega) (by omega) z (by omega) HGd.out hdz (fun r hr => by have := HKn.out r hr; omega))
            have ck1 := HC1'.out
            have ck2 := HC2'.out
            clear h90 hfd hokd
            go_wp2_with fail
            refine (RT.out).mono ?_
            rintro e w5 ⟨vw, rfl, hrt⟩
            obtain ⟨q, vL', vT', hpe, hs5, hrq5, hap5, hfr5, hbl5, hlw, hgq, hnf⟩ := HBo4.out.rtook hrt
            have HJ : Hid (Join I w vP bR k z p T (n : Int) dj q (T ++ [n]) vL' vT' vw w5) := by
              refine ⟨hs5, hrq5, hap5, hfr5, hbl5, hlw, hnf, ⟨hgq, ?_, ?_, ?_⟩, Or.inr ⟨n, rfl, H90.out, hpe, rfl⟩⟩
              · have := hpe.shrinks
                simp only [List.length_append, List.length_singleton] at this ⊢
                omega
              · rw [List.length_append, List.length_singleton]; omega
              · exact hpe.lt hk (fun d hd => by
                  rcases List.mem_append.1 hd with h | h
                  · exact (HGd.out.1 d h).1
                  · rw [List.mem_singleton.1 h]; exact hn1) HKn.out
            clear hrt hpe hs5 hrq5 hap5 hfr5 hbl5 hlw hgq hnf ck1 ck2 RT
            go_wp2
            go_meet
            exact ⟨q, T ++ [n], vL', vT', HJ.out⟩
          | false =>
            have h90 : tF k z T sj dj.size ≠ 0 := fun h => by
              rw [← HXX.out] at h
              have := HO2.out.2 h
              cases this
            have HJ : Hid (Join I w vP bR k z p T sj dj p T vL (.slice aT T.length capT) (.slice none 0 0) w4) :=
              ⟨HBo4.out.st, HBo4.out.rq, HBo4.out.ap, HBo4.out.fr, HBo4.out.below, by rw [came_self]; exact ⟨none, 0, rfl, by simp, by unfold maxLen; simp, fun h => by simp at h⟩, (fun i e => by cases e), ⟨HGd.out, hLT, hT60, HKn.out⟩, Or.inl ⟨h90, rfl, rfl⟩⟩
            clear h90
            go_wp2
            go_meet
            exact ⟨p, T, vL, _, HJ.out⟩
        case rest =>
        obtain ⟨q, Tq, vL', vT', hJ⟩ := hcut
        have HJ := hide hJ
        have TA := hide (join_take hJ HDz.out)
        have ck1 := (hJ.2.2.2.2.1.cell (p := ⟨b0, o0 + j * 2, none⟩) HLb.out).trans HCW1.out
        have ck2 := (hJ.2.2.2.2.1.cell (p := ⟨b0, o0 + j * 2 + 1, none⟩) HLb.out).trans HCW2.out
        have hj8 := hJ.2.2.2.2.2.2.2.1
        have HGq := hide hj8.1
        have HLq := hide hj8.2.1
        have HTq := hide hj8.2.2.1
        have HKq := hide hj8.2.2.2
        clear hJ hj8 HBo4 HC1' HC2'
        rw [← HXX.out] at TA
        go_wp2_with fail
        refine (TA.out).mono ?_
        rintro e w5 ⟨vs, err5, rfl, herr5, hlv, hlw, hbo5⟩
        have HBt5 := hide hbo5
        have HLv := hide hlv
        have HLw := hide hlw
        have E5 := hide (error_right x2 err5 w5 (HG.out.below HGL.out hbo5.below) herr5)
        have hcm := came_len16 k p.known q.known
        clear herr5 hlv hlw hbo5 TA ck1 ck2
        go_wp2_with fail
        refine (E5.out).mono ?_
        rintro e w6 ⟨rfl, hb6⟩
        have HBt6 := hide (HBt5.out.grow hb6)
        have II := hide (ints_same (w := w6) (by omega) (HLv.out.below hb6).ints (HLw.out.below hb6).ints)
        clear hb6 E5 HBt5
        go_wp2_with fail
        refine (II.out).mono ?_
        rintro e wt ⟨rfl, hbt⟩
        have HBt := hide (HBt6.out.grow hbt)
        clear hbt II HBt6 HLv HLw
        have HGt := hide (HG.out.below HGL.out HBt.out.below)
        go_upto_region 25 with fail
        go_cut [128] from 55 to 179 (fun t wx => ∃ o : Bool, t = .bool o ∧ (o = true ↔ (i < 0 ∨ (k : Int) ≤ i)) ∧ wt = wx)
        case first =>
          by_cases i1 : i < 0
          · go_wp2
            go_meet
            exact ⟨true, rfl, ⟨fun _ => Or.inl i1, fun _ => rfl⟩, rfl⟩
          · by_cases i2 : (k : Int) ≤ i
            · go_wp2
              go_meet
              exact ⟨true, by first | rfl | simp <;> omega, ⟨fun _ => Or.inr i2, fun _ => rfl⟩, rfl⟩
            · go_wp2
              go_meet
              exact ⟨false, by first | rfl | simp <;> omega, ⟨fun h => Bool.noConfusion h, fun h => by omega⟩, rfl⟩
        case rest =>
        obtain ⟨o, rfl, ho, rfl⟩ := hcut
        have HO := hide ho
        clear ho
        go_upto_if 128 with fail
        go_cut [9, 19] from 55 to 179 (fun t1 t2 wx => t1 = .int .i64 (bF k q i) ∧ t2 = .string (bS k q i) ∧ wt = wx)
        case first =>
          cases o with
          | true =>
            have h9 := HO.out.1 rfl
            have e1 := hide (show bF k q i = 1 by unfold bF; rw [if_pos h9])
            have e2 := hide (show bS k q i = ⟨#[]⟩ by unfold bS; rw [if_pos h9])
            clear h9
            go_wp2
            go_meet
            exact ⟨by rw [e1.out], by rw [e2.out], rfl⟩
          | false =>
            have h9 : ¬ (i < 0 ∨ (k : Int) ≤ i) := fun h => by have := HO.out.2 h; cases this
            obtain ⟨n, rfl⟩ := Int.eq_ofNat_of_zero_le (show 0 ≤ i by omega)
            have hn : n < 16 := by omega
            have c1 := (HBt.out.rq.blk.known n hn).1
            have c2 := (HBt.out.rq.blk.blocks n hn).1
            have hn0 : (0 : Int) ≤ (n : Int) := by omega
            have hn1 : (n : Int) < 16 := by omega
            cases hkn2 : (q).known n with
            | true =>
              have e1 := hide (show bF k q (n : Int) = 0 by unfold bF; rw [if_neg h9]; simp [hkn2])
              have e2 := hide (show bS k q (n : Int) = (q).B n by unfold bS; rw [if_neg h9]; simp [hkn2])
              rw [hkn2] at c1
              clear h9 hkn2
              go_wp2
              go_meet
              exact ⟨by rw [e1.out], by rw [e2.out], rfl⟩
            | false =>
              have e1 := hide (show bF k q (n : Int) = 5 by unfold bF; rw [if_neg h9]; simp [hkn2])
              have e2 := hide (show bS k q (n : Int) = ⟨#[]⟩ by unfold bS; rw [if_neg h9]; simp [hkn2])
              rw [hkn2] at c1
              clear h9 hkn2
              go_wp2
              go_meet
              exact ⟨by rw [e1.out], by rw [e2.out], rfl⟩
        case rest =>
        obtain ⟨rfl, rfl, rfl⟩ := hcut
        have BK := hide (I.block_any HBt.out.st i)
        generalize bF k q i = fB at *
        generalize bS k q i = sB at *
        go_wp2_with fail
        refine (BK.out).mono ?_
        rintro e w7 ⟨err7, rfl, herr7, hb7⟩
        have HBt7 := hide (HBt.out.grow hb7)
        have E7 := hide (error_right fB err7 w7 (HG.out.below HGL.out HBt7.out.below) herr7)
        clear hb7 herr7 BK
        go_wp2_with fail
        refine (E7.out).mono ?_
        rintro e w8 ⟨rfl, hb8⟩
        have HBt8 := hide (HBt7.out.grow hb8)
        clear hb8 E7 HBt7 HBt HGt
        obtain ⟨aL, cL, hvL, hcl1, hcl2, _⟩ := own_drops HBt8.out.rq.ownL
        have ckL := HBt8.out.rq.blk.waits.1
        rw [hvL] at ckL
        unfold maxLen at hcl2
        have HVL := hide hvL
        clear hvL
        have KP := hide (fun w' (hb : Below w8.heap.size w8 w') => I.knows_ok (HBt8.out.grow hb).st)
        have KR := hide (fun w' (hb : Below w8.heap.size w8 w') => rknows_ok bR k (q).known (q).B _ _ w' hk2 (HBt8.out.grow hb).rq.blk)
        have KW := hide (fun w' (hb : Below w8.heap.size w8 w') => I.waits_ok (HBt8.out.grow hb).st)
        have hkl := knows_len k (q).known
        generalize hkq : knows k (q).known = kq at *
        clear hkq
        go_wp2_with fail
        go_region_held3 (fun w' => w'.cell? ⟨bR, 33, none⟩ = some (.slice aL (q).L.length cL)) (first | go_keep | exact cell_below hx4 ckL | exact cell_below hx3 ckL | exact cell_below hx2 ckL | exact cell_below hx1 ckL)
          (first
            | (go_at_call 12; refine (KP.out _ ((Below.refl _ _).drew)).mono ?_; rintro e x1 ⟨vs1, rfl, hy1, hx1⟩)
            | (go_at_call 18; refine (KR.out _ (below_two ((Below.refl _ _).drew) hx1)).mono ?_; rintro e x2 ⟨vs2, rfl, hy2, hx2'⟩; have hx2 := below_two hx1 hx2')
            | (go_at_call 13; refine (ints_same (by omega) (hy1.below hx2').ints hy2.ints).mono ?_; rintro e x3 ⟨rfl, hx3'⟩; have hx3 := below_two hx2 hx3')
            | (go_at_call 14; refine (KW.out _ (below_two ((Below.refl _ _).drew) hx3)).mono ?_; rintro e x4 ⟨rfl, hx4'⟩; have hx4 := below_two hx3 hx4'))
        have HBe := hide (HBt8.out.grow (show Below w8.heap.size w8 x4 from ⟨hx4.os, hx4.tape, hx4.output, hx4.size, hx4.block⟩))
        clear hx1 hx2 hx2' hx3 hx3' hx4 hx4' hy1 hy2 ckL KP KR KW HBt8
        go_wp2_with fail
        go_roundw
        case rel =>
          have R : j + 1 ≤ 70 ∧ Value.int .i64 ((j : Int) + 1) = .int .i64 ((j + 1 : Nat) : Int) ∧ Both I w x4 vP bR k z q Tq vL' vT' ∧ Good z q ∧ (q).L.length ≤ (Tq).length ∧ (Tq).length ≤ 60 ∧ ∀ r, (q).known r = true → r < k := ⟨by omega, by simp, HBe.out, HGq.out, HLq.out, HTq.out, HKq.out⟩
          first
            | exact ⟨j + 1, q, Tq, vL', vT', R⟩
            | ((repeat apply Exists.intro); exact ⟨⟨j + 1, q, Tq, vL', vT', R⟩, rfl⟩)
        case measure => simp [intOf]; omega
      · have h70' : ¬ (j : Int) < 70 := by omega
        go_wp2
        go_ret
        exact ⟨rfl, HBo'.out.below⟩
    · have hlt' : ¬ (j : Int) < (len : Int) := by omega
      go_wp2
      go_ret
      exact ⟨rfl, HBo'.out.below⟩

/-- Whatever it is handed. -/
theorem plays_walk (I : PIm) {w : World} (k size : Int) (v : Value) (len : Nat) (s : Nat → Int) (d : Nat → ByteArray) (hv : DropsAt w v len s d) (i : Int) (hg : HasErr w) :
    Calls Tryd.prog 5 #[.int .i64 k, .int .i64 size, v, .int .i64 i] w fun e w' => e = .returned (.bool true) ∧ Below w.heap.size w w' := by
  by_cases h : (1 ≤ k ∧ k ≤ 16) ∧ 1 ≤ size ∧ size ≤ 8
  · obtain ⟨a, rfl⟩ := Int.eq_ofNat_of_zero_le (show 0 ≤ k by omega)
    obtain ⟨b, rfl⟩ := Int.eq_ofNat_of_zero_le (show 0 ≤ size by omega)
    exact plays_ok I a b v len s d i w hg (by omega) (by omega) (by omega) (by omega) hv
  · exact plays_range I k size v i w hg h
end Go.Proofs.YtopibfbpecjgbaaDoor
