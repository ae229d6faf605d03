/-
  Lemmas for the law above, joined into one text (FlK, FlEb, AlC, MvA). No statement is proved here.
-/
import Derived.Test.YtjhflcgphejddaaDoorHG8
import Derived.Test.YtjhflcgphejddaaDoorHG9
import Derived.Test.YtjhflcgphejddaaDoorHG13
import Derived.Deep.QuietTactic
import Derived.BigQuiet
import Derived.Deep.DeepCutAuto
import Derived.Test.YtjhflcgphejddaaDoorHG12
import Derived.Test.YtjhflcgphejddaaDoorHG4
import Derived.Test.YtjhflcgphejddaaDoorHG1
import Derived.Laws.Cover1
namespace Go.Proofs.YtjhflcgphejddaaDoor
open Go.RowKit
set_option linter.unusedVariables false
set_option maxRecDepth 100000

theorem chqF_cnt {N : Nat} {P : Nat → Pc} (h : cntF N ≠ 0) : chqF N P = cntF N := by unfold chqF; rw [if_pos h]
theorem chqF_all {N : Nat} {P : Nat → Pc} (h : cntF N = 0) {j : Nat} (h1 : fstF (allP P) j = 0) (hj : j < N) (hf : allP P j ≠ 0) : chqF N P = allP P j := by
  have e := fstF_at h1 hj hf
  unfold chqF
  rw [if_neg (by omega), e, if_pos hf]
theorem chqF_sam {N : Nat} {P : Nat → Pc} (h : cntF N = 0) (h0 : fstF (allP P) N = 0) {j : Nat} (h1 : fstF (samP P) j = 0) (hj : j < N) (hf : samP P j ≠ 0) : chqF N P = samP P j := by
  have e := fstF_at h1 hj hf
  unfold chqF
  rw [if_neg (by omega), if_neg (by omega), e]
theorem chqF_none {N : Nat} {P : Nat → Pc} (h : cntF N = 0) (h0 : fstF (allP P) N = 0) (h1 : fstF (samP P) N = 0) : chqF N P = 0 := by
  unfold chqF
  rw [if_neg (by omega), if_neg (by omega), h1]

set_option maxHeartbeats 4000000 in
theorem fcheck_ok {w : World} {v : Value} {N : Nat} {P : Nat → Pc} (h : PicsIn w v N P) :
    Calls Tryd.prog 33 #[v] w fun e w' => e = .returned (errN (chqF N P)) ∧ Below w.heap.size w w' := by
  have K0 := hide (fun w => fcount_ok N w)
  obtain ⟨ad, cap, rfl, hc1, hc2, h3⟩ := h
  unfold maxLen at hc2
  by_cases hc : cntF N = 0
  · obtain ⟨hN1, hN6⟩ := cntF_zero.1 hc
    obtain ⟨b, o, rfl, hcs⟩ := h3 (by omega)
    have HC := hide hcs
    obtain ⟨s0, hs0⟩ := hcs 0 (by omega)
    rw [show o + 0 * 3 = o by omega] at hs0
    have HS0 := hide hs0
    have HA := hide (fun j h1 hj hf => chqF_all (N := N) (P := P) hc (j := j) h1 hj hf)
    have HS := hide (fun h0 j h1 hj hf => chqF_sam (N := N) (P := P) hc h0 (j := j) h1 hj hf)
    have HZ := hide (fun h0 h1 => chqF_none (N := N) (P := P) hc h0 h1)
    rw [hc] at K0
    clear hcs hs0 h3 hc
    go_enter Tryd.func33, Tryd.ntmps33
    go_wp2_with fail
    refine (K0.out _).mono ?_
    rintro e w1 ⟨rfl, rfl⟩
    rw [errN_zero]
    go_wp2
    go_loopw [17] (fun i wr => ∃ j : Nat, j ≤ N ∧ i = .int .i64 j ∧ Hid (fstF (allP P) j = 0) ∧ Below w.heap.size w wr) (fun i _ => N - (intOf i).toNat)
    case atStart => exact ⟨0, Nat.zero_le _, rfl, rfl, Below.refl _ _⟩
    case round =>
      obtain ⟨j, hj, rfl, HF, hb⟩ := hrel
      have HB := hide hb
      clear hb
      by_cases hlt : j < N
      · obtain ⟨s, hs⟩ := HC.out j hlt
        obtain ⟨c0, c1, c2, hi⟩ := hs.below HB.out
        have hba : Below wr.heap.size wr (wr.alloc (.cells #[.int .i64 (P j).a, .int .i64 (P j).b, s] 46)) := (Below.refl _ _).alloc (Nat.le_refl _) _
        have K := hide (pcheck_ok (P j).a (P j).b (hi.below hba))
        have HO : Hid (picF (P j).a (P j).b (P j).n (P j).f = allP P j) := rfl
        rw [HO.out] at K
        have HFj := hide (HA.out j HF.out hlt)
        have HFs := hide (fun h => fstF_go (j := j) HF.out h)
        have HBa := hide (below_two HB.out hba)
        obtain ⟨adp, cpp, rfl⟩ := slice_shape hi
        clear hs hi hba HO
        generalize allP P j = O at *
        generalize (P j).a = pa at *
        generalize (P j).b = pb at *
        go_wp2_with fail
        refine (K.out).mono ?_
        rintro e w2 ⟨rfl, hb2⟩
        have HB2 := hide (below_two HBa.out hb2)
        clear hb2 K
        by_cases hO : O = 0
        · subst hO
          rw [errN_zero]
          have HN := hide (HFs.out rfl)
          clear HFs HFj
          go_wp2
          go_roundw
          case rel => exact ⟨j + 1, by omega, by go_num, HN, HB2.out⟩
          case measure => simp [intOf]; omega
        · have HE := hide (HFj.out hO)
          have HN := hide (errN_pos hO)
          rw [HN.out]
          clear HFs HFj
          go_wp2
          go_ret
          exact ⟨by rw [HE.out, HN.out]; rfl, HB2.out⟩
      · obtain rfl : j = N := by omega
        have HH := hide (fun h1 => HZ.out HF.out h1)
        have HHS := hide (HS.out HF.out)
        clear HA HS HZ HF
        have HBo := HB
        go_wp2
        go_loopw [29] (fun i wx => ∃ k : Nat, k ≤ j ∧ i = .int .i64 k ∧ Hid (fstF (samP P) k = 0) ∧ Below w.heap.size w wx) (fun i _ => j - (intOf i).toNat)
        case atStart => exact ⟨0, Nat.zero_le _, rfl, rfl, HB.out⟩
        case round =>
          obtain ⟨k, hk, rfl, HF, hb⟩ := hrel
          have HB := hide hb
          clear hb
          by_cases hlt : k < j
          · obtain ⟨s, hs⟩ := HC.out k hlt
            obtain ⟨c0, c1, c2, hi⟩ := hs.below HB.out
            obtain ⟨d0, d1, _, _⟩ := HS0.out.below HB.out
            have hba : Below wr.heap.size wr (wr.alloc (.cells #[.int .i64 (P k).a, .int .i64 (P k).b, s] 46)) := (Below.refl _ _).alloc (Nat.le_refl _) _
            obtain ⟨⟨p0, _⟩, ⟨p1, _⟩, _, _⟩ := picIn_new wr (P k).a (P k).b s
            have hlw := hba.size
            have hp : ∀ q, Below (wr.alloc (.cells #[.int .i64 (P k).a, .int .i64 (P k).b, s] 46)).heap.size (wr.alloc (.cells #[.int .i64 (P k).a, .int .i64 (P k).b, s] 46)) ((wr.alloc (.cells #[.int .i64 (P k).a, .int .i64 (P k).b, s] 46)).drewN q) := fun q => below_drewN (Below.refl _ _) q
            have x0 := fun q => cell_below (hp q) p0
            have x1 := fun q => cell_below (hp q) p1
            have y0 := fun q => cell_below (below_drewN hba q) d0
            have y1 := fun q => cell_below (below_drewN hba q) d1
            have HFj := hide (HHS.out k HF.out hlt)
            have HFs := hide (fun h => fstF_go (j := k) HF.out h)
            have HO : Hid (samP P k = if (P k).a = (P 0).a ∧ (P k).b = (P 0).b then 0 else 3) := rfl
            have HBa := hide (below_two HB.out hba)
            have hjn : (0 : Int) < (j : Int) := by omega
            obtain ⟨adp, cpp, rfl⟩ := slice_shape hi
            clear hs hi hba hp p0 p1 d0 d1 hlw
            generalize samP P k = O at *
            generalize (P k).a = pa at *
            generalize (P k).b = pb at *
            generalize (P 0).a = qa at *
            generalize (P 0).b = qb at *
            by_cases ha : pa = qa
            · subst ha
              have n1 : (pa != pa) = false := by simp
              by_cases hb : pb = qb
              · subst hb
                have n2 : (pb != pb) = false := by simp
                rw [if_pos ⟨rfl, rfl⟩] at HO
                have HN1 := hide (HFs.out HO.out)
                clear HFs HFj HO
                go_wp2_with fail
                go_quiet (fail)
                go_wp2
                go_roundw
                case rel => exact ⟨k + 1, by omega, by go_num, HN1, below_drewN HBa.out _⟩
                case measure => simp [intOf]; omega
              · have n2 : (pb != qb) = true := by simp [bne, hb]
                rw [if_neg (fun h => hb h.2)] at HO
                have HE := hide (HFj.out (by rw [HO.out]; omega))
                clear HFs HFj hb
                go_wp2_with fail
                go_quiet (fail)
                go_wp2
                go_ret
                exact ⟨by rw [HE.out, HO.out]; rfl, below_drewN HBa.out _⟩
            · have n1 : (pa != qa) = true := by simp [bne, ha]
              rw [if_neg (fun h => ha h.1)] at HO
              have HE := hide (HFj.out (by rw [HO.out]; omega))
              clear HFs HFj ha
              go_wp2_with fail
              go_quiet (fail)
              go_wp2
              go_ret
              exact ⟨by rw [HE.out, HO.out]; rfl, below_drewN HBa.out _⟩
          · obtain rfl : k = j := by omega
            have HE := hide (HH.out HF.out)
            go_wp2
            go_ret
            exact ⟨by rw [HE.out]; rfl, HB.out⟩
  · have HE := hide (chqF_cnt (P := P) hc)
    have HN := hide (errN_pos hc)
    clear h3
    generalize cntF N = k at *
    clear hc
    go_enter Tryd.func33, Tryd.ntmps33
    go_wp2_with fail
    refine (K0.out _).mono ?_
    rintro e w1 ⟨rfl, rfl⟩
    rw [HN.out]
    go_wp2
    go_ret
    exact ⟨by rw [HE.out, HN.out]; rfl, Below.refl _ _⟩
end Go.Proofs.YtjhflcgphejddaaDoor

namespace Go.Proofs.YtjhflcgphejddaaDoor
open Go.RowKit
set_option linter.unusedVariables false
set_option maxRecDepth 100000

theorem rngF_in {ev st : Int} : rngF ev st = if (inOk ev 6 && inOk st 64) = true then 0 else 1 := by
  unfold rngF
  by_cases h : inOk ev 6 && inOk st 64
  · rw [if_pos h]
    rw [Bool.and_eq_true, inOk_iff, inOk_iff] at h
    rw [if_pos ⟨h.1.1, h.1.2, h.2.1, h.2.2⟩]
  · rw [if_neg h]
    rw [if_neg]
    intro h2
    apply h
    rw [Bool.and_eq_true, inOk_iff, inOk_iff]
    exact ⟨⟨h2.1, h2.2.1⟩, h2.2.2⟩

set_option maxHeartbeats 2000000 in
theorem fenc_bad {w : World} {v : Value} {N : Nat} {P : Nat → Pc} (ev st : Int) (h : PicsIn w v N P) (hx : enfF N P ev st ≠ 0) :
    Calls Tryd.prog 14 #[v, .int .i64 ev, .int .i64 st] w fun e w' => e = .returned (.tuple #[.slice none 0 0, errN (enfF N P ev st)]) ∧ Below w.heap.size w w' := by
  have K := hide (fcheck_ok h)
  obtain ⟨ad, cap, rfl, _, _, h3⟩ := h
  clear h3
  by_cases hc : chqF N P = 0
  · have HE := hide (enfF_range (ev := ev) (st := st) hc)
    rw [HE.out, rngF_in] at hx
    rw [rngF_in] at HE
    rw [hc] at K
    clear hc
    have K1 := hide (fun w => fwithin_ok ev 6 w)
    have K2 := hide (fun w => fwithin_ok st 64 w)
    cases h1 : inOk ev 6 with
    | false =>
      rw [h1, Bool.false_and, if_neg (by simp)] at HE
      rw [h1] at K1
      clear hx h1 K2
      go_enter Tryd.func14, Tryd.ntmps14
      go_wp2_with fail
      refine (K.out).mono ?_
      rintro e w1 ⟨rfl, hb1⟩
      rw [errN_zero]
      have HB := hide hb1
      clear hb1
      go_wp2_with fail
      refine (K1.out _).mono ?_
      rintro e w2 ⟨rfl, rfl⟩
      go_wp2
      go_ret2
      exact ⟨by rw [HE.out]; rfl, HB.out⟩
    | true =>
      cases h2 : inOk st 64 with
      | true => rw [h1, h2] at hx; exact absurd rfl hx
      | false =>
        rw [h1, h2, Bool.and_false, if_neg (by simp)] at HE
        rw [h1] at K1
        rw [h2] at K2
        clear hx h1 h2
        go_enter Tryd.func14, Tryd.ntmps14
        go_wp2_with fail
        refine (K.out).mono ?_
        rintro e w1 ⟨rfl, hb1⟩
        rw [errN_zero]
        have HB := hide hb1
        clear hb1
        go_wp2_with fail
        refine (K1.out _).mono ?_
        rintro e w2 ⟨rfl, rfl⟩
        go_wp2_with fail
        refine (K2.out _).mono ?_
        rintro e w2 ⟨rfl, rfl⟩
        go_wp2
        go_ret2
        exact ⟨by rw [HE.out]; rfl, HB.out⟩
  · have HE := hide (enfF_first (ev := ev) (st := st) hc)
    have HN := hide (errN_pos hc)
    generalize chqF N P = k at *
    clear hc hx
    go_enter Tryd.func14, Tryd.ntmps14
    go_wp2_with fail
    refine (K.out).mono ?_
    rintro e w1 ⟨rfl, hb1⟩
    rw [HN.out]
    have HB := hide hb1
    clear hb1
    go_wp2
    go_ret2
    exact ⟨by rw [HE.out, HN.out]; rfl, HB.out⟩
end Go.Proofs.YtjhflcgphejddaaDoor

namespace Go.Proofs.YtjhflcgphejddaaDoor
open Go.RowKit Go.Maps
set_option linter.unusedVariables false
set_option maxRecDepth 100000

set_option maxHeartbeats 1000000 in
theorem aenc_bad {w : World} {s : Value} {n : Nat} {f : Nat → Int} (a b st : Int) (h : IntsIn w s n f) (hx : encF a b n f st ≠ 0) :
    Calls Tryd.prog 51 #[.agg #[.int .i64 a, .int .i64 b, s], .int .i64 st] w fun e w' => e = .returned (.tuple #[.slice none 0 0, errN (encF a b n f st)]) ∧ Below w.heap.size w w' := by
  obtain ⟨W1, hW1⟩ : ∃ W1, W1 = w.alloc (.cells #[.int .i64 a, .int .i64 b, s] 46) := ⟨_, rfl⟩
  have b1 : Below w.heap.size w W1 := hW1 ▸ (Below.refl _ _).alloc (Nat.le_refl _) _
  have C := hide (pcheck_ok a b (h.below b1))
  have B1 := hide b1
  have HS := hide (fun w => astep_ok st w)
  subst hW1
  obtain ⟨ad, cap, rfl⟩ := slice_shape h
  clear h b1
  by_cases hp : picF a b n f = 0
  · rw [hp] at C
    have hE : encF a b n f st = if stepOk st = true then 0 else 1 := by unfold encF; rw [if_neg (by omega)]
    cases hs : stepOk st with
    | true => rw [hE, hs, if_pos rfl] at hx; exact absurd rfl hx
    | false =>
      rw [hs] at HS
      have HE : Hid (encF a b n f st = 1) := by unfold Hid; rw [hE, hs, if_neg (by simp)]
      clear hx hp hE hs
      go_enter Tryd.func51, Tryd.ntmps51
      go_wp2_with fail
      refine (C.out).mono ?_
      rintro e w1 ⟨rfl, hb1⟩
      rw [errN_zero]
      have B2 := hide (below_two B1.out hb1)
      clear hb1
      go_wp2_with fail
      refine (HS.out _).mono ?_
      rintro e w2 ⟨rfl, rfl⟩
      go_wp2
      go_ret2
      exact ⟨by rw [HE.out]; rfl, B2.out⟩
  · have HE : Hid (encF a b n f st = picF a b n f) := by unfold Hid encF; rw [if_pos hp]
    have HN := hide (errN_pos hp)
    clear hx hp HS
    generalize picF a b n f = k at *
    go_enter Tryd.func51, Tryd.ntmps51
    go_wp2_with fail
    refine (C.out).mono ?_
    rintro e w1 ⟨rfl, hb1⟩
    rw [HN.out]
    have B2 := hide (below_two B1.out hb1)
    clear hb1
    go_wp2
    go_ret2
    exact ⟨by rw [HE.out, HN.out]; rfl, B2.out⟩

set_option maxHeartbeats 4000000 in
theorem aenc_ok {w : World} {v : Value} {n : Nat} {f : Nat → Int} {a b s : Int} {A B : Nat} (h : IntsIn w v n f) (o : PicOk a b n f A B) (s1 : 1 ≤ s) (s2 : s ≤ 64) :
    Calls Tryd.prog 51 #[.agg #[.int .i64 a, .int .i64 b, v], .int .i64 s] w fun e w' => ∃ u, e = .returned (.tuple #[u, .nilIface]) ∧ IntsIn w' u n (restF A s (byPix s f)) ∧ Below w.heap.size w w' ∧ ∀ g, u.ownBlock = some g → w.heap.size ≤ g := by
  obtain ⟨w1, hw1⟩ : ∃ w1, w1 = w.alloc (.cells #[.int .i64 a, .int .i64 b, v] 46) := ⟨_, rfl⟩
  have b1 : Below w.heap.size w w1 := hw1 ▸ (Below.refl _ _).alloc (Nat.le_refl _) _
  have P1 : Hid (PicIn w1 w.heap.size a b v) := hide (hw1 ▸ picIn_new w _ _ _)
  have B1 := hide b1
  have C := hide (pcheck_ok a b (h.below b1))
  rw [picF_zero.2 ⟨A, B, o⟩] at C
  have S1 := hide (fun w => astep_ok s w)
  rw [stepOk_iff.2 ⟨s1, s2⟩] at S1
  have hl := o.le
  have h0 := o.pos
  have HR := hide (fun i (hi : i < n) => restF_in (f := f) o.w1 s1 (o.pix i hi))
  have HP := hide o.pix
  have HT := hide (fun i => tellF_eq o.w1 s (byPix s f) i)
  have HF : Hid (∀ i, restF A s (byPix s f) i = rnd (f i - gsN A (tellF A s (byPix s f)) i) s) := fun i => rfl
  have HF2 : Hid (∀ i, byPix s f i (gsN A (tellF A s (byPix s f)) i) = restF A s (byPix s f) i) := fun i => rfl
  have HG := hide (fun i => gsN_in (A := A) (tellF_in o.w1 s (byPix s f)) i)
  have a1 := o.w1
  have a6 := o.w6
  have ea := o.wide
  obtain ⟨i0, hi0, hz0, hz1, hz2⟩ := info_parts Tryd.infoInt
  have Hi := hide hi0
  have Hz0 := hide hz0
  have Hz1 := hide hz1
  have Hz2 := hide hz2
  have hmk : ∀ W : World, (Instr.makeSlice 36 (.int .i64 0) (.int .i64 (n : Int))).run Tryd.prog W = .ok (.slice (some ⟨W.heap.size, 0, none⟩) 0 n) (W.alloc (.cells (madeCells #[Value.int .i64 0] n) 3)) := by
    intro W
    have hr := run_make (P := Tryd.prog) W 36 3 i0 (.int .i64 0) Tryd.underlying36 hi0 hz0 .i64 .i64 0 n (Int.le_refl _) (by omega) (by rw [hz2]; omega) (by omega)
    simp only [Int.toNat_zero, Int.toNat_natCast, hz1, Nat.mul_one] at hr
    exact hr
  obtain ⟨bb, oo, cap, rfl, hc⟩ : ∃ bb oo cap, v = .slice (some ⟨bb, oo, none⟩) n cap ∧ ∀ i, i < n → w.cell? ⟨bb, oo + i, none⟩ = some (.int .i64 (f i)) := by
    rcases h with ⟨h, _⟩ | ⟨_, b', o', c', e, hc⟩
    · omega
    · exact ⟨_, _, _, e, hc⟩
  have HC := hide hc
  subst ea
  generalize hTT : tellF A s (byPix s f) = T at *
  generalize hRR : restF A s (byPix s f) = R at *
  clear h o b1 hc hi0 hz0 hz1 hz2 hTT hRR
  subst hw1
  go_enter Tryd.func51, Tryd.ntmps51
  go_wp2_with fail
  refine (C.out).mono ?_
  rintro e w2 ⟨rfl, hb2⟩
  rw [errN_zero]
  have P2 := hide (P1.out.below hb2)
  have B2 := hide (below_two B1.out hb2)
  obtain ⟨⟨c0, _⟩, ⟨c1, _⟩, c2, _⟩ := P2.out
  clear hb2 P1 B1
  go_wp2_with fail
  refine (S1.out _).mono ?_
  rintro e w3 ⟨rfl, rfl⟩
  go_upto_region 6 with fail
  go_cut [7, 8] (fun x y wx => ∃ (g h : Nat), x = .slice (some ⟨g, 0, none⟩) 0 n ∧ y = .slice (some ⟨h, 0, none⟩) 0 n ∧ g ≠ h ∧ Hid (wx.ownsRow w2.heap.size 3 1 (.slice (some ⟨g, 0, none⟩) 0 n) 0 []) ∧ Hid (wx.ownsRow w2.heap.size 3 1 (.slice (some ⟨h, 0, none⟩) 0 n) 0 []) ∧ Hid (Below w2.heap.size w2 wx))
  case first =>
    have hca : ∀ o, (w2.alloc o).cell? ⟨w.heap.size, 2, none⟩ = some (.slice (some ⟨bb, oo, none⟩) n cap) := fun o => cell_below ((Below.refl _ w2).alloc (Nat.le_refl _) o) c2
    have hs0 : (madeCells #[Value.int .i64 0] n).size = n * 1 := by rw [Nat.mul_one]; exact size_madeCells _ _
    have O1 := World.ownsRow_made (base := w2.heap.size) (e := 3) (size := 1) w2 (madeCells #[Value.int .i64 0] n) n (Nat.le_refl _) (by unfold maxLen; omega) hs0
    have O2 := World.ownsRow_made (base := w2.heap.size) (e := 3) (size := 1) (w2.alloc (.cells (madeCells #[Value.int .i64 0] n) 3)) (madeCells #[Value.int .i64 0] n) n (by simp) (by unfold maxLen; omega) hs0
    have bA : Below w2.heap.size w2 ((w2.alloc (.cells (madeCells #[Value.int .i64 0] n) 3)).alloc (.cells (madeCells #[Value.int .i64 0] n) 3)).drew := (((Below.refl _ w2).alloc (Nat.le_refl _) _).alloc (by simp) _).drew
    have bB : Below (w2.alloc (.cells (madeCells #[Value.int .i64 0] n) 3)).heap.size (w2.alloc (.cells (madeCells #[Value.int .i64 0] n) 3)) ((w2.alloc (.cells (madeCells #[Value.int .i64 0] n) 3)).alloc (.cells (madeCells #[Value.int .i64 0] n) 3)).drew := ((Below.refl _ _).alloc (Nat.le_refl _) _).drew
    have bC : Below ((w2.alloc (.cells (madeCells #[Value.int .i64 0] n) 3)).alloc (.cells (madeCells #[Value.int .i64 0] n) 3)).heap.size ((w2.alloc (.cells (madeCells #[Value.int .i64 0] n) 3)).alloc (.cells (madeCells #[Value.int .i64 0] n) 3)) ((w2.alloc (.cells (madeCells #[Value.int .i64 0] n) 3)).alloc (.cells (madeCells #[Value.int .i64 0] n) 3)).drew := (Below.refl _ _).drew
    have hz : (w2.alloc (.cells (madeCells #[Value.int .i64 0] n) 3)).heap.size = w2.heap.size + 1 := by simp
    have HO1 := hide (own_under' O1 bB)
    have HO2 := own_under' O2 bC
    rw [hz] at HO2
    have HO2 := hide HO2
    have BA := hide bA
    have hn1 : w2.heap.size ≠ w2.heap.size + 1 := by omega
    clear O1 O2 bA bB bC hz hs0
    go_region
    · go_wp2_with fail
      go_meet
      exact ⟨w2.heap.size, w2.heap.size + 1, rfl, rfl, hn1, HO1, HO2, BA⟩
    · go_wp2_with fail
      go_meet
      exact ⟨w2.heap.size + 1, w2.heap.size, rfl, rfl, hn1.symm, HO2, HO1, BA⟩
  case rest =>
    obtain ⟨g0, k0, rfl, rfl, hgk, HO1, HO2, BA⟩ := hcut
    have P3 := hide (P2.out.below BA.out)
    have HAP : Hid (Apart (.slice (some ⟨g0, 0, none⟩) 0 n) (.slice (some ⟨k0, 0, none⟩) 0 n)) := Or.inr (Or.inr (fun e => hgk (by cases e; rfl)))
    obtain ⟨⟨d0, _⟩, ⟨d1, _⟩, d2, _⟩ := P3.out
    clear c0 c1 c2 hgk hmk
    go_wp2
    clear d0 d1 d2
    go_loopw [7, 8, 33] (fun x y i wr => ∃ (j : Nat) (ax : Option Addr) (cx : Nat) (ay : Option Addr) (cy : Nat), j ≤ n ∧ i = .int .i64 j ∧ x = .slice ax j cx ∧ y = .slice ay j cy ∧ Hid (wr.ownsRow w2.heap.size 3 1 (.slice ax j cx) j ((List.range j).map fun k : Nat => .int .i64 (R k))) ∧ Hid (wr.ownsRow w2.heap.size 3 1 (.slice ay j cy) j ((List.range j).map fun k : Nat => .int .i64 (T k))) ∧ Hid (Apart (.slice ax j cx) (.slice ay j cy)) ∧ Hid (Below w2.heap.size w2 wr)) (fun _ _ i _ => n - (intOf i).toNat)
    case atStart => exact ⟨0, _, n, _, n, Nat.zero_le _, rfl, rfl, rfl, HO1, HO2, HAP, BA⟩
    case round =>
      obtain ⟨j, ax, cx, ay, cy, hj, rfl, rfl, rfl, HX, HY, HA, HB⟩ := hrel
      have HP4 := hide (P2.out.below HB.out)
      obtain ⟨⟨c0, _⟩, ⟨c1, _⟩, c2, _⟩ := HP4.out
      by_cases hlt : j < n
      · have hcj := cell_below (below_two B2.out HB.out) (HC.out j hlt)
        have hr := HR.out j hlt
        have hf := HP.out j hlt
        have hg := HG.out j
        have K1 := hide (aguess_ok (w := wr) (own_in HY.out) a1 a6 (by omega))
        have K2 := hide (asteps_ok (f j - gsN A T j) s wr (by omega) (by omega) s1 s2)
        rw [← HF.out j] at K2
        have K3 := hide (fun w => atell_ok (gsN A T j) (R j) s w hg.1 hg.2 hr.1 hr.2 s1 s2)
        have hTj := HT.out j
        rw [HF2.out j] at hTj
        rw [← hTj] at K3
        have HM : Hid ((List.range (j + 1)).map (fun k : Nat => Value.int .i64 (R k)) = (List.range j).map (fun k : Nat => Value.int .i64 (R k)) ++ [.int .i64 (R j)]) := by
          unfold Hid; rw [List.range_succ, List.map_append]; rfl
        have HN : Hid ((List.range (j + 1)).map (fun k : Nat => Value.int .i64 (T k)) = (List.range j).map (fun k : Nat => Value.int .i64 (T k)) ++ [.int .i64 (T j)]) := by
          unfold Hid; rw [List.range_succ, List.map_append]; rfl
        clear hTj
        generalize gsN A T j = g at *
        generalize f j = x at *
        generalize T j = z at *
        generalize R j = q at *
        have hsz := HB.out.size
        obtain ⟨g1, g2⟩ := hg
        obtain ⟨f1, f2⟩ := hf
        obtain ⟨r1, r2⟩ := hr
        go_wp2_with fail
        refine (K1.out).mono ?_
        rintro e w3 ⟨rfl, rfl⟩
        go_wp2_with fail
        refine (K2.out).mono ?_
        rintro e w3 ⟨rfl, rfl⟩
        have hz1' := Hz1.out
        go_wp2_with (at_builtin; refine wpList_append_lies _ rfl _ _ 36 rfl w2.heap.size 3 i0 (.int .i64 0) 1 8 Tryd.underlying36 Hi.out Hz0.out Hz1.out Hz2.out rfl (by decide) _ _ _ rfl (HX.out.alloc _) ⟨wr.heap.size, 0, none⟩ 1 1 [.int .i64 q] rfl rfl (cell_one_new _ _ _) (fun x hx => by simp at hx; subst hx; rfl) (by decide) (by unfold maxLen; omega) (by omega) (by simp; omega) _ rfl ?_; intro g3 cap3 w5 hown3 hgrow3 hat3 hlt3)
        have HX5 := hide hown3
        have HY5 := hide ((HY.out.alloc _).kept hgrow3 HA.out.kept)
        have HA5 := hide (apart_new (n := j + 1) (c := cap3) HY.out HA.out (by simp) hat3)
        have HB5 := hide ((HB.out.alloc hsz _).grown hgrow3 (by simp; omega) (fun q hq => (HX.out.lt q hq).1))
        have hsz5 := HB5.out.size
        clear hown3 hgrow3 hat3 hlt3
        go_wp2_with fail
        refine (K3.out _).mono ?_
        rintro e w6 ⟨rfl, rfl⟩
        go_wp2_with (at_builtin; refine wpList_append_lies _ rfl _ _ 36 rfl w2.heap.size 3 i0 (.int .i64 0) 1 8 Tryd.underlying36 Hi.out Hz0.out Hz1.out Hz2.out rfl (by decide) _ _ _ rfl (HY5.out.alloc _) ⟨w5.heap.size, 0, none⟩ 1 1 [.int .i64 z] rfl rfl (cell_one_new _ _ _) (fun x hx => by simp at hx; subst hx; rfl) (by decide) (by unfold maxLen; omega) (by omega) (by simp; omega) _ rfl ?_; intro g4 cap4 w7 hown4 hgrow4 hat4 hlt4)
        have HY7 := hide hown4
        have HX7 := hide ((HX5.out.alloc _).kept hgrow4 HA5.out.symm.kept)
        have HA7 := hide (apart_new (n := j + 1) (c := cap4) HX5.out HA5.out.symm (by simp) hat4).symm
        have HB7 := hide ((HB5.out.alloc hsz5 _).grown hgrow4 (by simp; omega) (fun q hq => (HY5.out.lt q hq).1))
        go_roundw
        case rel =>
          have RR : j + 1 ≤ n ∧ Value.int .i64 ((j : Int) + 1) = .int .i64 ((j + 1 : Nat) : Int) ∧ Value.slice (some ⟨g3, 0, none⟩) (j + 1) cap3 = .slice (some ⟨g3, 0, none⟩) (j + 1) cap3 ∧ Value.slice (some ⟨g4, 0, none⟩) (j + 1) cap4 = .slice (some ⟨g4, 0, none⟩) (j + 1) cap4
              ∧ Hid (w7.ownsRow w2.heap.size 3 1 (.slice (some ⟨g3, 0, none⟩) (j + 1) cap3) (j + 1) ((List.range (j + 1)).map fun k : Nat => .int .i64 (R k))) ∧ Hid (w7.ownsRow w2.heap.size 3 1 (.slice (some ⟨g4, 0, none⟩) (j + 1) cap4) (j + 1) ((List.range (j + 1)).map fun k : Nat => .int .i64 (T k))) ∧ Hid (Apart (.slice (some ⟨g3, 0, none⟩) (j + 1) cap3) (.slice (some ⟨g4, 0, none⟩) (j + 1) cap4)) ∧ Hid (Below w2.heap.size w2 w7) :=
            ⟨by omega, by simp, rfl, rfl, by unfold Hid; rw [HM.out]; exact HX7.out, by unfold Hid; rw [HN.out]; exact HY7.out, HA7, HB7⟩
          first
            | exact ⟨j + 1, some ⟨g3, 0, none⟩, cap3, some ⟨g4, 0, none⟩, cap4, RR⟩
            | ((repeat apply Exists.intro); exact ⟨⟨j + 1, some ⟨g3, 0, none⟩, cap3, some ⟨g4, 0, none⟩, cap4, RR⟩, rfl⟩)
        case measure => simp [intOf]; omega
      · obtain rfl : j = n := by omega
        have hlt2 := P2.out.lt
        go_wp2
        go_ret2
        exact ⟨_, rfl, own_in HX.out, below_two B2.out HB.out, fun g hg => by have := (HX.out.lt g hg).1; omega⟩
end Go.Proofs.YtjhflcgphejddaaDoor

namespace Go.Proofs.YtjhflcgphejddaaDoor
open Go.RowKit
set_option linter.unusedVariables false
set_option maxRecDepth 100000

set_option maxHeartbeats 1000000 in
theorem mapart_ok {w : World} {s s' : Value} {n : Nat} {f f' : Nat → Int} (h : IntsIn w s n f) (h' : IntsIn w s' n f') (h0 : 0 < n) (hn : n ≤ 36)
    (hf : ∀ i, i < n → 0 ≤ f i ∧ f i ≤ 255) (hf' : ∀ i, i < n → 0 ≤ f' i ∧ f' i ≤ 255) :
    Calls Tryd.prog 92 #[s, s'] w fun e w' => e = .returned (.int .i64 (sumN f f' n : Nat)) ∧ Below w.heap.size w w' := by
  obtain ⟨ad, oo, cap, rfl, hc⟩ : ∃ ad oo cap, s = .slice (some ⟨ad, oo, none⟩) n cap ∧ ∀ i, i < n → w.cell? ⟨ad, oo + i, none⟩ = some (.int .i64 (f i)) := by
    rcases h with ⟨h, _⟩ | ⟨_, b, o, c, rfl, hc⟩
    · omega
    · exact ⟨_, _, _, rfl, hc⟩
  obtain ⟨ad', oo', cap', rfl, hc'⟩ : ∃ ad oo cap, s' = .slice (some ⟨ad, oo, none⟩) n cap ∧ ∀ i, i < n → w.cell? ⟨ad, oo + i, none⟩ = some (.int .i64 (f' i)) := by
    rcases h' with ⟨h, _⟩ | ⟨_, b, o, c, rfl, hc⟩
    · omega
    · exact ⟨_, _, _, rfl, hc⟩
  have HC := hide hc
  have HC' := hide hc'
  have HP := hide hf
  have HP' := hide hf'
  have HB := hide (fun j (hj : j ≤ n) => sumN_le (f := f) (g := f') (n := j) (fun i hi => hf i (by omega)) (fun i hi => hf' i (by omega)))
  clear h h' hc hc' hf hf'
  go_enter Tryd.func92, Tryd.ntmps92
  go_wp2
  go_loopw [5, 9] (fun m i wr => ∃ j : Nat, j ≤ n ∧ i = .int .i64 j ∧ m = .int .i64 (sumN f f' j : Nat) ∧ Below w.heap.size w wr) (fun _ i _ => n - (intOf i).toNat)
  case atStart => exact ⟨0, Nat.zero_le _, rfl, rfl, Below.refl _ _⟩
  case round =>
    obtain ⟨j, hj, rfl, rfl, hb⟩ := hrel
    by_cases hlt : j < n
    · have l1 := cell_below hb (HC.out j hlt)
      have l2 := cell_below hb (HC'.out j hlt)
      obtain ⟨x0, x1⟩ := HP.out j hlt
      obtain ⟨y0, y1⟩ := HP'.out j hlt
      have hm := HB.out j hj
      have HM : Hid (sumN f f' (j + 1) = sumN f f' j + (f j - f' j).natAbs) := rfl
      generalize f j = x at *
      generalize f' j = y at *
      generalize sumN f f' j = m at *
      have hm2 : m ≤ 9180 := by omega
      clear hm
      go_wp2_with fail
      go_quiet (fail)
      go_wp2
      all_goals
        go_roundw
        case rel =>
          refine ⟨j + 1, by omega, by go_num, ?_, below_drewN hb _⟩
          rw [HM.out]
          congr 1
          have e : ((m + (x - y).natAbs : Nat) : Int) = (m : Int) + max (x - y) (y - x) := by omega
          rw [e]
          first | omega | ((repeat' split) <;> omega)
        case measure => simp [intOf]; omega
    · obtain rfl : j = n := by omega
      go_wp2
      go_ret
      exact ⟨rfl, hb⟩
end Go.Proofs.YtjhflcgphejddaaDoor
