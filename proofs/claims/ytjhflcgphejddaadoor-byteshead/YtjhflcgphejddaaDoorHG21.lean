/-
  Lemmas for the law above, joined into one text (BmT, BmC, BmL, BmX). No statement is proved here.
-/
import Derived.Test.YtjhflcgphejddaaDoorHG19
import Derived.Test.YtjhflcgphejddaaDoorHG20
import Derived.Deep.QuietTactic
import Derived.BigQuiet
import Derived.Deep.DeepCutAuto
import Derived.Deep.CutBlock
import Derived.Test.YtjhflcgphejddaaDoorHG18
import Derived.Test.YtjhflcgphejddaaDoorHG16
import Derived.Deep.AppendLies
import Derived.Test.YtjhflcgphejddaaDoorHG3
import Derived.Deep.RegionHeld3
namespace Go.Proofs.YtjhflcgphejddaaDoor
open Go.RowKit
set_option linter.unusedVariables false
set_option maxRecDepth 100000

/-- Rests are read, or there are not as many. -/
def RstB (w : World) (b Q : Nat) (g : Nat → Int) (m a many : Nat) (e : Ending) (w' : World) : Prop :=
  Kept (fun i => i = b) w w' ∧ ((rsP g m a many = none ∧ e = .returned (.tuple #[.slice none 0 0, .bool false])) ∨ ∃ xs a' ad cp v', rsP g m a many = some (xs, a') ∧ xs.length = many ∧ e = .returned (.tuple #[.slice ad many cp, .bool true]) ∧ w'.ownsRow w.heap.size 3 1 (.slice ad many cp) many (encI xs) ∧ RdB w' b Q g m a' v')
theorem idx_shift (h : Nat → Int) (E k : Nat) : idxN (fun i => h (E + i)) k = if ones h E k < k then ((ones h E k : Nat) : Int) else -1 := by
  unfold idxN
  rw [ones_shift, Nat.add_zero]

set_option maxHeartbeats 4000000 in
theorem brests_ok {w : World} {b Q m a many : Nat} {v : Value} {g : Nat → Int} (h : RdB w b Q g m a v) (hm : m ≤ 2000) (hk : many ≤ 1000000) (hg : ∀ i, i < m → g i = 0 ∨ g i = 1) :
    Calls Tryd.prog 64 #[.pointer (some ⟨b, 0, none⟩), .int .i64 many] w (RstB w b Q g m a many) := by
  have HR := hide h
  have hbl := h.bl
  have hle := h.le
  have HLE := hide hle
  have HG := hide (h.bits hg)
  obtain ⟨bb, oo, cap, rfl⟩ := h.fo
  obtain ⟨_, cap', e', h1, h2, _⟩ := h.sl
  obtain ⟨_, rfl⟩ : True ∧ cap' = cap := by cases e'; exact ⟨trivial, rfl⟩
  have c0 := h.c0
  have f0 := h.f0
  have HS := hide h.sl
  have HX : Hid (∀ j, j ≤ many → endP (fun i => g (a + i)) (m - a) j = none → rsP g m a many = none) := fun j hj hn => rsP_endless hle (endP_past hn hj)
  have HY : Hid (∀ E, endP (fun i => g (a + i)) (m - a) many = some E → rsP g m a many = (getN (fun i => g (a + i)) E 2 many).map fun xs => (xs, a + E)) := fun E hE => rsP_get hle hE
  unfold maxLen at h2
  have hM2 : m - a ≤ 2000 := by omega
  generalize hM : m - a = M at *
  have HM := hide hM
  obtain ⟨F, hF⟩ : ∃ F : Nat → Int, F = fun i => g (a + i) := ⟨_, rfl⟩
  rw [← hF] at HS HX HY
  have HFe := hide hF
  have HG2 : Hid (∀ i, i < M → F i = 0 ∨ F i = 1) := fun i hi => by rw [hF]; exact HG.out i hi
  have KI : Hid (∀ E, E ≤ M → ∀ sl, Cut (.slice (some ⟨bb, oo, none⟩) M cap') sl M E → Calls Tryd.prog 84 #[sl, .int .i64 0] w fun e w' => e = .returned (.int .i64 (idxN (fun i => F (E + i)) (M - E))) ∧ w = w') := fun E hE sl hc => nought_ok (hc _ _ HS.out).ints (by omega)
  clear h e' hle hM hF hg
  go_enter Tryd.func64, Tryd.ntmps64
  go_wp2
  go_loop [6, 11] (fun u i => ∃ (j E : Nat), j ≤ many ∧ E ≤ M ∧ i = .int .i64 j ∧ u = .int .i64 E ∧ Hid (endP F M j = some E)) (fun _ i => many - (intOf i).toNat)
  case atStart => exact ⟨0, 0, Nat.zero_le _, Nat.zero_le _, rfl, rfl, rfl⟩
  case round =>
    obtain ⟨j, E, hj, hE, rfl, rfl, HE⟩ := hrel
    by_cases hlt : j < many
    · obtain ⟨q, hq⟩ : ∃ q, q = ones F E (M - E) := ⟨_, rfl⟩
      have hqM : q ≤ M - E := by rw [hq]; exact ones_le _ _ _
      obtain ⟨x, hx⟩ : ∃ x, x = idxN (fun i => F (E + i)) (M - E) := ⟨_, rfl⟩
      have KE := KI.out E hE
      rw [← hx] at KE
      have HKE := hide KE
      have HI : Hid (x = if q < M - E then ((q : Nat) : Int) else -1) := by unfold Hid; rw [hx, idx_shift, ← hq]
      have HQ := hide hq
      clear hq hx KE
      go_upto_region 4 with fail
      go_cut [7] (fun o wx => o = .int .i64 x ∧ w = wx)
      case first =>
        by_cases cE : cap' = E
        · go_wp2_with fail
          refine (HKE.out _ (cut_end (by omega) (by unfold maxLen; omega))).mono ?_
          rintro e w1 ⟨rfl, rfl⟩
          go_wp2
          go_meet
          exact ⟨rfl, rfl⟩
        · go_wp2_with fail
          refine (HKE.out _ cut_mid).mono ?_
          rintro e w1 ⟨rfl, rfl⟩
          go_wp2
          go_meet
          exact ⟨rfl, rfl⟩
      case rest =>
        obtain ⟨rfl, rfl⟩ := hcut
        by_cases c1 : q < M - E
        · obtain rfl : x = ((q : Nat) : Int) := by rw [HI.out, if_pos c1]
          have hq0 : decide (((q : Nat) : Int) < 0) = false := by simp
          by_cases c2 : E + q + 3 ≤ M
          · have HN : Hid (endP F M (j + 1) = some (E + q + 3)) := by
              have := endP_some HE.out (by rw [← HQ.out]; exact c2)
              rw [← HQ.out] at this; exact this
            go_wp2
            go_round
            case rel => exact ⟨j + 1, E + q + 3, by omega, by omega, by go_num, by go_num, HN⟩
            case measure => simp [intOf]; omega
          · have HN := hide (HX.out (j + 1) (by omega) (endP_none HE.out (by rw [← HQ.out]; exact c2)))
            go_wp2
            go_ret2
            exact ⟨Kept.refl _ _, Or.inl ⟨HN.out, rfl⟩⟩
        · obtain rfl : x = -1 := by rw [HI.out, if_neg c1]
          have HN := hide (HX.out (j + 1) (by omega) (endP_none HE.out (by rw [← HQ.out]; omega)))
          go_wp2
          go_ret2
          exact ⟨Kept.refl _ _, Or.inl ⟨HN.out, rfl⟩⟩
    · obtain rfl : j = many := by omega
      have hE3 := endP_le HE.out
      have HY2 := hide (HY.out E HE.out)
      have KG := hide (rget_ok (low := 2) (many := j) (HS.out.take hE) (by omega) (by omega) (by omega) (fun i hi => HG2.out i (by omega)))
      clear HX HY KI
      have e2 : errN 2 = .iface 60 (.int .i64 2) := rfl
      have hKr : Kept (fun i => i = b) w w := Kept.refl _ _
      clear hE3
      go_wp2_with fail
      refine (KG.out).mono ?_
      rintro e w1 ⟨hgot, hb1⟩
      have HR1 := hide (HR.out.below hb1)
      have HK1 := hide (hKr.below hb1)
      have d0 := HR1.out.c0
      have g0 := HR1.out.f0
      rcases hgot with ⟨hn, rfl⟩ | ⟨xs, ad, cp, hn, hxl, rfl, hown⟩
      · have HN : Hid (rsP g m a j = none) := by unfold Hid; rw [HY2.out, hn]; rfl
        clear hn hb1 hKr KG c0 f0
        rw [e2]
        by_cases cE : cap' = E
        · go_wp2
          go_region
          go_wp2
          go_ret2
          exact ⟨(HK1.out.setCell _ _ (Or.inl rfl)).below (Below.refl _ _).drew, Or.inl ⟨HN.out, rfl⟩⟩
        · go_wp2
          go_region
          go_wp2
          go_ret2
          exact ⟨(HK1.out.setCell _ _ (Or.inl rfl)).below (Below.refl _ _).drew, Or.inl ⟨HN.out, rfl⟩⟩
      · have HN : Hid (rsP g m a j = some (xs, a + E)) := by unfold Hid; rw [HY2.out, hn]; rfl
        have HO := hide hown
        have HL := hide hxl
        have hEm : a + E ≤ m := by have := HM.out; have := HLE.out; omega
        have HEm := hide hEm
        clear hn hb1 hKr KG c0 f0 hown hxl hEm
        by_cases cE : cap' = E
        · have hc0 : Cut (.slice (some ⟨bb, oo, none⟩) M cap') (.slice (some ⟨bb, oo, none⟩) (M - E) 0) M E := (cut_end (by omega) (by unfold maxLen; omega))
          have HC := hide (HR1.out.cut (sl := (.slice (some ⟨bb, oo, none⟩) (M - E) 0)) (by rw [HM.out]; exact hc0) HEm.out (fun k e => e) (by rw [HM.out]; exact ⟨_, _, _, rfl⟩))
          clear hc0
          go_wp2
          go_region
          go_wp2
          go_ret2
          exact ⟨(HK1.out.setCell _ _ (Or.inl rfl)).below (Below.refl _ _).drew, Or.inr ⟨xs, a + E, ad, cp, _, HN.out, HL.out, rfl, own_below (own_set HO.out hbl _ _) (Below.refl _ _).drew, HC.out.below (Below.refl _ _).drew⟩⟩
        · have hc0 : Cut (.slice (some ⟨bb, oo, none⟩) M cap') (.slice (some ⟨bb, oo + E, none⟩) (M - E) (cap' - E)) M E := cut_mid
          have HC := hide (HR1.out.cut (sl := (.slice (some ⟨bb, oo + E, none⟩) (M - E) (cap' - E))) (by rw [HM.out]; exact hc0) HEm.out (fun k e => e) (by rw [HM.out]; exact ⟨_, _, _, rfl⟩))
          clear hc0
          go_wp2
          go_region
          go_wp2
          go_ret2
          exact ⟨(HK1.out.setCell _ _ (Or.inl rfl)).below (Below.refl _ _).drew, Or.inr ⟨xs, a + E, ad, cp, _, HN.out, HL.out, rfl, own_below (own_set HO.out hbl _ _) (Below.refl _ _).drew, HC.out.below (Below.refl _ _).drew⟩⟩
end Go.Proofs.YtjhflcgphejddaaDoor

namespace Go.Proofs.YtjhflcgphejddaaDoor
open Go.RowKit
set_option linter.unusedVariables false
set_option maxRecDepth 100000

theorem hdP_few0 {g : Nat → Int} {m a : Nat} (h : m < a + 1) : hdP g m a = none := by unfold hdP; rw [if_neg (by omega)]
theorem hdP_al {g : Nat → Int} {m a : Nat} (h : a + 1 ≤ m) (h1 : g a = 1) : hdP g m a = some (true, 0, 0, a + 1) := by unfold hdP; rw [if_pos (by omega), if_pos h1]
theorem hdP_few5 {g : Nat → Int} {m a : Nat} (h1 : g a ≠ 1) (h5 : m < a + 5) : hdP g m a = none := by
  unfold hdP
  by_cases c : a < m
  · rw [if_pos c, if_neg h1, if_neg (by omega)]
  · rw [if_neg c]
theorem val_one (g : Nat → Int) (a : Nat) : valN g a 0 1 = (g a).toNat := by
  rw [valN_succ g a 0 0]; show 2 * 0 + (g (a + 0)).toNat = _; rw [Nat.add_zero]; omega
theorem val_two (g : Nat → Int) (a : Nat) : valN g a 0 2 = 2 * (g a).toNat + (g (a + 1)).toNat := by
  rw [valN_succ g a 0 1, val_one]
theorem hdP_mv {g : Nat → Int} {m a : Nat} (hg : ∀ i, i < m → g i = 0 ∨ g i = 1) (h1 : g a ≠ 1) (h5 : a + 5 ≤ m) : hdP g m a = some (false, ((valN g (a + 1) 0 2 : Nat) : Int) - 1, ((valN g (a + 1 + 2) 0 2 : Nat) : Int) - 1, a + 5) := by
  have b1 := hg (a + 1) (by omega)
  have b2 := hg (a + 2) (by omega)
  have b3 := hg (a + 3) (by omega)
  have b4 := hg (a + 4) (by omega)
  unfold hdP
  rw [if_pos (by omega), if_neg h1, if_pos h5, val_two, val_two]
  rw [show a + 1 + 1 = a + 2 by omega, show a + 1 + 2 = a + 3 by omega, show a + 3 + 1 = a + 4 by omega]
  congr 3
  · omega
  · congr 1; omega
theorem own_baseB {w : World} {B B' e size n : Nat} {v : Value} {xs : List Value} (h : w.ownsRow B e size v n xs) (hB : B' ≤ B) : w.ownsRow B' e size v n xs := by
  refine ⟨h.1, ?_⟩
  rcases h.2 with hn | ⟨g, cap, cur, hv, h1, rest⟩
  · exact .inl hn
  · exact .inr ⟨g, cap, cur, hv, Nat.le_trans hB h1, rest⟩
/-- A coded picture is read, or there is none. -/
def CddB (w : World) (b Q : Nat) (g : Nat → Int) (m k a : Nat) (e : Ending) (w' : World) : Prop :=
  Kept (fun i => i = b) w w' ∧ ((cdP g m k a = none ∧ ∃ al x y ad n cp, e = .returned (.tuple #[.agg #[.bool al, .int .i64 x, .int .i64 y, .slice ad n cp], .bool false])) ∨
    ∃ al x y xs ad cp a' v', cdP g m k a = some (⟨al, x, y, k, fun i => xs.getD i 0⟩, a') ∧ xs.length = k ∧ e = .returned (.tuple #[.agg #[.bool al, .int .i64 x, .int .i64 y, .slice ad k cp], .bool true]) ∧ w'.ownsRow w.heap.size 3 1 (.slice ad k cp) k (encI xs) ∧ RdB w' b Q g m a' v')
theorem put_kept {w w1 : World} {b rb : Nat} (h : Kept (fun i => i = b) w w1) (hr : w.heap.size = rb) (al : Bool) (x y : Int) (s : Value) : Kept (fun i => i = b) w ((((w1.setCell ⟨rb, 0, none⟩ (.bool al)).setCell ⟨rb, 1, none⟩ (.int .i64 x)).setCell ⟨rb, 2, none⟩ (.int .i64 y)).setCell ⟨rb, 3, none⟩ s) := by
  have hr : w.heap.size ≤ rb := by omega
  exact (((h.setCell _ _ (Or.inr hr)).setCell _ _ (Or.inr hr)).setCell _ _ (Or.inr hr)).setCell _ _ (Or.inr hr)

set_option maxHeartbeats 4000000 in
theorem bcoded_ok {w : World} {b Q m a k : Nat} {v : Value} {g : Nat → Int} (h : RdB w b Q g m a v) (hQ : Q ≤ w.heap.size) (hm : m ≤ 2000) (hk : k ≤ 1000000) (hg : ∀ i, i < m → g i = 0 ∨ g i = 1) :
    Calls Tryd.prog 44 #[.pointer (some ⟨b, 0, none⟩), .int .i64 k] w (CddB w b Q g m k a) := by
  have HG := hide hg
  have hbl := h.bl
  obtain ⟨w1, hw1⟩ : ∃ w1, w1 = w.alloc (.cells #[.bool false, .int .i64 0, .int .i64 0, .slice none 0 0] 40) := ⟨_, rfl⟩
  have b01 : Below w.heap.size w w1 := hw1 ▸ (Below.refl _ _).alloc (Nat.le_refl _) _
  have HC1 : Hid (CodIn w1 w.heap.size false 0 0 (.slice none 0 0)) := hw1 ▸ codIn_new w false 0 0 (.slice none 0 0)
  have HR1 := hide (h.below b01)
  have HK1 : Hid (Kept (fun i => i = b) w w1) := (Kept.refl _ w).below b01
  have HW1 := hide hw1
  have K1 := hide (bnum_ok (many := 1) HR1.out hm (by omega) (by omega) hg)
  have hr1 : w.heap.size < w1.heap.size := HC1.out.lt
  clear h hg hw1 b01
  go_enter Tryd.func44, Tryd.ntmps44
  go_upto_region 1 with fail
  rw [← HW1.out]
  clear HW1
  generalize hrb : w.heap.size = rb at *
  have HRB := hide hrb
  clear hrb
  go_wp2_with fail
  refine (K1.out).mono ?_
  rintro e w2 (⟨hn, rfl, rfl⟩ | ⟨hn, v2, rfl, hr2, hk2⟩)
  · have HN := hide (cdP_none1 (k := k) (hdP_few0 (g := g) (a := a) hn))
    have HP := hide (HC1.out.put false 0 0 (.slice none 0 0))
    have HKP := hide (put_kept HK1.out HRB.out false 0 0 (.slice none 0 0))
    obtain ⟨_, _, _, _, f0, f1, f2, f3⟩ := HC1.out
    obtain ⟨q0, q1, q2, q3, _, _, _, _⟩ := HP.out
    clear hn
    go_wp2
    refine bodyPost_ret (v := .tuple #[.agg #[.bool false, .int .i64 0, .int .i64 0, .slice none 0 0], .bool false]) (by simp [results, Tryd.results44, go_sem, q0, q1, q2, q3]) rfl ⟨HKP.out, Or.inl ⟨HN.out, _, _, _, _, _, _, rfl⟩⟩
  · have hv1 := val_one g a
    have hga := HG.out a (by omega)
    obtain ⟨z, hz, hz1⟩ : ∃ z : Nat, valN g a 0 1 = z ∧ (g a = 1 ↔ z = 1) := ⟨_, rfl, by omega⟩
    rw [hz]
    obtain ⟨al, hal⟩ : ∃ al, ((z : Int) == 1) = al := ⟨_, rfl⟩
    have HAL : Hid (al = true ↔ g a = 1) := by
      unfold Hid
      rw [← hal, beq_iff_eq]; omega
    have HC2 := hide (HC1.out.kept (by omega) hk2)
    have HK2 := hide (HK1.out.trans_ hk2)
    obtain ⟨w3, hw3⟩ : ∃ w3, w3 = w2.alloc (.cells #[.bool al, .int .i64 0, .int .i64 0, .slice none 0 0] 40) := ⟨_, rfl⟩
    have b23 : Below w2.heap.size w2 w3 := hw3 ▸ (Below.refl _ _).alloc (Nat.le_refl _) _
    have HD3 : Hid (CodIn w3 w2.heap.size al 0 0 (.slice none 0 0)) := hw3 ▸ codIn_new w2 al 0 0 (.slice none 0 0)
    have HC3 := hide (HC2.out.below b23)
    have HR3 := hide (hr2.below b23)
    have HK3 := hide (HK2.out.below b23)
    have hrc : rb < w2.heap.size := by have := hk2.size; omega
    have HW3 := hide hw3
    have hla := HR3.out.le
    clear hv1 hga hz hz1 hr2 hk2 hw3 b23 HK1 HK2 HC1 HC2 HR1 K1
    go_upto_if 26 with fail
    rw [← HW3.out]
    clear HW3
    generalize hcb : w2.heap.size = cb at *
    have HCB := hide hcb
    clear hcb
    obtain ⟨d0, _, _, _, _, _, _, _⟩ := HD3.out
    go_cut [] (fun wx => ∃ (x y : Int) (a2 : Nat) (v3 : Value), Hid (CodIn wx cb al x y (.slice none 0 0)) ∧ Hid (CodIn wx rb false 0 0 (.slice none 0 0)) ∧ Hid (RdB wx b Q g m a2 v3) ∧ Hid (hdP g m a = some (al, x, y, a2)) ∧ Hid (Kept (fun i => i = b) w wx))
    case first =>
      cases al with
      | true =>
        have HH := hide (hdP_al (g := g) (a := a) hla (HAL.out.1 rfl))
        go_wp2
        go_meet
        exact ⟨0, 0, a + 1, v2, HD3, HC3, HR3, HH, HK3⟩
      | false =>
        have hne : g a ≠ 1 := fun e => by have := HAL.out.2 e; cases this
        have HNE := hide hne
        have K4 := hide (bnum_ok (many := 2) HR3.out hm (by omega) (by omega) HG.out)
        have HPz := hide (HC3.out.put false 0 0 (.slice none 0 0))
        have HKz := hide (put_kept HK3.out HRB.out false 0 0 (.slice none 0 0))
        obtain ⟨_, _, _, _, f0, f1, f2, f3⟩ := HC3.out
        obtain ⟨q0, q1, q2, q3, _, _, _, _⟩ := HPz.out
        clear hne
        go_wp2_with fail
        refine (K4.out).mono ?_
        rintro e w4 (⟨hn4, rfl, rfl⟩ | ⟨hn4, v4, rfl, hr4, hk4⟩)
        · have K5 := K4
          have HN := hide (cdP_none1 (k := k) (hdP_few5 HNE.out (show m < a + 5 by omega)))
          go_wp2_with fail
          refine (K5.out).mono ?_
          rintro e w5 (⟨hn5, rfl, rfl⟩ | ⟨hn5, _⟩)
          · clear hn5
            go_wp2
            refine bodyPost_ret (v := .tuple #[.agg #[.bool false, .int .i64 0, .int .i64 0, .slice none 0 0], .bool false]) (by simp [results, Tryd.results44, go_sem, q0, q1, q2, q3]) rfl ⟨HKz.out, Or.inl ⟨HN.out, _, _, _, _, _, _, rfl⟩⟩
          · omega
        · have K5 := hide (bnum_ok (many := 2) hr4 hm (by omega) (by omega) HG.out)
          have HR4 := hide hr4
          have HC4 := hide (HC3.out.kept (by omega) hk4)
          have HD4 := hide (HD3.out.kept (by omega) hk4)
          have HK4 := hide (HK3.out.trans_ hk4)
          clear hr4 hk4 K4 HPz HKz f0 f1 f2 f3 q0 q1 q2 q3
          generalize hX : valN g (a + 1) 0 2 = X at *
          have HX := hide hX
          go_wp2_with fail
          refine (K5.out).mono ?_
          rintro e w5 (⟨hn5, rfl, rfl⟩ | ⟨hn5, v5, rfl, hr5, hk5⟩)
          · have HN := hide (cdP_none1 (k := k) (hdP_few5 HNE.out (show m < a + 5 by omega)))
            have HPz := hide (HC4.out.put false 0 0 (.slice none 0 0))
            have HKz := hide (put_kept HK4.out HRB.out false 0 0 (.slice none 0 0))
            obtain ⟨_, _, _, _, f0, f1, f2, f3⟩ := HC4.out
            obtain ⟨q0, q1, q2, q3, _, _, _, _⟩ := HPz.out
            clear hn5 hX K5
            go_wp2
            refine bodyPost_ret (v := .tuple #[.agg #[.bool false, .int .i64 0, .int .i64 0, .slice none 0 0], .bool false]) (by simp [results, Tryd.results44, go_sem, q0, q1, q2, q3]) rfl ⟨HKz.out, Or.inl ⟨HN.out, _, _, _, _, _, _, rfl⟩⟩
          · have hb1 := HG.out (a + 1) (by omega)
            have hb2 := HG.out (a + 2) (by omega)
            have hb3 := HG.out (a + 3) (by omega)
            have hb4 := HG.out (a + 4) (by omega)
            have hX3 : X ≤ 3 := by rw [← hX, val_two]; rw [show a + 1 + 1 = a + 2 by omega]; omega
            have hY3 : valN g (a + 1 + 2) 0 2 ≤ 3 := by rw [val_two, show a + 1 + 2 = a + 3 by omega, show a + 3 + 1 = a + 4 by omega]; omega
            have hh := hdP_mv HG.out HNE.out (show a + 5 ≤ m by omega)
            rw [hX] at hh
            generalize valN g (a + 1 + 2) 0 2 = Y at *
            have HH := hide hh
            have HR5 := hide hr5
            have HC5 := hide (HC4.out.kept (by omega) hk5)
            have HD5 := hide (HD4.out.kept (by omega) hk5)
            have HK5 := hide (HK4.out.trans_ hk5)
            have x1 : IntKind.i64.wrap ((X : Int) - 1) = (X : Int) - 1 := by rw [IntKind.wrap_i64]; omega
            have x2 : IntKind.i64.wrap ((Y : Int) - 1) = (Y : Int) - 1 := by rw [IntKind.wrap_i64]; omega
            have hcw : w.heap.size ≤ cb := by have := HRB.out; omega
            have HD6 := hide ((HD5.out.setX ((X : Int) - 1)).setY ((Y : Int) - 1))
            have HC6 := hide ((HC5.out.setOther (b2 := cb) (o := 1) (by omega) (.int .i64 ((X : Int) - 1))).setOther (b2 := cb) (o := 2) (by omega) (.int .i64 ((Y : Int) - 1)))
            have HR6 := hide ((HR5.out.other (b2 := cb) (o := 1) (by omega) (by omega) (.int .i64 ((X : Int) - 1))).other (b2 := cb) (o := 2) (by omega) (by omega) (.int .i64 ((Y : Int) - 1)))
            have HK6 := hide ((HK5.out.setCell ⟨cb, 1, none⟩ (.int .i64 ((X : Int) - 1)) (Or.inr hcw)).setCell ⟨cb, 2, none⟩ (.int .i64 ((Y : Int) - 1)) (Or.inr hcw))
            obtain ⟨_, e1, e2, _, _, g1, g2, _⟩ := HD5.out
            clear hb1 hb2 hb3 hb4 hh hr5 hk5 hX K5
            go_wp2
            go_meet
            exact ⟨_, _, a + 5, v5, HD6, HC6, HR6, HH, HK6⟩
    case rest =>
      obtain ⟨x, y, a2, v3, HDc, HCc, HRc, HH, HKc⟩ := hcut
      have K6 := hide (brests_ok HRc.out hm hk HG.out)
      clear HD3 HC3 HR3 HK3 d0
      go_wp2_with fail
      refine (K6.out).mono ?_
      rintro e w6 ⟨hk6, hcase⟩
      have hcw : w.heap.size ≤ cb := by have := HRB.out; omega
      have hcc : cb < wc.heap.size := HDc.out.lt
      have HD6 := hide (HDc.out.kept (by omega) hk6)
      have HC6 := hide (HCc.out.kept (by omega) hk6)
      have HK6 := hide (HKc.out.trans_ hk6)
      obtain ⟨adv, nv, cv, bv, he, HS⟩ : ∃ adv nv cv bv, e = .returned (.tuple #[.slice adv nv cv, .bool bv]) ∧ Hid ((cdP g m k a = none ∧ bv = false) ∨ ∃ xs a' ad cp v', cdP g m k a = some (⟨al, x, y, k, fun i => xs.getD i 0⟩, a') ∧ xs.length = k ∧ bv = true ∧ Value.slice adv nv cv = .slice ad k cp ∧ w6.ownsRow wc.heap.size 3 1 (.slice ad k cp) k (encI xs) ∧ RdB w6 b Q g m a' v') := by
        rcases hcase with ⟨hn, rfl⟩ | ⟨xs, a', ad, cp, v6, hn, hxl, rfl, hown, hr6⟩
        · exact ⟨_, _, _, false, rfl, Or.inl ⟨cdP_none2 HH.out hn, rfl⟩⟩
        · exact ⟨_, _, _, true, rfl, Or.inr ⟨xs, a', ad, cp, v6, cdP_some HH.out hn, hxl, rfl, rfl, hown, hr6⟩⟩
      subst he
      clear hcase K6 hk6 HDc HCc HRc HH HKc
      obtain ⟨W7, hW7⟩ : ∃ W7, W7 = w6.setCell ⟨cb, 3, none⟩ (.slice adv nv cv) := ⟨_, rfl⟩
      have HD7 : Hid (CodIn W7 cb al x y (.slice adv nv cv)) := hW7 ▸ HD6.out.setRest _
      have HC7 : Hid (CodIn W7 rb false 0 0 (.slice none 0 0)) := hW7 ▸ HC6.out.setOther (by omega) _
      have HK7 : Hid (Kept (fun i => i = b) w W7) := hW7 ▸ HK6.out.setCell _ _ (Or.inr hcw)
      have HP8 := hide (HC7.out.put al x y (.slice adv nv cv))
      have HK8 := hide (put_kept HK7.out HRB.out al x y (.slice adv nv cv))
      have HW7 := hide hW7
      obtain ⟨_, _, _, e3, _, _, _, g3⟩ := HD6.out
      clear hW7
      go_upto_region 12 with fail
      rw [← HW7.out]
      obtain ⟨k0, k1, k2, k3, _, _, _, _⟩ := HD7.out
      obtain ⟨_, _, _, _, f0, f1, f2, f3⟩ := HC7.out
      obtain ⟨q0, q1, q2, q3, _, _, _, _⟩ := HP8.out
      go_wp2
      refine bodyPost_ret (v := .tuple #[.agg #[.bool al, .int .i64 x, .int .i64 y, .slice adv nv cv], .bool bv]) (by simp [results, Tryd.results44, go_sem, q0, q1, q2, q3]) rfl ⟨HK8.out, ?_⟩
      rcases HS.out with ⟨hn, rfl⟩ | ⟨xs, a', ad, cp, v6, hn, hxl, rfl, hsv, hown, hr6⟩
      · exact Or.inl ⟨hn, _, _, _, _, _, _, rfl⟩
      · cases hsv
        refine Or.inr ⟨al, x, y, xs, _, _, a', v6, hn, hxl, rfl, ?_, ?_⟩
        · have h1 : W7.ownsRow wc.heap.size 3 1 (.slice _ k _) k (encI xs) := HW7.out ▸ own_set hown hcc _ _
          exact own_baseB (own_set (own_set (own_set (own_set h1 (by omega) _ _) (by omega) _ _) (by omega) _ _) (by omega) _ _) (by omega)
        · have h1 : RdB W7 b Q g m a' v6 := HW7.out ▸ hr6.other (by omega) (by omega) _
          exact (((h1.other (by omega) (by omega) _).other (by omega) (by omega) _).other (by omega) (by omega) _).other (by omega) (by omega) _
end Go.Proofs.YtjhflcgphejddaaDoor

namespace Go.Proofs.YtjhflcgphejddaaDoor
open Go.RowKit
set_option linter.unusedVariables false
set_option maxRecDepth 100000

/-- Some coded pictures are read, or they can't be. -/
def RdaB (t : ByteArray) (k many : Nat) (w : World) (e : Ending) (w' : World) : Prop :=
  Below w.heap.size w w' ∧ ((flP (bitT t) (8 * t.size) k many = none ∧ e = .returned (.tuple #[.slice none 0 0, .bool false])) ∨
    ∃ l a ad cp D, flP (bitT t) (8 * t.size) k many = some (l, a) ∧ (∀ q, q < many → l[q]? = some (D q)) ∧ e = .returned (.tuple #[.slice ad many cp, .bool true]) ∧ CodsIn w' (.slice ad many cp) many D)

set_option maxHeartbeats 4000000 in
theorem bread_ok {w : World} (t : ByteArray) {many k : Nat} (ht : t.size ≤ 200) (hM : many ≤ 1000) (hk : k ≤ 1000000) :
    Calls Tryd.prog 24 #[.string t, .int .i64 many, .int .i64 k] w (RdaB t k many w) := by
  obtain ⟨i1, hi1, hy0, hy1, hy2⟩ := info_parts Tryd.infoCod
  have Hj := hide hi1
  have Hy0 := hide hy0
  have Hy1 := hide hy1
  have Hy2 := hide hy2
  have KA := hide (apart_ok (w := w) t ht)
  obtain ⟨m, hm⟩ : ∃ m, m = 8 * t.size := ⟨_, rfl⟩
  have hm2 : m ≤ 2000 := by omega
  unfold RdaB
  rw [← hm] at KA ⊢
  obtain ⟨g, hg⟩ : ∃ g, g = bitT t := ⟨_, rfl⟩
  have HG : Hid (∀ i, i < m → g i = 0 ∨ g i = 1) := fun i _ => by rw [hg]; exact bitT_in t i
  rw [← hg] at KA ⊢
  clear hi1 hy0 hy1 hy2 hm hg
  go_enter Tryd.func24, Tryd.ntmps24
  go_wp2_with fail
  refine (KA.out).mono ?_
  rintro e wa ⟨ga, ca, rfl, hown, hba⟩
  have HSl : Hid (SlI wa (.slice (some ⟨ga, 0, none⟩) m ca) m (fun i => g (0 + i))) := by
    have h9 := rowV_sl hown (by rw [lst_len])
    exact h9.congr (fun i hi => by rw [Nat.zero_add]; exact lst_get hi)
  have hgl : ga < wa.heap.size := (hown.lt ga rfl).2
  obtain ⟨w1, hw1⟩ : ∃ w1, w1 = wa.alloc (.cells #[.slice (some ⟨ga, 0, none⟩) m ca] 90) := ⟨_, rfl⟩
  have ba1 : Below wa.heap.size wa w1 := hw1 ▸ (Below.refl _ _).alloc (Nat.le_refl _) _
  have HR1 : Hid (RdB w1 wa.heap.size wa.heap.size g m 0 (.slice (some ⟨ga, 0, none⟩) m ca)) := by
    refine ⟨?_, ?_, HSl.out.below ba1, fun k e => ?_, fun k e => ?_, Nat.zero_le _, ⟨_, _, _, rfl⟩⟩
    · rw [hw1]; simp
    · rw [hw1]; simp only [World.frozen?, (MapKept.heap_alloc wa _).1]; simp
    · have : k = ga := by cases e; rfl
      omega
    · have : k = ga := by cases e; rfl
      omega
  have HB1 : Hid (Below w.heap.size w w1) := hba.trans (ba1.mono hba.size)
  have hwa : w.heap.size ≤ wa.heap.size := hba.size
  have hs1 : wa.heap.size < w1.heap.size := HR1.out.bl
  have HW1 := hide hw1
  clear hown hw1 ba1 KA hba
  go_upto_region 2 with fail
  rw [← HW1.out]
  clear HW1 HSl
  generalize hrb : wa.heap.size = rb at *
  clear hrb
  have HC0 : Hid (CodR w1 w1.heap.size (.slice none 0 0) 0 (fun _ => ⟨false, 0, 0, 0, fun _ => 0⟩)) := ⟨fun _ => .slice none 0 0, rowS_nil _ _ _ _ _ _ _ _⟩
  go_wp2
  go_loopw [9, 17] (fun u i wx => ∃ (j : Nat) (adl : Option Addr) (cpl a : Nat) (v : Value) (l : List Cd) (D : Nat → Cd), j ≤ many ∧ i = .int .i64 ((j : Nat) : Int) ∧ u = .slice adl j cpl ∧ Hid (CodR wx w1.heap.size u j D) ∧ Hid (RdB wx rb rb g m a v) ∧ Hid (flP g m k j = some (l, a) ∧ ∀ q, q < j → l[q]? = some (D q)) ∧ Hid (w1.heap.size ≤ wx.heap.size) ∧ Hid (Below w.heap.size w wx)) (fun _ i _ => many - (intOf i).toNat)
  case atStart => exact ⟨0, none, 0, 0, _, [], _, Nat.zero_le _, rfl, rfl, HC0, HR1, ⟨rfl, fun q hq => absurd hq (Nat.not_lt_zero _)⟩, Nat.le_refl _, HB1⟩
  case round =>
    obtain ⟨j, adl, cpl, a, v, l, D, hj, rfl, rfl, HCr, HRd, HFl, HZr, HBr⟩ := hrel
    clear HC0 HR1 HB1
    by_cases hlt : j < many
    · have hzr := HZr.out
      have K2 := hide (bcoded_ok (k := k) HRd.out (by omega) hm2 hk HG.out)
      go_wp2_with fail
      refine (K2.out).mono ?_
      rintro e w2 ⟨hk2, hcase⟩
      have HB2 : Hid (Below w.heap.size w w2) := HBr.out.trans (hk2.to_below (Nat.le_trans HBr.out.size (Nat.le_refl _)) (fun i hi => by omega))
      have hz2 := hk2.size
      rcases hcase with ⟨hn, al, x, y, ads, ns, cps, rfl⟩ | ⟨al, x, y, xs, ad, cp, a2, v2, hn, hxl, rfl, hown, hr2⟩
      · have HN : Hid (flP g m k many = none) := flP_past (flP_none HFl.out.1 hn) (by omega)
        clear hn hk2 K2
        go_wp2
        go_ret2
        exact ⟨HB2.out.alloc (by have := hzr; have := HB2.out.size; omega) _, Or.inl ⟨HN.out, rfl⟩⟩
      · have HF2 : Hid (flP g m k (j + 1) = some (l ++ [⟨al, x, y, k, fun i => xs.getD i 0⟩], a2) ∧ ∀ q, q < j + 1 → (l ++ [⟨al, x, y, k, fun i => xs.getD i 0⟩])[q]? = some (if q = j then ⟨al, x, y, k, fun i => xs.getD i 0⟩ else D q)) := by
          have hl := flP_len HFl.out.1
          refine ⟨flP_some HFl.out.1 hn, fun q hq => ?_⟩
          by_cases c : q = j
          · subst c
            rw [List.getElem?_append_right (by omega)]
            simp [hl]
          · rw [List.getElem?_append_left (by omega), if_neg c]
            exact HFl.out.2 q (by omega)
        have HCj := hide (HCr.out.kept (by omega) hk2)
        have HOB : Hid (∀ q, (Value.slice adl j cpl).ownBlock = some q → q < wr.heap.size) := fun q e => by obtain ⟨S, hS⟩ := HCr.out; exact (hS.own.lt q e).2
        have HDc := hide (HCj.out.congr (D := fun q => if q = j then ⟨al, x, y, k, fun i => xs.getD i 0⟩ else D q) (fun i hi => (if_neg (by omega)).symm))
        have HIv : Hid (IntsIn w2 (.slice ad k cp) k (fun i => xs.getD i 0)) := rowV_in hown hxl.symm
        have HOv : Hid (∀ q, (Value.slice ad k cp).ownBlock = some q → wr.heap.size ≤ q) := fun q e => (hown.lt q e).1
        obtain ⟨w3, hw3⟩ : ∃ w3, w3 = w2.alloc (.cells #[.bool al, .int .i64 x, .int .i64 y, .slice ad k cp] 40) := ⟨_, rfl⟩
        have b23 : Below w2.heap.size w2 w3 := hw3 ▸ (Below.refl _ _).alloc (Nat.le_refl _) _
        have HD3 : Hid (CodIn w3 w2.heap.size al x y (.slice ad k cp)) := hw3 ▸ codIn_new w2 al x y (.slice ad k cp)
        have HC3 := hide (HDc.out.below b23)
        have HI3 := hide (HIv.out.below b23)
        have HR3 := hide (hr2.below b23)
        have HB3 : Hid (Below w.heap.size w w3) := HB2.out.trans (b23.mono HB2.out.size)
        have HW3 := hide hw3
        have hz3 : w2.heap.size ≤ w3.heap.size := b23.size
        clear hn hk2 K2 hown hr2 hw3 b23 HCr HRd HCj HDc HB2 HFl
        go_upto_region 8 with fail
        rw [← HW3.out]
        clear HW3
        obtain ⟨S, hS⟩ := HC3.out
        have HSx := hide hS
        obtain ⟨k0, k1, k2, k3, _, _, _, _⟩ := HD3.out
        clear hS
        go_wp2_with (at_builtin; refine wpList_append_lies _ rfl _ _ 22 rfl w1.heap.size 40 i1 (.agg #[.bool false, .int .i64 0, .int .i64 0, .slice none 0 0]) 4 48 Tryd.underlying22 Hj.out Hy0.out Hy1.out Hy2.out rfl (by decide) _ _ _ rfl (HSx.out.own.alloc _) ⟨w3.heap.size, 0, none⟩ 1 1 [.bool al, .int .i64 x, .int .i64 y, .slice ad k cp] rfl rfl (World.news_of_block (cs := #[.bool al, .int .i64 x, .int .i64 y, .slice ad k cp]) (t := 40) (fr := (0, 0)) (heap_alloc_new w3 _)) (fun x hx => by simp at hx; rcases hx with rfl | rfl | rfl | rfl <;> rfl) (by decide) (by unfold maxLen; omega) (by omega) (by simp; omega) _ rfl ?_; intro g3 cap3 w5 hown3 hgrow3 hat3 hlt3)
        go_roundw
        case rel =>
          have hB5 : Below w1.heap.size w3 w5 := ((Below.refl w1.heap.size w3).alloc (by omega) _).grown hgrow3 (by simp; omega) (fun q hq => (HSx.out.own.lt q hq).1)
          have hCR : CodR w5 w1.heap.size (.slice (some ⟨g3, 0, none⟩) (j + 1) cap3) (j + 1) (fun q => if q = j then ⟨al, x, y, k, fun i => xs.getD i 0⟩ else D q) := by
            refine CodR.snoc (s := .slice ad k cp) HSx.out ?_ hgrow3 hat3 ?_ (fun q e => ?_) (fun q e e2 => ?_)
            · simp only [if_true]; exact hown3
            · simp only [if_true]; exact HI3.out
            · have := HOv.out q e; omega
            · have h1 := HOv.out q e; have h2 := HOB.out q e2; omega
          have hR5 := HR3.out.mono (B := w1.heap.size) (by omega) (by omega) hB5
          have hZ5 : w1.heap.size ≤ w5.heap.size := by have := hB5.size; omega
          have hBB : Below w.heap.size w w5 := HB3.out.trans (hB5.mono (by omega))
          first
            | exact ⟨j + 1, some ⟨g3, 0, none⟩, cap3, a2, v2, _, _, by omega, by go_num, rfl, hCR, hR5, HF2.out, hZ5, hBB⟩
            | ((repeat apply Exists.intro); exact ⟨⟨j + 1, some ⟨g3, 0, none⟩, cap3, a2, v2, _, _, by omega, by go_num, rfl, hCR, hR5, HF2.out, hZ5, hBB⟩, rfl⟩)
        case measure => simp [intOf]; omega
    · obtain rfl : j = many := by omega
      go_wp2
      go_ret2
      exact ⟨HBr.out, Or.inr ⟨l, a, adl, cpl, D, HFl.out.1, HFl.out.2, rfl, HCr.out.cods⟩⟩
end Go.Proofs.YtjhflcgphejddaaDoor

namespace Go.Proofs.YtjhflcgphejddaaDoor
open Go.RowKit
set_option linter.unusedVariables false
set_option maxRecDepth 100000

theorem ext_at (t : ByteArray) (i : Nat) : atB (t.extract 4 t.size) i = atB t (4 + i) := by
  unfold atB
  rw [ByteArray.data_extract]
  simp only [List.getD, Array.getElem?_toList]
  congr 1
  rw [Array.getElem?_extract]
  have e : t.size = t.data.size := rfl
  rw [e, Nat.min_self]
  split
  · rfl
  · rename_i h
    rw [Array.getElem?_eq_none (by omega)]
theorem ext_size (t : ByteArray) (h : 4 ≤ t.size) : (t.extract 4 t.size).size = t.size - 4 := by
  rw [ByteArray.size_extract, Nat.min_self]
theorem ext2_at (t : ByteArray) (c i : Nat) (h : i < c) (hc : c ≤ t.size) : atB (t.extract 0 c) i = atB t i := by
  unfold atB
  rw [ByteArray.data_extract]
  simp only [List.getD, Array.getElem?_toList]
  congr 1
  rw [Array.getElem?_extract]
  have e : t.size = t.data.size := rfl
  rw [if_pos (by rw [← e]; omega)]
  rw [Nat.zero_add]
theorem ext2_size (t : ByteArray) (c : Nat) (hc : c ≤ t.size) : (t.extract 0 c).size = c := by
  rw [ByteArray.size_extract]; omega
theorem ext_bits (t : ByteArray) : bitT (t.extract 4 t.size) = bitB t := by
  funext j
  show bitU (atB (t.extract 4 t.size) (j / 8)).toNat (j % 8) = bitU (atB t (4 + j / 8)).toNat (j % 8)
  rw [ext_at]
/-- Read or not: one shape. -/
theorem rda_shape {t : ByteArray} {k many : Nat} {W : World} {e : Ending} {w' : World} (h : RdaB t k many W e w') : ∃ ad n cp bv D, e = .returned (.tuple #[.slice ad n cp, .bool bv]) ∧ Hid ((bv = false ∧ flP (bitT t) (8 * t.size) k many = none) ∨ (bv = true ∧ n = many ∧ ∃ l a, flP (bitT t) (8 * t.size) k many = some (l, a) ∧ ∀ q, q < many → l[q]? = some (D q))) ∧ Hid (CodsIn w' (.slice ad n cp) n D) ∧ Hid (Below W.heap.size W w') := by
  obtain ⟨hb, h⟩ := h
  rcases h with ⟨h1, rfl⟩ | ⟨l, a, ad, cp, D, h1, h2, rfl, h3⟩
  · exact ⟨none, 0, 0, false, fun _ => ⟨false, 0, 0, 0, fun _ => 0⟩, rfl, Or.inl ⟨rfl, h1⟩, ⟨none, 0, rfl, Nat.le_refl _, by unfold maxLen; omega, fun h => absurd h (Nat.lt_irrefl _)⟩, hb⟩
  · exact ⟨ad, many, cp, true, D, rfl, Or.inr ⟨rfl, rfl, l, a, h1, h2⟩, h3, hb⟩
/-- What bytes are unpacked as. -/
def UBp (t : ByteArray) (w : World) (e : Ending) (w' : World) : Prop :=
  ((120 < t.size ∧ e = .returned (.tuple #[.int .i64 0, .int .i64 0, .int .i64 0, .slice none 0 0, errN 4])) ∨ (t.size ≤ 120 ∧ NoFilm t ∧ e = .returned (.tuple #[.int .i64 0, .int .i64 0, .int .i64 0, .slice none 0 0, errN 2])) ∨ (t.size ≤ 120 ∧ ∃ a b s N C u, bytF a b s N C = 0 ∧ bytS a b s N C = t ∧ e = .returned (.tuple #[.int .i64 a, .int .i64 b, .int .i64 s, u, .nilIface]) ∧ CodsIn w' u N C)) ∧ Below w.heap.size w w'

set_option maxHeartbeats 1000000 in
theorem unpack_any {w : World} (t : ByteArray) : Calls Tryd.prog 10 #[.string t] w (UBp t w) := by
  have e4 : errN 4 = .iface 60 (.int .i64 4) := rfl
  have e2 : errN 2 = .iface 60 (.int .i64 2) := rfl
  by_cases h120 : 120 < t.size
  · have hi : (120 : Int) < (t.size : Int) := by omega
    have HX := hide h120
    clear h120
    go_enter Tryd.func10, Tryd.ntmps10
    go_wp2
    refine bodyPost_ret (v := .tuple #[.int .i64 0, .int .i64 0, .int .i64 0, .slice none 0 0, errN 4]) (by simp [results, Tryd.results10, go_sem, e4]) rfl ⟨Or.inl ⟨HX.out, rfl⟩, Below.refl _ _⟩
  · by_cases h4 : t.size < 4
    · have HN := hide (none_short h4)
      have HL : Hid (t.size ≤ 120) := by unfold Hid; omega
      have hi : ¬ (120 : Int) < (t.size : Int) := by omega
      have hi4 : (t.size : Int) < 4 := by omega
      clear h120 h4
      go_enter Tryd.func10, Tryd.ntmps10
      go_wp2
      refine bodyPost_ret (v := .tuple #[.int .i64 0, .int .i64 0, .int .i64 0, .slice none 0 0, errN 2]) (by simp [results, Tryd.results10, go_sem, e2]) rfl ⟨Or.inr (Or.inl ⟨HL.out, HN.out, rfl⟩), Below.refl _ _⟩
    · have h3 : 3 < t.size := by omega
      have h2' : 2 < t.size := by omega
      have h1' : 1 < t.size := by omega
      have h0' : 0 < t.size := by omega
      have HL : Hid (t.size ≤ 120) := by unfold Hid; omega
      have hi : ¬ (120 : Int) < (t.size : Int) := by omega
      have hi4 : ¬ (t.size : Int) < 4 := by omega
      have l0i : (0 : Int) < (t.size : Int) := by omega
      have l1i : (1 : Int) < (t.size : Int) := by omega
      have l2i : (2 : Int) < (t.size : Int) := by omega
      have l3i : (3 : Int) < (t.size : Int) := by omega
      have l4i : (4 : Int) ≤ (t.size : Int) := by omega
      have l4 : 4 ≤ t.size := by omega
      obtain ⟨n0, hn0⟩ : ∃ n0, n0 = (atB t 0).toNat := ⟨_, rfl⟩
      obtain ⟨n1, hn1⟩ : ∃ n1, n1 = (atB t 1).toNat := ⟨_, rfl⟩
      obtain ⟨n2, hn2⟩ : ∃ n2, n2 = (atB t 2).toNat := ⟨_, rfl⟩
      obtain ⟨n3, hn3⟩ : ∃ n3, n3 = (atB t 3).toNat := ⟨_, rfl⟩
      have r0 : (t[0]'h0').toNat = n0 := by rw [hn0, atB_eq t _ h0']
      have r1 : (t[1]'h1').toNat = n1 := by rw [hn1, atB_eq t _ h1']
      have r2 : (t[2]'h2').toNat = n2 := by rw [hn2, atB_eq t _ h2']
      have r3 : (t[3]'h3).toNat = n3 := by rw [hn3, atB_eq t _ h3]
      have rb0 : n0 < 256 := by rw [hn0]; exact (atB t _).toNat_lt
      have rb1 : n1 < 256 := by rw [hn1]; exact (atB t _).toNat_lt
      have rb2 : n2 < 256 := by rw [hn2]; exact (atB t _).toNat_lt
      have rb3 : n3 < 256 := by rw [hn3]; exact (atB t _).toNat_lt
      have HN0 := hide hn0
      have HN1 := hide hn1
      have HN2 := hide hn2
      have HN3 := hide hn3
      obtain ⟨K, hK⟩ : ∃ K, K = n0 * n1 := ⟨_, rfl⟩
      have hK36 : K ≤ 65025 := by have := Nat.mul_le_mul (show n0 ≤ 255 by omega) (show n1 ≤ 255 by omega); omega
      have hKi : ((n0 : Nat) : Int) * ((n1 : Nat) : Int) = ((K : Nat) : Int) := by rw [hK]; simp
      have HK := hide hK
      clear hn0 hn1 hn2 hn3 hK h120 h4
      go_enter Tryd.func10, Tryd.ntmps10
      go_wp2_with fail
      go_quiet (fail)
      go_upto_region 6 with fail
      have wn3 : IntKind.i64.wrap ((n3 : Nat) : Int) = ((n3 : Nat) : Int) := by rw [IntKind.wrap_i64]; omega
      have wK : IntKind.i64.wrap ((K : Nat) : Int) = ((K : Nat) : Int) := by rw [IntKind.wrap_i64]; omega
      have KR : Hid (∀ W, Calls Tryd.prog 24 #[.string (t.extract 4 t.size), .int .i64 ((n3 : Nat) : Int), .int .i64 ((K : Nat) : Int)] W (RdaB (t.extract 4 t.size) K n3 W)) := fun W => bread_ok _ (by rw [ext_size t l4]; have := HL.out; omega) (by omega) (by omega)
      go_region_held3 (fun w' => True) (first | go_keep | trivial) (first | (go_at_call 24; refine (KR.out _).mono ?_; rintro e w3 hrd; obtain ⟨ad, n, cp, bv, D, rfl, HS, HC, HB⟩ := rda_shape hrd; clear hrd))
      have hbw : Below w.heap.size w w3 := ⟨HB.out.os, HB.out.tape, HB.out.output, HB.out.size, HB.out.block⟩
      have HBw := hide hbw
      have HS2 : Hid ((bv = false ∧ NoFilm t) ∨ (bv = true ∧ (NoFilm t ∨ (bytF ((n0 : Nat) : Int) ((n1 : Nat) : Int) ((n2 : Nat) : Int) n D = 0 ∧ bytS ((n0 : Nat) : Int) ((n1 : Nat) : Int) ((n2 : Nat) : Int) n D = t)))) := by
        have h := HS.out
        rw [ext_bits, ext_size t l4, HK.out, HN0.out, HN1.out, HN3.out] at h
        rcases h with ⟨h1, h2⟩ | ⟨h1, h2, l, a, h3, h4⟩
        · exact Or.inl ⟨h1, none_read h2⟩
        · subst h2
          refine Or.inr ⟨h1, ?_⟩
          rw [HN0.out, HN1.out, HN2.out]
          exact some_read h3 h4
      have KP := hide (pack_any ((n0 : Nat) : Int) ((n1 : Nat) : Int) ((n2 : Nat) : Int) HC.out)
      clear hbw HS HB KR r0 r1 r2 r3 HN0 HN1 HN2 HN3 HK hKi wK wn3
      obtain ⟨F, hF⟩ : ∃ F, F = bytF ((n0 : Nat) : Int) ((n1 : Nat) : Int) ((n2 : Nat) : Int) n D := ⟨_, rfl⟩
      obtain ⟨T, hT⟩ : ∃ T, T = bytS ((n0 : Nat) : Int) ((n1 : Nat) : Int) ((n2 : Nat) : Int) n D := ⟨_, rfl⟩
      rw [← hF, ← hT] at KP HS2
      have HF := hide hF
      have HT := hide hT
      clear hF hT
      go_wp2_with fail
      refine (KP.out).mono ?_
      rintro e w4 ⟨rfl, hb4⟩
      have HB4 := hide (below_two HBw.out hb4)
      have HC4 := hide (HC.out.below hb4)
      have hbad : (bv = false ∨ F ≠ 0 ∨ T ≠ t) → NoFilm t := fun h => by
        rcases HS2.out with ⟨_, h1⟩ | ⟨h1, h2 | h2⟩
        · exact h1
        · exact h2
        · rcases h with h | h | h
          · rw [h1] at h; cases h
          · exact absurd h2.1 h
          · exact absurd h2.2 h
      have HBad := hide hbad
      clear hb4 hbad KP HC HBw
      cases bv with
      | false =>
        have HN := hide (HBad.out (Or.inl rfl))
        clear HS2 HBad
        go_wp2
        refine bodyPost_ret (v := .tuple #[.int .i64 0, .int .i64 0, .int .i64 0, .slice none 0 0, errN 2]) (by simp [results, Tryd.results10, go_sem, e2]) rfl ⟨Or.inr (Or.inl ⟨HL.out, HN.out, rfl⟩), HB4.out⟩
      | true =>
        by_cases hF0 : F = 0
        · subst hF0
          have e0 : errN 0 = .nilIface := rfl
          rw [e0]
          by_cases hTt : T = t
          · subst hTt
            have hq1 : (T.toList == T.toList) = true := beq_self_eq_true _
            have hq2 : (T.toList != T.toList) = false := bne_self_eq_false _
            clear HS2 HBad
            go_wp2
            refine bodyPost_ret (v := .tuple #[.int .i64 ((n0 : Nat) : Int), .int .i64 ((n1 : Nat) : Int), .int .i64 ((n2 : Nat) : Int), .slice ad n cp, .nilIface]) (by simp [results, Tryd.results10, go_sem]) rfl ⟨Or.inr (Or.inr ⟨HL.out, _, _, _, n, D, _, HF.out.symm, HT.out.symm, rfl, HC4.out⟩), HB4.out⟩
          · have HN := hide (HBad.out (Or.inr (Or.inr hTt)))
            have hne : ¬ T.toList = t.toList := fun e => hTt (by rw [ByteArray.toList_eq, ByteArray.toList_eq] at e; exact ByteArray.ext (Array.toList_inj.1 e))
            have hq1 : (T.toList == t.toList) = false := by rw [beq_eq_false_iff_ne]; exact hne
            have hq2 : (T.toList != t.toList) = true := by simp [bne, hq1]
            clear HS2 HBad
            go_wp2
            refine bodyPost_ret (v := .tuple #[.int .i64 0, .int .i64 0, .int .i64 0, .slice none 0 0, errN 2]) (by simp [results, Tryd.results10, go_sem, e2]) rfl ⟨Or.inr (Or.inl ⟨HL.out, HN.out, rfl⟩), HB4.out⟩
        · have HN := hide (HBad.out (Or.inr (Or.inl hF0)))
          rw [errN_pos hF0]
          clear HS2 HBad
          go_wp2
          refine bodyPost_ret (v := .tuple #[.int .i64 0, .int .i64 0, .int .i64 0, .slice none 0 0, errN 2]) (by simp [results, Tryd.results10, go_sem, e2]) rfl ⟨Or.inr (Or.inl ⟨HL.out, HN.out, rfl⟩), HB4.out⟩
end Go.Proofs.YtjhflcgphejddaaDoor
