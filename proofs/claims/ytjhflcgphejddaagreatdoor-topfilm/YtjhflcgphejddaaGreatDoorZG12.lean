/-
  Lemmas for the law above, joined into one text (RcGet, BmT, BmC, BmL, BmX, ByF, AlC). No statement is proved here.
-/
import Derived.Test.YtjhflcgphejddaaGreatDoorZG11
import Derived.Test.YtjhflcgphejddaaGreatDoorZG5
import Derived.Test.YtjhflcgphejddaaGreatDoorZG7
import Derived.Deep.AppendLies
import Derived.Laws.MakeOwn
import Derived.Maps.AppendAt
import Derived.Deep.QuietTactic
import Derived.BigQuiet
import Derived.Deep.DeepCutAuto
import Derived.Deep.CutBlock
import Derived.Test.YtjhflcgphejddaaGreatDoorZG10
import Derived.Test.YtjhflcgphejddaaGreatDoorZG9
import Derived.Test.YtjhflcgphejddaaGreatDoorZG2
import Derived.Deep.RegionHeld3
import Derived.Test.YtjhflcgphejddaaGreatDoorZG8
import Derived.Test.YtjhflcgphejddaaGreatDoorZG3
namespace Go.Proofs.YtjhflcgphejddaaGreatDoor
open Go.RowKit Go.Maps
set_option linter.unusedVariables false
set_option maxRecDepth 100000

/-- What is wrong with what is asked of some bits: ahead of reading them. -/
def getF (a k : Int) (m : Nat) : Nat := if lowOk a = false then 1 else if k < 0 ∨ 2000 < k then 1 else if 2000 < m then 4 else 0

set_option maxHeartbeats 2000000 in
theorem rget_bad {w : World} {v : Value} {m : Nat} {g : Nat → Int} (a k : Int) (h : SlI w v m g) (hx : getF a k m ≠ 0) :
    Calls Tryz.prog 155 #[v, .int .i64 a, .int .i64 k] w fun e w' => e = .returned (.tuple #[.slice none 0 0, errN (getF a k m)]) ∧ w = w' := by
  have K1 := hide (islow_ok a w)
  obtain ⟨ad, cap, rfl, h1, h2, h3⟩ := h
  unfold maxLen at h2
  clear h3
  cases hl : lowOk a with
  | false =>
    have HE : Hid (getF a k m = 1) := by unfold Hid getF; rw [hl, if_pos rfl]
    rw [hl] at K1
    clear hx hl
    go_enter Tryz.func155, Tryz.ntmps155
    go_wp2_with fail
    refine (K1.out).mono ?_
    rintro e w1 ⟨rfl, rfl⟩
    go_wp2
    go_ret2
    exact ⟨by rw [HE.out]; rfl, rfl⟩
  | true =>
    rw [hl] at K1
    by_cases c1 : k < 0
    · have HE : Hid (getF a k m = 1) := by unfold Hid getF; rw [hl, if_neg (by simp), if_pos (Or.inl c1)]
      clear hx hl
      go_enter Tryz.func155, Tryz.ntmps155
      go_wp2_with fail
      refine (K1.out).mono ?_
      rintro e w1 ⟨rfl, rfl⟩
      go_wp2
      go_ret2
      exact ⟨by rw [HE.out]; rfl, rfl⟩
    · by_cases c2 : 2000 < k
      · have HE : Hid (getF a k m = 1) := by unfold Hid getF; rw [hl, if_neg (by simp), if_pos (Or.inr c2)]
        clear hx hl
        go_enter Tryz.func155, Tryz.ntmps155
        go_wp2_with fail
        refine (K1.out).mono ?_
        rintro e w1 ⟨rfl, rfl⟩
        go_wp2
        go_ret2
        exact ⟨by rw [HE.out]; rfl, rfl⟩
      · have c3 : 2000 < m := by
          refine Nat.lt_of_not_le fun c3 => hx ?_
          unfold getF
          rw [hl, if_neg (by simp), if_neg (by omega), if_neg (by omega)]
        have HE : Hid (getF a k m = 4) := by unfold Hid getF; rw [hl, if_neg (by simp), if_neg (by omega), if_pos c3]
        clear hx hl
        go_enter Tryz.func155, Tryz.ntmps155
        go_wp2_with fail
        refine (K1.out).mono ?_
        rintro e w1 ⟨rfl, rfl⟩
        go_wp2
        go_ret2
        exact ⟨by rw [HE.out]; rfl, rfl⟩

set_option maxHeartbeats 2000000 in
theorem rget_bits {w : World} {v : Value} {m many low : Nat} {g : Nat → Int} (h : SlI w v m g) (hm : m ≤ 2000) (hl : low ≤ 7) (hk : many ≤ 2000) (hx : bitsOk g m = false) :
    Calls Tryz.prog 155 #[v, .int .i64 low, .int .i64 many] w fun e w' => e = .returned (.tuple #[.slice none 0 0, errN 1]) ∧ w = w' := by
  have K1 := hide (islow_ok (low : Int) w)
  rw [lowOk_iff.2 (by omega)] at K1
  have K2 := hide (bcont_ok h.ints hm)
  rw [hx] at K2
  obtain ⟨ad, cap, rfl, h1, h2, h3⟩ := h
  clear h3 hx h2
  go_enter Tryz.func155, Tryz.ntmps155
  go_wp2_with fail
  refine (K1.out).mono ?_
  rintro e w1 ⟨rfl, rfl⟩
  go_wp2_with fail
  refine (K2.out).mono ?_
  rintro e w1 ⟨rfl, rfl⟩
  go_wp2
  go_ret2
  exact ⟨rfl, rfl⟩

/-- What is told of bits: none, or these numbers. -/
def Got (B : Nat) (w' : World) (e : Ending) (r : Option (List Int)) (many : Nat) : Prop :=
  (r = none ∧ e = .returned (.tuple #[.slice none 0 0, errN 2])) ∨ ∃ xs ad cp, r = some xs ∧ xs.length = many ∧ e = .returned (.tuple #[.slice ad many cp, .nilIface]) ∧ w'.ownsRow B 3 1 (.slice ad many cp) many (encI xs)

set_option maxHeartbeats 4000000 in
theorem rget_ok {w : World} {v : Value} {m many low : Nat} {g : Nat → Int} (h : SlI w v m g) (hm : m ≤ 2000) (hl : low ≤ 7) (hk : many ≤ 2000) (hx : ∀ i, i < m → g i = 0 ∨ g i = 1) :
    Calls Tryz.prog 155 #[v, .int .i64 low, .int .i64 many] w fun e w' => Got w.heap.size w' e (getN g m low many) many ∧ Below w.heap.size w w' := by
  have K1 := hide (islow_ok (low : Int) w)
  rw [lowOk_iff.2 (by omega)] at K1
  have K2 := hide (bcont_ok h.ints hm)
  rw [bitsOk_iff.2 hx] at K2
  obtain ⟨i0, hi0, hz0, hz1, hz2⟩ := info_parts Tryz.infoInt
  have Hi := hide hi0
  have Hz0 := hide hz0
  have Hz1 := hide hz1
  have Hz2 := hide hz2
  have HX := hide hx
  have HG : Hid (getN g m low many = (stpN g m low many).bind fun p => if p.2 = m then some p.1 else none) := rfl
  have HSl : Hid (SlI w v m (fun i => g (0 + i))) := h.congr fun i _ => by rw [Nat.zero_add]
  obtain ⟨ad, cap, rfl, h1, h2, h3⟩ := h
  clear h3 hx h2 hi0 hz0 hz1 hz2
  go_enter Tryz.func155, Tryz.ntmps155
  go_wp2_with fail
  refine (K1.out).mono ?_
  rintro e w1 ⟨rfl, rfl⟩
  go_wp2_with fail
  refine (K2.out).mono ?_
  rintro e w1 ⟨rfl, rfl⟩
  go_wp2
  go_loopw [0, 8, 32] (fun s u i wr => ∃ (j a : Nat) (xs : List Int) (ads adu : Option Addr) (cps cpu : Nat), j ≤ many ∧ a ≤ m ∧ i = .int .i64 j ∧ s = .slice ads (m - a) cps ∧ u = .slice adu j cpu ∧ Hid (stpN g m low j = some (xs, a)) ∧ Hid (SlI w s (m - a) (fun i => g (a + i))) ∧ Hid (wr.ownsRow w.heap.size 3 1 u j (encI xs)) ∧ Below w.heap.size w wr) (fun _ _ i _ => many - (intOf i).toNat)
  case atStart => exact ⟨0, 0, [], ad, none, cap, 0, Nat.zero_le _, Nat.zero_le _, rfl, rfl, rfl, rfl, HSl.out, World.ownsRow_nil _ _ _ _, Below.refl _ _⟩
  case round =>
    obtain ⟨j, a, xs, ads, adu, cps, cpu, hj, ha, rfl, rfl, rfl, HS, HV, HR, hb⟩ := hrel
    have HB := hide hb
    have hsz := hb.size
    clear hb
    by_cases hlt : j < many
    · have K3 := hide (first_ok (low := low) (HV.out.below HB.out) (by omega) hl (fun i hi => HX.out _ (by omega)))
      have HF := hide (fstN_shift (g := g) (m := m) (low := low) ha)
      go_wp2_with fail
      refine (K3.out).mono ?_
      rintro e w2 (⟨hn, rfl, hb2⟩ | ⟨n, b, sl, hn, hbm, rfl, hsl, hb2⟩)
      · have HN : Hid (getN g m low many = none) := by
          unfold Hid
          rw [HG.out, stpN_past (stpN_none HS.out (by rw [HF.out, hn]; rfl)) (show j + 1 ≤ many by omega)]
          rfl
        have HB2 := hide (HB.out.trans (hb2.mono hsz))
        clear hn hb2 HF K3
        go_wp2
        go_ret2
        exact ⟨Or.inl ⟨HN.out, rfl⟩, HB2.out⟩
      · have HN : Hid (stpN g m low (j + 1) = some (xs ++ [n], a + b)) := stpN_some HS.out (by rw [HF.out, hn]; rfl)
        have HB2 := hide (HB.out.trans (hb2.mono hsz))
        have HR2 := hide (own_under' HR.out hb2)
        have hsz2 := HB2.out.size
        have HV2 : Hid (SlI w sl (m - (a + b)) (fun i => g (a + b + i))) := by
          have := (hsl w _ HV.out).congr (g := fun i => g (a + b + i)) (fun i _ => by rw [Nat.add_assoc])
          rw [Nat.sub_sub] at this
          exact this
        obtain ⟨ads2, cps2, rfl, _, _, _⟩ := HV2.out
        clear hn hb2 HF K3 hsl
        go_wp2_with (at_builtin; refine wpList_append_lies _ rfl _ _ 23 rfl w.heap.size 3 i0 (.int .i64 0) 1 8 Tryz.underlying23 Hi.out Hz0.out Hz1.out Hz2.out rfl (by decide) _ _ _ rfl (HR2.out.alloc _) ⟨w2.heap.size, 0, none⟩ 1 1 [.int .i64 n] rfl rfl (cell_one_new _ _ _) (fun x hx => by simp at hx; subst hx; rfl) (by decide) (by unfold maxLen; omega) (by omega) (by simp; omega) _ rfl ?_; intro g3 cap3 w5 hown3 hgrow3 hat3 hlt3)
        go_roundw
        case rel =>
          have hB5 : Below w.heap.size w2 w5 := ((Below.refl w.heap.size w2).alloc (by omega) _).grown hgrow3 (by simp; omega) (fun q hq => (HR2.out.lt q hq).1)
          have R : j + 1 ≤ many ∧ a + b ≤ m ∧ Value.int .i64 ((j : Int) + 1) = .int .i64 ((j + 1 : Nat) : Int) ∧ Value.slice ads2 (m - (a + b)) cps2 = .slice ads2 (m - (a + b)) cps2 ∧ Value.slice (some ⟨g3, 0, none⟩) (j + 1) cap3 = .slice (some ⟨g3, 0, none⟩) (j + 1) cap3
              ∧ Hid (stpN g m low (j + 1) = some (xs ++ [n], a + b)) ∧ Hid (SlI w (.slice ads2 (m - (a + b)) cps2) (m - (a + b)) (fun i => g (a + b + i))) ∧ Hid (w5.ownsRow w.heap.size 3 1 (.slice (some ⟨g3, 0, none⟩) (j + 1) cap3) (j + 1) (encI (xs ++ [n]))) ∧ Below w.heap.size w w5 :=
            ⟨by omega, by omega, by simp, rfl, rfl, HN, HV2, hide (by rw [encI_snoc]; exact hown3), HB2.out.trans hB5⟩
          first
            | exact ⟨j + 1, a + b, xs ++ [n], ads2, some ⟨g3, 0, none⟩, cps2, cap3, R⟩
            | ((repeat apply Exists.intro); exact ⟨⟨j + 1, a + b, xs ++ [n], ads2, some ⟨g3, 0, none⟩, cps2, cap3, R⟩, rfl⟩)
        case measure => simp [intOf]; omega
    · obtain rfl : j = many := by omega
      by_cases c : a = m
      · have HN : Hid (getN g m low j = some xs) := by
          unfold Hid
          rw [HG.out, HS.out]
          show (if a = m then some xs else none) = some xs
          rw [if_pos c]
        have hxl := (stpN_len HS.out).1
        have HL := hide hxl
        subst c
        clear hxl
        go_wp2
        go_ret2
        exact ⟨Or.inr ⟨xs, adu, cpu, HN.out, HL.out, rfl, HR.out⟩, HB.out⟩
      · have HN : Hid (getN g m low j = none) := by
          unfold Hid
          rw [HG.out, HS.out]
          show (if a = m then some xs else none) = none
          rw [if_neg c]
        have hc : 0 < m - a := by omega
        go_wp2
        go_ret2
        exact ⟨Or.inl ⟨HN.out, rfl⟩, HB.out⟩
end Go.Proofs.YtjhflcgphejddaaGreatDoor

namespace Go.Proofs.YtjhflcgphejddaaGreatDoor
open Go.RowKit
set_option linter.unusedVariables false
set_option maxRecDepth 100000

/-- Rests are read, or there are not as many. -/
def RstB (w : World) (b Q : Nat) (g : Nat → Int) (m a many : Nat) (e : Ending) (w' : World) : Prop :=
  Kept (fun i => i = b) w w' ∧ ((rsP g m a many = none ∧ e = .returned (.tuple #[.slice none 0 0, .bool false])) ∨ ∃ xs a' ad cp v', rsP g m a many = some (xs, a') ∧ xs.length = many ∧ e = .returned (.tuple #[.slice ad many cp, .bool true]) ∧ w'.ownsRow w.heap.size 3 1 (.slice ad many cp) many (encI xs) ∧ RdB w' b Q g m a' v')
theorem idx_shift (h : Nat → Int) (E k : Nat) : idxN (fun i => h (E + i)) k = if ones h E k < k then ((ones h E k : Nat) : Int) else -1 := by
  unfold idxN
  rw [ones_shift, Nat.add_zero]

set_option maxHeartbeats 4000000 in
theorem brests_ok {w : World} {b Q m a many : Nat} {v : Value} {g : Nat → Int} (h : RdB w b Q g m a v) (hm : m ≤ 2000) (hk : many ≤ 1000000) (hg : ∀ i, i < m → g i = 0 ∨ g i = 1) :
    Calls Tryz.prog 130 #[.pointer (some ⟨b, 0, none⟩), .int .i64 many] w (RstB w b Q g m a many) := by
  have HR := hide h
  have hbl := h.bl
  have hle := h.le
  have HLE := hide hle
  have HG := hide (h.bits hg)
  obtain ⟨bb, oo, cap, rfl⟩ := h.fo
  obtain ⟨_, cap', e', h1, h2, _⟩ := h.sl
  obtain ⟨_, rfl⟩ : True ∧ cap' = cap := by cases e'; exact ⟨trivial, rfl⟩
  have c0 := h.c0
  have f0 := h.f0
  have HS := hide h.sl
  have HX : Hid (∀ j, j ≤ many → endP (fun i => g (a + i)) (m - a) j = none → rsP g m a many = none) := fun j hj hn => rsP_endless hle (endP_past hn hj)
  have HY : Hid (∀ E, endP (fun i => g (a + i)) (m - a) many = some E → rsP g m a many = (getN (fun i => g (a + i)) E 2 many).map fun xs => (xs, a + E)) := fun E hE => rsP_get hle hE
  unfold maxLen at h2
  have hM2 : m - a ≤ 2000 := by omega
  generalize hM : m - a = M at *
  have HM := hide hM
  obtain ⟨F, hF⟩ : ∃ F : Nat → Int, F = fun i => g (a + i) := ⟨_, rfl⟩
  rw [← hF] at HS HX HY
  have HFe := hide hF
  have HG2 : Hid (∀ i, i < M → F i = 0 ∨ F i = 1) := fun i hi => by rw [hF]; exact HG.out i hi
  have KI : Hid (∀ E, E ≤ M → ∀ sl, Cut (.slice (some ⟨bb, oo, none⟩) M cap') sl M E → Calls Tryz.prog 146 #[sl, .int .i64 0] w fun e w' => e = .returned (.int .i64 (idxN (fun i => F (E + i)) (M - E))) ∧ w = w') := fun E hE sl hc => nought_ok (hc _ _ HS.out).ints (by omega)
  clear h e' hle hM hF hg
  go_enter Tryz.func130, Tryz.ntmps130
  go_wp2
  go_loop [6, 11] (fun u i => ∃ (j E : Nat), j ≤ many ∧ E ≤ M ∧ i = .int .i64 j ∧ u = .int .i64 E ∧ Hid (endP F M j = some E)) (fun _ i => many - (intOf i).toNat)
  case atStart => exact ⟨0, 0, Nat.zero_le _, Nat.zero_le _, rfl, rfl, rfl⟩
  case round =>
    obtain ⟨j, E, hj, hE, rfl, rfl, HE⟩ := hrel
    by_cases hlt : j < many
    · obtain ⟨q, hq⟩ : ∃ q, q = ones F E (M - E) := ⟨_, rfl⟩
      have hqM : q ≤ M - E := by rw [hq]; exact ones_le _ _ _
      obtain ⟨x, hx⟩ : ∃ x, x = idxN (fun i => F (E + i)) (M - E) := ⟨_, rfl⟩
      have KE := KI.out E hE
      rw [← hx] at KE
      have HKE := hide KE
      have HI : Hid (x = if q < M - E then ((q : Nat) : Int) else -1) := by unfold Hid; rw [hx, idx_shift, ← hq]
      have HQ := hide hq
      clear hq hx KE
      go_upto_region 4 with fail
      go_cut [7] (fun o wx => o = .int .i64 x ∧ w = wx)
      case first =>
        by_cases cE : cap' = E
        · go_wp2_with fail
          refine (HKE.out _ (cut_end (by omega) (by unfold maxLen; omega))).mono ?_
          rintro e w1 ⟨rfl, rfl⟩
          go_wp2
          go_meet
          exact ⟨rfl, rfl⟩
        · go_wp2_with fail
          refine (HKE.out _ cut_mid).mono ?_
          rintro e w1 ⟨rfl, rfl⟩
          go_wp2
          go_meet
          exact ⟨rfl, rfl⟩
      case rest =>
        obtain ⟨rfl, rfl⟩ := hcut
        by_cases c1 : q < M - E
        · obtain rfl : x = ((q : Nat) : Int) := by rw [HI.out, if_pos c1]
          have hq0 : decide (((q : Nat) : Int) < 0) = false := by simp
          by_cases c2 : E + q + 3 ≤ M
          · have HN : Hid (endP F M (j + 1) = some (E + q + 3)) := by
              have := endP_some HE.out (by rw [← HQ.out]; exact c2)
              rw [← HQ.out] at this; exact this
            go_wp2
            go_round
            case rel => exact ⟨j + 1, E + q + 3, by omega, by omega, by go_num, by go_num, HN⟩
            case measure => simp [intOf]; omega
          · have HN := hide (HX.out (j + 1) (by omega) (endP_none HE.out (by rw [← HQ.out]; exact c2)))
            go_wp2
            go_ret2
            exact ⟨Kept.refl _ _, Or.inl ⟨HN.out, rfl⟩⟩
        · obtain rfl : x = -1 := by rw [HI.out, if_neg c1]
          have HN := hide (HX.out (j + 1) (by omega) (endP_none HE.out (by rw [← HQ.out]; omega)))
          go_wp2
          go_ret2
          exact ⟨Kept.refl _ _, Or.inl ⟨HN.out, rfl⟩⟩
    · obtain rfl : j = many := by omega
      have hE3 := endP_le HE.out
      have HY2 := hide (HY.out E HE.out)
      have KG := hide (rget_ok (low := 2) (many := j) (HS.out.take hE) (by omega) (by omega) (by omega) (fun i hi => HG2.out i (by omega)))
      clear HX HY KI
      have e2 : errN 2 = .iface 61 (.int .i64 2) := rfl
      have hKr : Kept (fun i => i = b) w w := Kept.refl _ _
      clear hE3
      go_wp2_with fail
      refine (KG.out).mono ?_
      rintro e w1 ⟨hgot, hb1⟩
      have HR1 := hide (HR.out.below hb1)
      have HK1 := hide (hKr.below hb1)
      have d0 := HR1.out.c0
      have g0 := HR1.out.f0
      rcases hgot with ⟨hn, rfl⟩ | ⟨xs, ad, cp, hn, hxl, rfl, hown⟩
      · have HN : Hid (rsP g m a j = none) := by unfold Hid; rw [HY2.out, hn]; rfl
        clear hn hb1 hKr KG c0 f0
        rw [e2]
        by_cases cE : cap' = E
        · go_wp2
          go_region
          go_wp2
          go_ret2
          exact ⟨(HK1.out.setCell _ _ (Or.inl rfl)).below (Below.refl _ _).drew, Or.inl ⟨HN.out, rfl⟩⟩
        · go_wp2
          go_region
          go_wp2
          go_ret2
          exact ⟨(HK1.out.setCell _ _ (Or.inl rfl)).below (Below.refl _ _).drew, Or.inl ⟨HN.out, rfl⟩⟩
      · have HN : Hid (rsP g m a j = some (xs, a + E)) := by unfold Hid; rw [HY2.out, hn]; rfl
        have HO := hide hown
        have HL := hide hxl
        have hEm : a + E ≤ m := by have := HM.out; have := HLE.out; omega
        have HEm := hide hEm
        clear hn hb1 hKr KG c0 f0 hown hxl hEm
        by_cases cE : cap' = E
        · have hc0 : Cut (.slice (some ⟨bb, oo, none⟩) M cap') (.slice (some ⟨bb, oo, none⟩) (M - E) 0) M E := (cut_end (by omega) (by unfold maxLen; omega))
          have HC := hide (HR1.out.cut (sl := (.slice (some ⟨bb, oo, none⟩) (M - E) 0)) (by rw [HM.out]; exact hc0) HEm.out (fun k e => e) (by rw [HM.out]; exact ⟨_, _, _, rfl⟩))
          clear hc0
          go_wp2
          go_region
          go_wp2
          go_ret2
          exact ⟨(HK1.out.setCell _ _ (Or.inl rfl)).below (Below.refl _ _).drew, Or.inr ⟨xs, a + E, ad, cp, _, HN.out, HL.out, rfl, own_below (own_setK HO.out hbl _ _) (Below.refl _ _).drew, HC.out.below (Below.refl _ _).drew⟩⟩
        · have hc0 : Cut (.slice (some ⟨bb, oo, none⟩) M cap') (.slice (some ⟨bb, oo + E, none⟩) (M - E) (cap' - E)) M E := cut_mid
          have HC := hide (HR1.out.cut (sl := (.slice (some ⟨bb, oo + E, none⟩) (M - E) (cap' - E))) (by rw [HM.out]; exact hc0) HEm.out (fun k e => e) (by rw [HM.out]; exact ⟨_, _, _, rfl⟩))
          clear hc0
          go_wp2
          go_region
          go_wp2
          go_ret2
          exact ⟨(HK1.out.setCell _ _ (Or.inl rfl)).below (Below.refl _ _).drew, Or.inr ⟨xs, a + E, ad, cp, _, HN.out, HL.out, rfl, own_below (own_setK HO.out hbl _ _) (Below.refl _ _).drew, HC.out.below (Below.refl _ _).drew⟩⟩
end Go.Proofs.YtjhflcgphejddaaGreatDoor

namespace Go.Proofs.YtjhflcgphejddaaGreatDoor
open Go.RowKit
set_option linter.unusedVariables false
set_option maxRecDepth 100000

theorem hdP_few0 {g : Nat → Int} {m a : Nat} (h : m < a + 1) : hdP g m a = none := by unfold hdP; rw [if_neg (by omega)]
theorem hdP_al {g : Nat → Int} {m a : Nat} (h : a + 1 ≤ m) (h1 : g a = 1) : hdP g m a = some (true, 0, 0, a + 1) := by unfold hdP; rw [if_pos (by omega), if_pos h1]
theorem hdP_few5 {g : Nat → Int} {m a : Nat} (h1 : g a ≠ 1) (h5 : m < a + 5) : hdP g m a = none := by
  unfold hdP
  by_cases c : a < m
  · rw [if_pos c, if_neg h1, if_neg (by omega)]
  · rw [if_neg c]
theorem val_one (g : Nat → Int) (a : Nat) : valN g a 0 1 = (g a).toNat := by
  rw [valN_succ g a 0 0]; show 2 * 0 + (g (a + 0)).toNat = _; rw [Nat.add_zero]; omega
theorem val_two (g : Nat → Int) (a : Nat) : valN g a 0 2 = 2 * (g a).toNat + (g (a + 1)).toNat := by
  rw [valN_succ g a 0 1, val_one]
theorem hdP_mv {g : Nat → Int} {m a : Nat} (hg : ∀ i, i < m → g i = 0 ∨ g i = 1) (h1 : g a ≠ 1) (h5 : a + 5 ≤ m) : hdP g m a = some (false, ((valN g (a + 1) 0 2 : Nat) : Int) - 1, ((valN g (a + 1 + 2) 0 2 : Nat) : Int) - 1, a + 5) := by
  have b1 := hg (a + 1) (by omega)
  have b2 := hg (a + 2) (by omega)
  have b3 := hg (a + 3) (by omega)
  have b4 := hg (a + 4) (by omega)
  unfold hdP
  rw [if_pos (by omega), if_neg h1, if_pos h5, val_two, val_two]
  rw [show a + 1 + 1 = a + 2 by omega, show a + 1 + 2 = a + 3 by omega, show a + 3 + 1 = a + 4 by omega]
  congr 3
  · omega
  · congr 1; omega
theorem own_baseB {w : World} {B B' e size n : Nat} {v : Value} {xs : List Value} (h : w.ownsRow B e size v n xs) (hB : B' ≤ B) : w.ownsRow B' e size v n xs := by
  refine ⟨h.1, ?_⟩
  rcases h.2 with hn | ⟨g, cap, cur, hv, h1, rest⟩
  · exact .inl hn
  · exact .inr ⟨g, cap, cur, hv, Nat.le_trans hB h1, rest⟩
/-- A coded picture is read, or there is none. -/
def CddB (w : World) (b Q : Nat) (g : Nat → Int) (m k a : Nat) (e : Ending) (w' : World) : Prop :=
  Kept (fun i => i = b) w w' ∧ ((cdP g m k a = none ∧ ∃ al x y ad n cp, e = .returned (.tuple #[.agg #[.bool al, .int .i64 x, .int .i64 y, .slice ad n cp], .bool false])) ∨
    ∃ al x y xs ad cp a' v', cdP g m k a = some (⟨al, x, y, k, fun i => xs.getD i 0⟩, a') ∧ xs.length = k ∧ e = .returned (.tuple #[.agg #[.bool al, .int .i64 x, .int .i64 y, .slice ad k cp], .bool true]) ∧ w'.ownsRow w.heap.size 3 1 (.slice ad k cp) k (encI xs) ∧ RdB w' b Q g m a' v')
theorem put_kept {w w1 : World} {b rb : Nat} (h : Kept (fun i => i = b) w w1) (hr : w.heap.size = rb) (al : Bool) (x y : Int) (s : Value) : Kept (fun i => i = b) w ((((w1.setCell ⟨rb, 0, none⟩ (.bool al)).setCell ⟨rb, 1, none⟩ (.int .i64 x)).setCell ⟨rb, 2, none⟩ (.int .i64 y)).setCell ⟨rb, 3, none⟩ s) := by
  have hr : w.heap.size ≤ rb := by omega
  exact (((h.setCell _ _ (Or.inr hr)).setCell _ _ (Or.inr hr)).setCell _ _ (Or.inr hr)).setCell _ _ (Or.inr hr)

set_option maxHeartbeats 4000000 in
theorem bcoded_ok {w : World} {b Q m a k : Nat} {v : Value} {g : Nat → Int} (h : RdB w b Q g m a v) (hQ : Q ≤ w.heap.size) (hm : m ≤ 2000) (hk : k ≤ 1000000) (hg : ∀ i, i < m → g i = 0 ∨ g i = 1) :
    Calls Tryz.prog 83 #[.pointer (some ⟨b, 0, none⟩), .int .i64 k] w (CddB w b Q g m k a) := by
  have HG := hide hg
  have hbl := h.bl
  obtain ⟨w1, hw1⟩ : ∃ w1, w1 = w.alloc (.cells #[.bool false, .int .i64 0, .int .i64 0, .slice none 0 0] 66) := ⟨_, rfl⟩
  have b01 : Below w.heap.size w w1 := hw1 ▸ (Below.refl _ _).alloc (Nat.le_refl _) _
  have HC1 : Hid (CodIn w1 w.heap.size false 0 0 (.slice none 0 0)) := hw1 ▸ codIn_new w false 0 0 (.slice none 0 0)
  have HR1 := hide (h.below b01)
  have HK1 : Hid (Kept (fun i => i = b) w w1) := (Kept.refl _ w).below b01
  have HW1 := hide hw1
  have K1 := hide (bnum_ok (many := 1) HR1.out hm (by omega) (by omega) hg)
  have hr1 : w.heap.size < w1.heap.size := HC1.out.lt
  clear h hg hw1 b01
  go_enter Tryz.func83, Tryz.ntmps83
  go_upto_region 1 with fail
  rw [← HW1.out]
  clear HW1
  generalize hrb : w.heap.size = rb at *
  have HRB := hide hrb
  clear hrb
  go_wp2_with fail
  refine (K1.out).mono ?_
  rintro e w2 (⟨hn, rfl, rfl⟩ | ⟨hn, v2, rfl, hr2, hk2⟩)
  · have HN := hide (cdP_none1 (k := k) (hdP_few0 (g := g) (a := a) hn))
    have HP := hide (HC1.out.put false 0 0 (.slice none 0 0))
    have HKP := hide (put_kept HK1.out HRB.out false 0 0 (.slice none 0 0))
    obtain ⟨_, _, _, _, f0, f1, f2, f3⟩ := HC1.out
    obtain ⟨q0, q1, q2, q3, _, _, _, _⟩ := HP.out
    clear hn
    go_wp2
    refine bodyPost_ret (v := .tuple #[.agg #[.bool false, .int .i64 0, .int .i64 0, .slice none 0 0], .bool false]) (by simp [results, Tryz.results83, go_sem, q0, q1, q2, q3]) rfl ⟨HKP.out, Or.inl ⟨HN.out, _, _, _, _, _, _, rfl⟩⟩
  · have hv1 := val_one g a
    have hga := HG.out a (by omega)
    obtain ⟨z, hz, hz1⟩ : ∃ z : Nat, valN g a 0 1 = z ∧ (g a = 1 ↔ z = 1) := ⟨_, rfl, by omega⟩
    rw [hz]
    obtain ⟨al, hal⟩ : ∃ al, ((z : Int) == 1) = al := ⟨_, rfl⟩
    have HAL : Hid (al = true ↔ g a = 1) := by
      unfold Hid
      rw [← hal, beq_iff_eq]; omega
    have HC2 := hide (HC1.out.kept (by omega) hk2)
    have HK2 := hide (HK1.out.trans_ hk2)
    obtain ⟨w3, hw3⟩ : ∃ w3, w3 = w2.alloc (.cells #[.bool al, .int .i64 0, .int .i64 0, .slice none 0 0] 66) := ⟨_, rfl⟩
    have b23 : Below w2.heap.size w2 w3 := hw3 ▸ (Below.refl _ _).alloc (Nat.le_refl _) _
    have HD3 : Hid (CodIn w3 w2.heap.size al 0 0 (.slice none 0 0)) := hw3 ▸ codIn_new w2 al 0 0 (.slice none 0 0)
    have HC3 := hide (HC2.out.below b23)
    have HR3 := hide (hr2.below b23)
    have HK3 := hide (HK2.out.below b23)
    have hrc : rb < w2.heap.size := by have := hk2.size; omega
    have HW3 := hide hw3
    have hla := HR3.out.le
    clear hv1 hga hz hz1 hr2 hk2 hw3 b23 HK1 HK2 HC1 HC2 HR1 K1
    go_upto_if 26 with fail
    rw [← HW3.out]
    clear HW3
    generalize hcb : w2.heap.size = cb at *
    have HCB := hide hcb
    clear hcb
    obtain ⟨d0, _, _, _, _, _, _, _⟩ := HD3.out
    go_cut [] (fun wx => ∃ (x y : Int) (a2 : Nat) (v3 : Value), Hid (CodIn wx cb al x y (.slice none 0 0)) ∧ Hid (CodIn wx rb false 0 0 (.slice none 0 0)) ∧ Hid (RdB wx b Q g m a2 v3) ∧ Hid (hdP g m a = some (al, x, y, a2)) ∧ Hid (Kept (fun i => i = b) w wx))
    case first =>
      cases al with
      | true =>
        have HH := hide (hdP_al (g := g) (a := a) hla (HAL.out.1 rfl))
        go_wp2
        go_meet
        exact ⟨0, 0, a + 1, v2, HD3, HC3, HR3, HH, HK3⟩
      | false =>
        have hne : g a ≠ 1 := fun e => by have := HAL.out.2 e; cases this
        have HNE := hide hne
        have K4 := hide (bnum_ok (many := 2) HR3.out hm (by omega) (by omega) HG.out)
        have HPz := hide (HC3.out.put false 0 0 (.slice none 0 0))
        have HKz := hide (put_kept HK3.out HRB.out false 0 0 (.slice none 0 0))
        obtain ⟨_, _, _, _, f0, f1, f2, f3⟩ := HC3.out
        obtain ⟨q0, q1, q2, q3, _, _, _, _⟩ := HPz.out
        clear hne
        go_wp2_with fail
        refine (K4.out).mono ?_
        rintro e w4 (⟨hn4, rfl, rfl⟩ | ⟨hn4, v4, rfl, hr4, hk4⟩)
        · have K5 := K4
          have HN := hide (cdP_none1 (k := k) (hdP_few5 HNE.out (show m < a + 5 by omega)))
          go_wp2_with fail
          refine (K5.out).mono ?_
          rintro e w5 (⟨hn5, rfl, rfl⟩ | ⟨hn5, _⟩)
          · clear hn5
            go_wp2
            refine bodyPost_ret (v := .tuple #[.agg #[.bool false, .int .i64 0, .int .i64 0, .slice none 0 0], .bool false]) (by simp [results, Tryz.results83, go_sem, q0, q1, q2, q3]) rfl ⟨HKz.out, Or.inl ⟨HN.out, _, _, _, _, _, _, rfl⟩⟩
          · omega
        · have K5 := hide (bnum_ok (many := 2) hr4 hm (by omega) (by omega) HG.out)
          have HR4 := hide hr4
          have HC4 := hide (HC3.out.kept (by omega) hk4)
          have HD4 := hide (HD3.out.kept (by omega) hk4)
          have HK4 := hide (HK3.out.trans_ hk4)
          clear hr4 hk4 K4 HPz HKz f0 f1 f2 f3 q0 q1 q2 q3
          generalize hX : valN g (a + 1) 0 2 = X at *
          have HX := hide hX
          go_wp2_with fail
          refine (K5.out).mono ?_
          rintro e w5 (⟨hn5, rfl, rfl⟩ | ⟨hn5, v5, rfl, hr5, hk5⟩)
          · have HN := hide (cdP_none1 (k := k) (hdP_few5 HNE.out (show m < a + 5 by omega)))
            have HPz := hide (HC4.out.put false 0 0 (.slice none 0 0))
            have HKz := hide (put_kept HK4.out HRB.out false 0 0 (.slice none 0 0))
            obtain ⟨_, _, _, _, f0, f1, f2, f3⟩ := HC4.out
            obtain ⟨q0, q1, q2, q3, _, _, _, _⟩ := HPz.out
            clear hn5 hX K5
            go_wp2
            refine bodyPost_ret (v := .tuple #[.agg #[.bool false, .int .i64 0, .int .i64 0, .slice none 0 0], .bool false]) (by simp [results, Tryz.results83, go_sem, q0, q1, q2, q3]) rfl ⟨HKz.out, Or.inl ⟨HN.out, _, _, _, _, _, _, rfl⟩⟩
          · have hb1 := HG.out (a + 1) (by omega)
            have hb2 := HG.out (a + 2) (by omega)
            have hb3 := HG.out (a + 3) (by omega)
            have hb4 := HG.out (a + 4) (by omega)
            have hX3 : X ≤ 3 := by rw [← hX, val_two]; rw [show a + 1 + 1 = a + 2 by omega]; omega
            have hY3 : valN g (a + 1 + 2) 0 2 ≤ 3 := by rw [val_two, show a + 1 + 2 = a + 3 by omega, show a + 3 + 1 = a + 4 by omega]; omega
            have hh := hdP_mv HG.out HNE.out (show a + 5 ≤ m by omega)
            rw [hX] at hh
            generalize valN g (a + 1 + 2) 0 2 = Y at *
            have HH := hide hh
            have HR5 := hide hr5
            have HC5 := hide (HC4.out.kept (by omega) hk5)
            have HD5 := hide (HD4.out.kept (by omega) hk5)
            have HK5 := hide (HK4.out.trans_ hk5)
            have x1 : IntKind.i64.wrap ((X : Int) - 1) = (X : Int) - 1 := by rw [IntKind.wrap_i64]; omega
            have x2 : IntKind.i64.wrap ((Y : Int) - 1) = (Y : Int) - 1 := by rw [IntKind.wrap_i64]; omega
            have hcw : w.heap.size ≤ cb := by have := HRB.out; omega
            have HD6 := hide ((HD5.out.setX ((X : Int) - 1)).setY ((Y : Int) - 1))
            have HC6 := hide ((HC5.out.setOther (b2 := cb) (o := 1) (by omega) (.int .i64 ((X : Int) - 1))).setOther (b2 := cb) (o := 2) (by omega) (.int .i64 ((Y : Int) - 1)))
            have HR6 := hide ((HR5.out.other (b2 := cb) (o := 1) (by omega) (by omega) (.int .i64 ((X : Int) - 1))).other (b2 := cb) (o := 2) (by omega) (by omega) (.int .i64 ((Y : Int) - 1)))
            have HK6 := hide ((HK5.out.setCell ⟨cb, 1, none⟩ (.int .i64 ((X : Int) - 1)) (Or.inr hcw)).setCell ⟨cb, 2, none⟩ (.int .i64 ((Y : Int) - 1)) (Or.inr hcw))
            obtain ⟨_, e1, e2, _, _, g1, g2, _⟩ := HD5.out
            clear hb1 hb2 hb3 hb4 hh hr5 hk5 hX K5
            go_wp2
            go_meet
            exact ⟨_, _, a + 5, v5, HD6, HC6, HR6, HH, HK6⟩
    case rest =>
      obtain ⟨x, y, a2, v3, HDc, HCc, HRc, HH, HKc⟩ := hcut
      have K6 := hide (brests_ok HRc.out hm hk HG.out)
      clear HD3 HC3 HR3 HK3 d0
      go_wp2_with fail
      refine (K6.out).mono ?_
      rintro e w6 ⟨hk6, hcase⟩
      have hcw : w.heap.size ≤ cb := by have := HRB.out; omega
      have hcc : cb < wc.heap.size := HDc.out.lt
      have HD6 := hide (HDc.out.kept (by omega) hk6)
      have HC6 := hide (HCc.out.kept (by omega) hk6)
      have HK6 := hide (HKc.out.trans_ hk6)
      obtain ⟨adv, nv, cv, bv, he, HS⟩ : ∃ adv nv cv bv, e = .returned (.tuple #[.slice adv nv cv, .bool bv]) ∧ Hid ((cdP g m k a = none ∧ bv = false) ∨ ∃ xs a' ad cp v', cdP g m k a = some (⟨al, x, y, k, fun i => xs.getD i 0⟩, a') ∧ xs.length = k ∧ bv = true ∧ Value.slice adv nv cv = .slice ad k cp ∧ w6.ownsRow wc.heap.size 3 1 (.slice ad k cp) k (encI xs) ∧ RdB w6 b Q g m a' v') := by
        rcases hcase with ⟨hn, rfl⟩ | ⟨xs, a', ad, cp, v6, hn, hxl, rfl, hown, hr6⟩
        · exact ⟨_, _, _, false, rfl, Or.inl ⟨cdP_none2 HH.out hn, rfl⟩⟩
        · exact ⟨_, _, _, true, rfl, Or.inr ⟨xs, a', ad, cp, v6, cdP_some HH.out hn, hxl, rfl, rfl, hown, hr6⟩⟩
      subst he
      clear hcase K6 hk6 HDc HCc HRc HH HKc
      obtain ⟨W7, hW7⟩ : ∃ W7, W7 = w6.setCell ⟨cb, 3, none⟩ (.slice adv nv cv) := ⟨_, rfl⟩
      have HD7 : Hid (CodIn W7 cb al x y (.slice adv nv cv)) := hW7 ▸ HD6.out.setRest _
      have HC7 : Hid (CodIn W7 rb false 0 0 (.slice none 0 0)) := hW7 ▸ HC6.out.setOther (by omega) _
      have HK7 : Hid (Kept (fun i => i = b) w W7) := hW7 ▸ HK6.out.setCell _ _ (Or.inr hcw)
      have HP8 := hide (HC7.out.put al x y (.slice adv nv cv))
      have HK8 := hide (put_kept HK7.out HRB.out al x y (.slice adv nv cv))
      have HW7 := hide hW7
      obtain ⟨_, _, _, e3, _, _, _, g3⟩ := HD6.out
      clear hW7
      go_upto_region 12 with fail
      rw [← HW7.out]
      obtain ⟨k0, k1, k2, k3, _, _, _, _⟩ := HD7.out
      obtain ⟨_, _, _, _, f0, f1, f2, f3⟩ := HC7.out
      obtain ⟨q0, q1, q2, q3, _, _, _, _⟩ := HP8.out
      go_wp2
      refine bodyPost_ret (v := .tuple #[.agg #[.bool al, .int .i64 x, .int .i64 y, .slice adv nv cv], .bool bv]) (by simp [results, Tryz.results83, go_sem, q0, q1, q2, q3]) rfl ⟨HK8.out, ?_⟩
      rcases HS.out with ⟨hn, rfl⟩ | ⟨xs, a', ad, cp, v6, hn, hxl, rfl, hsv, hown, hr6⟩
      · exact Or.inl ⟨hn, _, _, _, _, _, _, rfl⟩
      · cases hsv
        refine Or.inr ⟨al, x, y, xs, _, _, a', v6, hn, hxl, rfl, ?_, ?_⟩
        · have h1 : W7.ownsRow wc.heap.size 3 1 (.slice _ k _) k (encI xs) := HW7.out ▸ own_setK hown hcc _ _
          exact own_baseB (own_setK (own_setK (own_setK (own_setK h1 (by omega) _ _) (by omega) _ _) (by omega) _ _) (by omega) _ _) (by omega)
        · have h1 : RdB W7 b Q g m a' v6 := HW7.out ▸ hr6.other (by omega) (by omega) _
          exact (((h1.other (by omega) (by omega) _).other (by omega) (by omega) _).other (by omega) (by omega) _).other (by omega) (by omega) _
end Go.Proofs.YtjhflcgphejddaaGreatDoor

namespace Go.Proofs.YtjhflcgphejddaaGreatDoor
open Go.RowKit
set_option linter.unusedVariables false
set_option maxRecDepth 100000

/-- Some coded pictures are read, or they can't be. -/
def RdaB (t : ByteArray) (k many : Nat) (w : World) (e : Ending) (w' : World) : Prop :=
  Below w.heap.size w w' ∧ ((flP (bitT t) (8 * t.size) k many = none ∧ e = .returned (.tuple #[.slice none 0 0, .bool false])) ∨
    ∃ l a ad cp D, flP (bitT t) (8 * t.size) k many = some (l, a) ∧ (∀ q, q < many → l[q]? = some (D q)) ∧ e = .returned (.tuple #[.slice ad many cp, .bool true]) ∧ CodsIn w' (.slice ad many cp) many D)

set_option maxHeartbeats 4000000 in
theorem bread_ok {w : World} (t : ByteArray) {many k : Nat} (ht : t.size ≤ 200) (hM : many ≤ 1000) (hk : k ≤ 1000000) :
    Calls Tryz.prog 45 #[.string t, .int .i64 many, .int .i64 k] w (RdaB t k many w) := by
  obtain ⟨i1, hi1, hy0, hy1, hy2⟩ := info_parts Tryz.infoCod
  have Hj := hide hi1
  have Hy0 := hide hy0
  have Hy1 := hide hy1
  have Hy2 := hide hy2
  have KA := hide (apart_ok (w := w) t ht)
  obtain ⟨m, hm⟩ : ∃ m, m = 8 * t.size := ⟨_, rfl⟩
  have hm2 : m ≤ 2000 := by omega
  unfold RdaB
  rw [← hm] at KA ⊢
  obtain ⟨g, hg⟩ : ∃ g, g = bitT t := ⟨_, rfl⟩
  have HG : Hid (∀ i, i < m → g i = 0 ∨ g i = 1) := fun i _ => by rw [hg]; exact bitT_in t i
  rw [← hg] at KA ⊢
  clear hi1 hy0 hy1 hy2 hm hg
  go_enter Tryz.func45, Tryz.ntmps45
  go_wp2_with fail
  refine (KA.out).mono ?_
  rintro e wa ⟨ga, ca, rfl, hown, hba⟩
  have HSl : Hid (SlI wa (.slice (some ⟨ga, 0, none⟩) m ca) m (fun i => g (0 + i))) := by
    have h9 := rowV_sl hown (by rw [lst_len])
    exact h9.congr (fun i hi => by rw [Nat.zero_add]; exact lst_get hi)
  have hgl : ga < wa.heap.size := (hown.lt ga rfl).2
  obtain ⟨w1, hw1⟩ : ∃ w1, w1 = wa.alloc (.cells #[.slice (some ⟨ga, 0, none⟩) m ca] 148) := ⟨_, rfl⟩
  have ba1 : Below wa.heap.size wa w1 := hw1 ▸ (Below.refl _ _).alloc (Nat.le_refl _) _
  have HR1 : Hid (RdB w1 wa.heap.size wa.heap.size g m 0 (.slice (some ⟨ga, 0, none⟩) m ca)) := by
    refine ⟨?_, ?_, HSl.out.below ba1, fun k e => ?_, fun k e => ?_, Nat.zero_le _, ⟨_, _, _, rfl⟩⟩
    · rw [hw1]; simp
    · rw [hw1]; simp only [World.frozen?, (MapKept.heap_alloc wa _).1]; simp
    · have : k = ga := by cases e; rfl
      omega
    · have : k = ga := by cases e; rfl
      omega
  have HB1 : Hid (Below w.heap.size w w1) := hba.trans (ba1.mono hba.size)
  have hwa : w.heap.size ≤ wa.heap.size := hba.size
  have hs1 : wa.heap.size < w1.heap.size := HR1.out.bl
  have HW1 := hide hw1
  clear hown hw1 ba1 KA hba
  go_upto_region 2 with fail
  rw [← HW1.out]
  clear HW1 HSl
  generalize hrb : wa.heap.size = rb at *
  clear hrb
  have HC0 : Hid (CodR w1 w1.heap.size (.slice none 0 0) 0 (fun _ => ⟨false, 0, 0, 0, fun _ => 0⟩)) := ⟨fun _ => .slice none 0 0, rowS_nil _ _ _ _ _ _ _ _⟩
  go_wp2
  go_loopw [9, 17] (fun u i wx => ∃ (j : Nat) (adl : Option Addr) (cpl a : Nat) (v : Value) (l : List Cd) (D : Nat → Cd), j ≤ many ∧ i = .int .i64 ((j : Nat) : Int) ∧ u = .slice adl j cpl ∧ Hid (CodR wx w1.heap.size u j D) ∧ Hid (RdB wx rb rb g m a v) ∧ Hid (flP g m k j = some (l, a) ∧ ∀ q, q < j → l[q]? = some (D q)) ∧ Hid (w1.heap.size ≤ wx.heap.size) ∧ Hid (Below w.heap.size w wx)) (fun _ i _ => many - (intOf i).toNat)
  case atStart => exact ⟨0, none, 0, 0, _, [], _, Nat.zero_le _, rfl, rfl, HC0, HR1, ⟨rfl, fun q hq => absurd hq (Nat.not_lt_zero _)⟩, Nat.le_refl _, HB1⟩
  case round =>
    obtain ⟨j, adl, cpl, a, v, l, D, hj, rfl, rfl, HCr, HRd, HFl, HZr, HBr⟩ := hrel
    clear HC0 HR1 HB1
    by_cases hlt : j < many
    · have hzr := HZr.out
      have K2 := hide (bcoded_ok (k := k) HRd.out (by omega) hm2 hk HG.out)
      go_wp2_with fail
      refine (K2.out).mono ?_
      rintro e w2 ⟨hk2, hcase⟩
      have HB2 : Hid (Below w.heap.size w w2) := HBr.out.trans (hk2.to_below (Nat.le_trans HBr.out.size (Nat.le_refl _)) (fun i hi => by omega))
      have hz2 := hk2.size
      rcases hcase with ⟨hn, al, x, y, ads, ns, cps, rfl⟩ | ⟨al, x, y, xs, ad, cp, a2, v2, hn, hxl, rfl, hown, hr2⟩
      · have HN : Hid (flP g m k many = none) := flP_past (flP_none HFl.out.1 hn) (by omega)
        clear hn hk2 K2
        go_wp2
        go_ret2
        exact ⟨HB2.out.alloc (by have := hzr; have := HB2.out.size; omega) _, Or.inl ⟨HN.out, rfl⟩⟩
      · have HF2 : Hid (flP g m k (j + 1) = some (l ++ [⟨al, x, y, k, fun i => xs.getD i 0⟩], a2) ∧ ∀ q, q < j + 1 → (l ++ [⟨al, x, y, k, fun i => xs.getD i 0⟩])[q]? = some (if q = j then ⟨al, x, y, k, fun i => xs.getD i 0⟩ else D q)) := by
          have hl := flP_len HFl.out.1
          refine ⟨flP_some HFl.out.1 hn, fun q hq => ?_⟩
          by_cases c : q = j
          · subst c
            rw [List.getElem?_append_right (by omega)]
            simp [hl]
          · rw [List.getElem?_append_left (by omega), if_neg c]
            exact HFl.out.2 q (by omega)
        have HCj := hide (HCr.out.kept (by omega) hk2)
        have HOB : Hid (∀ q, (Value.slice adl j cpl).ownBlock = some q → q < wr.heap.size) := fun q e => by obtain ⟨S, hS⟩ := HCr.out; exact (hS.own.lt q e).2
        have HDc := hide (HCj.out.congr (D := fun q => if q = j then ⟨al, x, y, k, fun i => xs.getD i 0⟩ else D q) (fun i hi => (if_neg (by omega)).symm))
        have HIv : Hid (IntsIn w2 (.slice ad k cp) k (fun i => xs.getD i 0)) := rowV_in hown hxl.symm
        have HOv : Hid (∀ q, (Value.slice ad k cp).ownBlock = some q → wr.heap.size ≤ q) := fun q e => (hown.lt q e).1
        obtain ⟨w3, hw3⟩ : ∃ w3, w3 = w2.alloc (.cells #[.bool al, .int .i64 x, .int .i64 y, .slice ad k cp] 66) := ⟨_, rfl⟩
        have b23 : Below w2.heap.size w2 w3 := hw3 ▸ (Below.refl _ _).alloc (Nat.le_refl _) _
        have HD3 : Hid (CodIn w3 w2.heap.size al x y (.slice ad k cp)) := hw3 ▸ codIn_new w2 al x y (.slice ad k cp)
        have HC3 := hide (HDc.out.below b23)
        have HI3 := hide (HIv.out.below b23)
        have HR3 := hide (hr2.below b23)
        have HB3 : Hid (Below w.heap.size w w3) := HB2.out.trans (b23.mono HB2.out.size)
        have HW3 := hide hw3
        have hz3 : w2.heap.size ≤ w3.heap.size := b23.size
        clear hn hk2 K2 hown hr2 hw3 b23 HCr HRd HCj HDc HB2 HFl
        go_upto_region 8 with fail
        rw [← HW3.out]
        clear HW3
        obtain ⟨S, hS⟩ := HC3.out
        have HSx := hide hS
        obtain ⟨k0, k1, k2, k3, _, _, _, _⟩ := HD3.out
        clear hS
        go_wp2_with (at_builtin; refine wpList_append_lies _ rfl _ _ 25 rfl w1.heap.size 66 i1 (.agg #[.bool false, .int .i64 0, .int .i64 0, .slice none 0 0]) 4 48 Tryz.underlying25 Hj.out Hy0.out Hy1.out Hy2.out rfl (by decide) _ _ _ rfl (HSx.out.own.alloc _) ⟨w3.heap.size, 0, none⟩ 1 1 [.bool al, .int .i64 x, .int .i64 y, .slice ad k cp] rfl rfl (World.news_of_block (cs := #[.bool al, .int .i64 x, .int .i64 y, .slice ad k cp]) (t := 66) (fr := (0, 0)) (heap_alloc_new w3 _)) (fun x hx => by simp at hx; rcases hx with rfl | rfl | rfl | rfl <;> rfl) (by decide) (by unfold maxLen; omega) (by omega) (by simp; omega) _ rfl ?_; intro g3 cap3 w5 hown3 hgrow3 hat3 hlt3)
        go_roundw
        case rel =>
          have hB5 : Below w1.heap.size w3 w5 := ((Below.refl w1.heap.size w3).alloc (by omega) _).grown hgrow3 (by simp; omega) (fun q hq => (HSx.out.own.lt q hq).1)
          have hCR : CodR w5 w1.heap.size (.slice (some ⟨g3, 0, none⟩) (j + 1) cap3) (j + 1) (fun q => if q = j then ⟨al, x, y, k, fun i => xs.getD i 0⟩ else D q) := by
            refine CodR.snoc (s := .slice ad k cp) HSx.out ?_ hgrow3 hat3 ?_ (fun q e => ?_) (fun q e e2 => ?_)
            · simp only [if_true]; exact hown3
            · simp only [if_true]; exact HI3.out
            · have := HOv.out q e; omega
            · have h1 := HOv.out q e; have h2 := HOB.out q e2; omega
          have hR5 := HR3.out.mono (B := w1.heap.size) (by omega) (by omega) hB5
          have hZ5 : w1.heap.size ≤ w5.heap.size := by have := hB5.size; omega
          have hBB : Below w.heap.size w w5 := HB3.out.trans (hB5.mono (by omega))
          first
            | exact ⟨j + 1, some ⟨g3, 0, none⟩, cap3, a2, v2, _, _, by omega, by go_num, rfl, hCR, hR5, HF2.out, hZ5, hBB⟩
            | ((repeat apply Exists.intro); exact ⟨⟨j + 1, some ⟨g3, 0, none⟩, cap3, a2, v2, _, _, by omega, by go_num, rfl, hCR, hR5, HF2.out, hZ5, hBB⟩, rfl⟩)
        case measure => simp [intOf]; omega
    · obtain rfl : j = many := by omega
      go_wp2
      go_ret2
      exact ⟨HBr.out, Or.inr ⟨l, a, adl, cpl, D, HFl.out.1, HFl.out.2, rfl, HCr.out.cods⟩⟩
end Go.Proofs.YtjhflcgphejddaaGreatDoor

namespace Go.Proofs.YtjhflcgphejddaaGreatDoor
open Go.RowKit
set_option linter.unusedVariables false
set_option maxRecDepth 100000

theorem ext_at (t : ByteArray) (i : Nat) : atB (t.extract 4 t.size) i = atB t (4 + i) := by
  unfold atB
  rw [ByteArray.data_extract]
  simp only [List.getD, Array.getElem?_toList]
  congr 1
  rw [Array.getElem?_extract]
  have e : t.size = t.data.size := rfl
  rw [e, Nat.min_self]
  split
  · rfl
  · rename_i h
    rw [Array.getElem?_eq_none (by omega)]
theorem ext_size (t : ByteArray) (h : 4 ≤ t.size) : (t.extract 4 t.size).size = t.size - 4 := by
  rw [ByteArray.size_extract, Nat.min_self]
theorem ext2_at (t : ByteArray) (c i : Nat) (h : i < c) (hc : c ≤ t.size) : atB (t.extract 0 c) i = atB t i := by
  unfold atB
  rw [ByteArray.data_extract]
  simp only [List.getD, Array.getElem?_toList]
  congr 1
  rw [Array.getElem?_extract]
  have e : t.size = t.data.size := rfl
  rw [if_pos (by rw [← e]; omega)]
  rw [Nat.zero_add]
theorem ext2_size (t : ByteArray) (c : Nat) (hc : c ≤ t.size) : (t.extract 0 c).size = c := by
  rw [ByteArray.size_extract]; omega
theorem ext_bits (t : ByteArray) : bitT (t.extract 4 t.size) = bitB t := by
  funext j
  show bitU (atB (t.extract 4 t.size) (j / 8)).toNat (j % 8) = bitU (atB t (4 + j / 8)).toNat (j % 8)
  rw [ext_at]
/-- Read or not: one shape. -/
theorem rda_shape {t : ByteArray} {k many : Nat} {W : World} {e : Ending} {w' : World} (h : RdaB t k many W e w') : ∃ ad n cp bv D, e = .returned (.tuple #[.slice ad n cp, .bool bv]) ∧ Hid ((bv = false ∧ flP (bitT t) (8 * t.size) k many = none) ∨ (bv = true ∧ n = many ∧ ∃ l a, flP (bitT t) (8 * t.size) k many = some (l, a) ∧ ∀ q, q < many → l[q]? = some (D q))) ∧ Hid (CodsIn w' (.slice ad n cp) n D) ∧ Hid (Below W.heap.size W w') := by
  obtain ⟨hb, h⟩ := h
  rcases h with ⟨h1, rfl⟩ | ⟨l, a, ad, cp, D, h1, h2, rfl, h3⟩
  · exact ⟨none, 0, 0, false, fun _ => ⟨false, 0, 0, 0, fun _ => 0⟩, rfl, Or.inl ⟨rfl, h1⟩, ⟨none, 0, rfl, Nat.le_refl _, by unfold maxLen; omega, fun h => absurd h (Nat.lt_irrefl _)⟩, hb⟩
  · exact ⟨ad, many, cp, true, D, rfl, Or.inr ⟨rfl, rfl, l, a, h1, h2⟩, h3, hb⟩
/-- What bytes are unpacked as. -/
def UBp (t : ByteArray) (w : World) (e : Ending) (w' : World) : Prop :=
  ((120 < t.size ∧ e = .returned (.tuple #[.int .i64 0, .int .i64 0, .int .i64 0, .slice none 0 0, errN 4])) ∨ (t.size ≤ 120 ∧ NoFilm t ∧ e = .returned (.tuple #[.int .i64 0, .int .i64 0, .int .i64 0, .slice none 0 0, errN 2])) ∨ (t.size ≤ 120 ∧ ∃ a b s N C u, bytF a b s N C = 0 ∧ bytS a b s N C = t ∧ e = .returned (.tuple #[.int .i64 a, .int .i64 b, .int .i64 s, u, .nilIface]) ∧ CodsIn w' u N C)) ∧ Below w.heap.size w w'

set_option maxHeartbeats 1000000 in
theorem unpack_any {w : World} (t : ByteArray) : Calls Tryz.prog 15 #[.string t] w (UBp t w) := by
  have e4 : errN 4 = .iface 61 (.int .i64 4) := rfl
  have e2 : errN 2 = .iface 61 (.int .i64 2) := rfl
  by_cases h120 : 120 < t.size
  · have hi : (120 : Int) < (t.size : Int) := by omega
    have HX := hide h120
    clear h120
    go_enter Tryz.func15, Tryz.ntmps15
    go_wp2
    refine bodyPost_ret (v := .tuple #[.int .i64 0, .int .i64 0, .int .i64 0, .slice none 0 0, errN 4]) (by simp [results, Tryz.results15, go_sem, e4]) rfl ⟨Or.inl ⟨HX.out, rfl⟩, Below.refl _ _⟩
  · by_cases h4 : t.size < 4
    · have HN := hide (none_short h4)
      have HL : Hid (t.size ≤ 120) := by unfold Hid; omega
      have hi : ¬ (120 : Int) < (t.size : Int) := by omega
      have hi4 : (t.size : Int) < 4 := by omega
      clear h120 h4
      go_enter Tryz.func15, Tryz.ntmps15
      go_wp2
      refine bodyPost_ret (v := .tuple #[.int .i64 0, .int .i64 0, .int .i64 0, .slice none 0 0, errN 2]) (by simp [results, Tryz.results15, go_sem, e2]) rfl ⟨Or.inr (Or.inl ⟨HL.out, HN.out, rfl⟩), Below.refl _ _⟩
    · have h3 : 3 < t.size := by omega
      have h2' : 2 < t.size := by omega
      have h1' : 1 < t.size := by omega
      have h0' : 0 < t.size := by omega
      have HL : Hid (t.size ≤ 120) := by unfold Hid; omega
      have hi : ¬ (120 : Int) < (t.size : Int) := by omega
      have hi4 : ¬ (t.size : Int) < 4 := by omega
      have l0i : (0 : Int) < (t.size : Int) := by omega
      have l1i : (1 : Int) < (t.size : Int) := by omega
      have l2i : (2 : Int) < (t.size : Int) := by omega
      have l3i : (3 : Int) < (t.size : Int) := by omega
      have l4i : (4 : Int) ≤ (t.size : Int) := by omega
      have l4 : 4 ≤ t.size := by omega
      obtain ⟨n0, hn0⟩ : ∃ n0, n0 = (atB t 0).toNat := ⟨_, rfl⟩
      obtain ⟨n1, hn1⟩ : ∃ n1, n1 = (atB t 1).toNat := ⟨_, rfl⟩
      obtain ⟨n2, hn2⟩ : ∃ n2, n2 = (atB t 2).toNat := ⟨_, rfl⟩
      obtain ⟨n3, hn3⟩ : ∃ n3, n3 = (atB t 3).toNat := ⟨_, rfl⟩
      have r0 : (t[0]'h0').toNat = n0 := by rw [hn0, atB_eq t _ h0']
      have r1 : (t[1]'h1').toNat = n1 := by rw [hn1, atB_eq t _ h1']
      have r2 : (t[2]'h2').toNat = n2 := by rw [hn2, atB_eq t _ h2']
      have r3 : (t[3]'h3).toNat = n3 := by rw [hn3, atB_eq t _ h3]
      have rb0 : n0 < 256 := by rw [hn0]; exact (atB t _).toNat_lt
      have rb1 : n1 < 256 := by rw [hn1]; exact (atB t _).toNat_lt
      have rb2 : n2 < 256 := by rw [hn2]; exact (atB t _).toNat_lt
      have rb3 : n3 < 256 := by rw [hn3]; exact (atB t _).toNat_lt
      have HN0 := hide hn0
      have HN1 := hide hn1
      have HN2 := hide hn2
      have HN3 := hide hn3
      obtain ⟨K, hK⟩ : ∃ K, K = n0 * n1 := ⟨_, rfl⟩
      have hK36 : K ≤ 65025 := by have := Nat.mul_le_mul (show n0 ≤ 255 by omega) (show n1 ≤ 255 by omega); omega
      have hKi : ((n0 : Nat) : Int) * ((n1 : Nat) : Int) = ((K : Nat) : Int) := by rw [hK]; simp
      have HK := hide hK
      clear hn0 hn1 hn2 hn3 hK h120 h4
      go_enter Tryz.func15, Tryz.ntmps15
      go_wp2_with fail
      go_quiet (fail)
      go_upto_region 6 with fail
      have wn3 : IntKind.i64.wrap ((n3 : Nat) : Int) = ((n3 : Nat) : Int) := by rw [IntKind.wrap_i64]; omega
      have wK : IntKind.i64.wrap ((K : Nat) : Int) = ((K : Nat) : Int) := by rw [IntKind.wrap_i64]; omega
      have KR : Hid (∀ W, Calls Tryz.prog 45 #[.string (t.extract 4 t.size), .int .i64 ((n3 : Nat) : Int), .int .i64 ((K : Nat) : Int)] W (RdaB (t.extract 4 t.size) K n3 W)) := fun W => bread_ok _ (by rw [ext_size t l4]; have := HL.out; omega) (by omega) (by omega)
      go_region_held3 (fun w' => True) (first | go_keep | trivial) (first | (go_at_call 45; refine (KR.out _).mono ?_; rintro e w3 hrd; obtain ⟨ad, n, cp, bv, D, rfl, HS, HC, HB⟩ := rda_shape hrd; clear hrd))
      have hbw : Below w.heap.size w w3 := ⟨HB.out.os, HB.out.tape, HB.out.output, HB.out.size, HB.out.block⟩
      have HBw := hide hbw
      have HS2 : Hid ((bv = false ∧ NoFilm t) ∨ (bv = true ∧ (NoFilm t ∨ (bytF ((n0 : Nat) : Int) ((n1 : Nat) : Int) ((n2 : Nat) : Int) n D = 0 ∧ bytS ((n0 : Nat) : Int) ((n1 : Nat) : Int) ((n2 : Nat) : Int) n D = t)))) := by
        have h := HS.out
        rw [ext_bits, ext_size t l4, HK.out, HN0.out, HN1.out, HN3.out] at h
        rcases h with ⟨h1, h2⟩ | ⟨h1, h2, l, a, h3, h4⟩
        · exact Or.inl ⟨h1, none_read h2⟩
        · subst h2
          refine Or.inr ⟨h1, ?_⟩
          rw [HN0.out, HN1.out, HN2.out]
          exact some_read h3 h4
      have KP := hide (pack_any ((n0 : Nat) : Int) ((n1 : Nat) : Int) ((n2 : Nat) : Int) HC.out)
      clear hbw HS HB KR r0 r1 r2 r3 HN0 HN1 HN2 HN3 HK hKi wK wn3
      obtain ⟨F, hF⟩ : ∃ F, F = bytF ((n0 : Nat) : Int) ((n1 : Nat) : Int) ((n2 : Nat) : Int) n D := ⟨_, rfl⟩
      obtain ⟨T, hT⟩ : ∃ T, T = bytS ((n0 : Nat) : Int) ((n1 : Nat) : Int) ((n2 : Nat) : Int) n D := ⟨_, rfl⟩
      rw [← hF, ← hT] at KP HS2
      have HF := hide hF
      have HT := hide hT
      clear hF hT
      go_wp2_with fail
      refine (KP.out).mono ?_
      rintro e w4 ⟨rfl, hb4⟩
      have HB4 := hide (below_two HBw.out hb4)
      have HC4 := hide (HC.out.below hb4)
      have hbad : (bv = false ∨ F ≠ 0 ∨ T ≠ t) → NoFilm t := fun h => by
        rcases HS2.out with ⟨_, h1⟩ | ⟨h1, h2 | h2⟩
        · exact h1
        · exact h2
        · rcases h with h | h | h
          · rw [h1] at h; cases h
          · exact absurd h2.1 h
          · exact absurd h2.2 h
      have HBad := hide hbad
      clear hb4 hbad KP HC HBw
      cases bv with
      | false =>
        have HN := hide (HBad.out (Or.inl rfl))
        clear HS2 HBad
        go_wp2
        refine bodyPost_ret (v := .tuple #[.int .i64 0, .int .i64 0, .int .i64 0, .slice none 0 0, errN 2]) (by simp [results, Tryz.results15, go_sem, e2]) rfl ⟨Or.inr (Or.inl ⟨HL.out, HN.out, rfl⟩), HB4.out⟩
      | true =>
        by_cases hF0 : F = 0
        · subst hF0
          have e0 : errN 0 = .nilIface := rfl
          rw [e0]
          by_cases hTt : T = t
          · subst hTt
            have hq1 : (T.toList == T.toList) = true := beq_self_eq_true _
            have hq2 : (T.toList != T.toList) = false := bne_self_eq_false _
            clear HS2 HBad
            go_wp2
            refine bodyPost_ret (v := .tuple #[.int .i64 ((n0 : Nat) : Int), .int .i64 ((n1 : Nat) : Int), .int .i64 ((n2 : Nat) : Int), .slice ad n cp, .nilIface]) (by simp [results, Tryz.results15, go_sem]) rfl ⟨Or.inr (Or.inr ⟨HL.out, _, _, _, n, D, _, HF.out.symm, HT.out.symm, rfl, HC4.out⟩), HB4.out⟩
          · have HN := hide (HBad.out (Or.inr (Or.inr hTt)))
            have hne : ¬ T.toList = t.toList := fun e => hTt (by rw [ByteArray.toList_eq, ByteArray.toList_eq] at e; exact ByteArray.ext (Array.toList_inj.1 e))
            have hq1 : (T.toList == t.toList) = false := by rw [beq_eq_false_iff_ne]; exact hne
            have hq2 : (T.toList != t.toList) = true := by simp [bne, hq1]
            clear HS2 HBad
            go_wp2
            refine bodyPost_ret (v := .tuple #[.int .i64 0, .int .i64 0, .int .i64 0, .slice none 0 0, errN 2]) (by simp [results, Tryz.results15, go_sem, e2]) rfl ⟨Or.inr (Or.inl ⟨HL.out, HN.out, rfl⟩), HB4.out⟩
        · have HN := hide (HBad.out (Or.inr (Or.inl hF0)))
          rw [errN_pos hF0]
          clear HS2 HBad
          go_wp2
          refine bodyPost_ret (v := .tuple #[.int .i64 0, .int .i64 0, .int .i64 0, .slice none 0 0, errN 2]) (by simp [results, Tryz.results15, go_sem, e2]) rfl ⟨Or.inr (Or.inl ⟨HL.out, HN.out, rfl⟩), HB4.out⟩
end Go.Proofs.YtjhflcgphejddaaGreatDoor

namespace Go.Proofs.YtjhflcgphejddaaGreatDoor
open Go.RowKit
set_option linter.unusedVariables false
set_option maxRecDepth 100000

/-- What bytes are read as: too many, none, or this film. -/
def Fate (t : ByteArray) (x : Nat) (a b s : Int) (N : Nat) (C : Nat → Cd) : Prop :=
  (x = 4 ∧ 120 < t.size ∧ a = 0 ∧ b = 0 ∧ s = 0 ∧ N = 0) ∨ (x = 2 ∧ t.size ≤ 120 ∧ NoFilm t ∧ a = 0 ∧ b = 0 ∧ s = 0 ∧ N = 0) ∨ (x = 0 ∧ t.size ≤ 120 ∧ bytF a b s N C = 0 ∧ bytS a b s N C = t)
theorem cods_none (w : World) (C : Nat → Cd) : CodsIn w (.slice none 0 0) 0 C := ⟨none, 0, rfl, Nat.le_refl _, by unfold maxLen; omega, fun h => absurd h (Nat.lt_irrefl _)⟩
theorem ub_fate {t : ByteArray} {w w' : World} {e : Ending} (h : UBp t w e w') : ∃ (a b s : Int) (u : Value) (x N : Nat) (C : Nat → Cd), e = .returned (.tuple #[.int .i64 a, .int .i64 b, .int .i64 s, u, errN x]) ∧ Hid (CodsIn w' u N C) ∧ Hid (Fate t x a b s N C) ∧ Hid (Below w.heap.size w w') := by
  obtain ⟨h, hb⟩ := h
  rcases h with ⟨h1, rfl⟩ | ⟨h1, h2, rfl⟩ | ⟨h1, a, b, s, N, C, u, h2, h3, rfl, h4⟩
  · exact ⟨0, 0, 0, _, 4, 0, fun _ => ⟨false, 0, 0, 0, fun _ => 0⟩, rfl, cods_none _ _, Or.inl ⟨rfl, h1, rfl, rfl, rfl, rfl⟩, hb⟩
  · exact ⟨0, 0, 0, _, 2, 0, fun _ => ⟨false, 0, 0, 0, fun _ => 0⟩, rfl, cods_none _ _, Or.inr (Or.inl ⟨rfl, h1, h2, rfl, rfl, rfl, rfl⟩), hb⟩
  · exact ⟨a, b, s, u, 0, N, C, rfl, h4, Or.inr (Or.inr ⟨rfl, h1, h2, h3⟩), hb⟩
/-- The fate is one. -/
theorem fate_one {t : ByteArray} {x x' : Nat} {a b s a' b' s' : Int} {N N' : Nat} {C C' : Nat → Cd} (h : Fate t x a b s N C) (h' : Fate t x' a' b' s' N' C') : x = x' ∧ a = a' ∧ b = b' ∧ s = s' ∧ N = N' ∧ N ≤ 6 ∧ (∀ i, i < N → (C i).n ≤ 36) ∧ ∀ i, i < N → (C i).al = (C' i).al ∧ (C i).x = (C' i).x ∧ (C i).y = (C' i).y ∧ (C i).n = (C' i).n ∧ ∀ k, k < (C i).n → (C i).f k = (C' i).f k := by
  rcases h with ⟨rfl, q1, rfl, rfl, rfl, rfl⟩ | ⟨rfl, q1, q2, rfl, rfl, rfl, rfl⟩ | ⟨rfl, q1, q2, q3⟩
  · rcases h' with ⟨rfl, r1, rfl, rfl, rfl, rfl⟩ | ⟨rfl, r1, r2, rfl, rfl, rfl, rfl⟩ | ⟨rfl, r1, r2, r3⟩
    · exact ⟨rfl, rfl, rfl, rfl, rfl, by omega, fun i hi => absurd hi (Nat.not_lt_zero _), fun i hi => absurd hi (Nat.not_lt_zero _)⟩
    · omega
    · omega
  · rcases h' with ⟨rfl, r1, rfl, rfl, rfl, rfl⟩ | ⟨rfl, r1, r2, rfl, rfl, rfl, rfl⟩ | ⟨rfl, r1, r2, r3⟩
    · omega
    · exact ⟨rfl, rfl, rfl, rfl, rfl, by omega, fun i hi => absurd hi (Nat.not_lt_zero _), fun i hi => absurd hi (Nat.not_lt_zero _)⟩
    · exact absurd r3 (q2 _ _ _ _ _ r2)
  · rcases h' with ⟨rfl, r1, rfl, rfl, rfl, rfl⟩ | ⟨rfl, r1, r2, rfl, rfl, rfl, rfl⟩ | ⟨rfl, r1, r2, r3⟩
    · omega
    · exact absurd q3 (r2 _ _ _ _ _ q2)
    · obtain ⟨e1, e2, e3, e4, e5⟩ := bytS_one q2 r2 (q3.trans r3.symm)
      obtain ⟨A, B, o⟩ := see_ok (bytF_zero.1 q2).1
      exact ⟨rfl, e1, e2, e3, e4, o.six, fun i hi => by rw [(o.each i hi).n]; exact o.le, e5⟩
/-- A film is as it lies: what is the same may stand for it. -/
theorem cods_same {w : World} {v : Value} {N : Nat} {C D : Nat → Cd} (h : CodsIn w v N C) (e : ∀ i, i < N → (C i).al = (D i).al ∧ (C i).x = (D i).x ∧ (C i).y = (D i).y ∧ (C i).n = (D i).n ∧ ∀ k, k < (C i).n → (C i).f k = (D i).f k) : CodsIn w v N D := by
  obtain ⟨ad, cap, rfl, h1, h2, h3⟩ := h
  refine ⟨ad, cap, rfl, h1, h2, fun h0 => ?_⟩
  obtain ⟨b, o, e', hc⟩ := h3 h0
  refine ⟨b, o, e', fun i hi => ?_⟩
  obtain ⟨s, c0, c1, c2, c3, hs⟩ := hc i hi
  obtain ⟨q1, q2, q3, q4, q5⟩ := e i hi
  refine ⟨s, by rw [← q1]; exact c0, by rw [← q2]; exact c1, by rw [← q3]; exact c2, c3, ?_⟩
  rw [← q4]
  exact hs.congr q5
end Go.Proofs.YtjhflcgphejddaaGreatDoor

namespace Go.Proofs.YtjhflcgphejddaaGreatDoor
open Go.RowKit Go.Maps
set_option linter.unusedVariables false
set_option maxRecDepth 100000

set_option maxHeartbeats 1000000 in
theorem aenc_bad {w : World} {s : Value} {n : Nat} {f : Nat → Int} (a b st : Int) (h : IntsIn w s n f) (hx : encF a b n f st ≠ 0) :
    Calls Tryz.prog 50 #[.agg #[.int .i64 a, .int .i64 b, s], .int .i64 st] w fun e w' => e = .returned (.tuple #[.slice none 0 0, errN (encF a b n f st)]) ∧ Below w.heap.size w w' := by
  obtain ⟨W1, hW1⟩ : ∃ W1, W1 = w.alloc (.cells #[.int .i64 a, .int .i64 b, s] 33) := ⟨_, rfl⟩
  have b1 : Below w.heap.size w W1 := hW1 ▸ (Below.refl _ _).alloc (Nat.le_refl _) _
  have C := hide (pcheck_ok a b (h.below b1))
  have B1 := hide b1
  have HS := hide (fun w => astep_ok st w)
  subst hW1
  obtain ⟨ad, cap, rfl⟩ := slice_shape h
  clear h b1
  by_cases hp : picF a b n f = 0
  · rw [hp] at C
    have hE : encF a b n f st = if stepOk st = true then 0 else 1 := by unfold encF; rw [if_neg (by omega)]
    cases hs : stepOk st with
    | true => rw [hE, hs, if_pos rfl] at hx; exact absurd rfl hx
    | false =>
      rw [hs] at HS
      have HE : Hid (encF a b n f st = 1) := by unfold Hid; rw [hE, hs, if_neg (by simp)]
      clear hx hp hE hs
      go_enter Tryz.func50, Tryz.ntmps50
      go_wp2_with fail
      refine (C.out).mono ?_
      rintro e w1 ⟨rfl, hb1⟩
      rw [errN_zero]
      have B2 := hide (below_two B1.out hb1)
      clear hb1
      go_wp2_with fail
      refine (HS.out _).mono ?_
      rintro e w2 ⟨rfl, rfl⟩
      go_wp2
      go_ret2
      exact ⟨by rw [HE.out]; rfl, B2.out⟩
  · have HE : Hid (encF a b n f st = picF a b n f) := by unfold Hid encF; rw [if_pos hp]
    have HN := hide (errN_pos hp)
    clear hx hp HS
    generalize picF a b n f = k at *
    go_enter Tryz.func50, Tryz.ntmps50
    go_wp2_with fail
    refine (C.out).mono ?_
    rintro e w1 ⟨rfl, hb1⟩
    rw [HN.out]
    have B2 := hide (below_two B1.out hb1)
    clear hb1
    go_wp2
    go_ret2
    exact ⟨by rw [HE.out, HN.out]; rfl, B2.out⟩

set_option maxHeartbeats 4000000 in
theorem aenc_ok {w : World} {v : Value} {n : Nat} {f : Nat → Int} {a b s : Int} {A B : Nat} (h : IntsIn w v n f) (o : PicOk a b n f A B) (s1 : 1 ≤ s) (s2 : s ≤ 64) :
    Calls Tryz.prog 50 #[.agg #[.int .i64 a, .int .i64 b, v], .int .i64 s] w fun e w' => ∃ u, e = .returned (.tuple #[u, .nilIface]) ∧ IntsIn w' u n (restF A s (byPix s f)) ∧ Below w.heap.size w w' ∧ ∀ g, u.ownBlock = some g → w.heap.size ≤ g := by
  obtain ⟨w1, hw1⟩ : ∃ w1, w1 = w.alloc (.cells #[.int .i64 a, .int .i64 b, v] 33) := ⟨_, rfl⟩
  have b1 : Below w.heap.size w w1 := hw1 ▸ (Below.refl _ _).alloc (Nat.le_refl _) _
  have P1 : Hid (PicIn w1 w.heap.size a b v) := hide (hw1 ▸ picIn_new w _ _ _)
  have B1 := hide b1
  have C := hide (pcheck_ok a b (h.below b1))
  rw [picF_zero.2 ⟨A, B, o⟩] at C
  have S1 := hide (fun w => astep_ok s w)
  rw [stepOk_iff.2 ⟨s1, s2⟩] at S1
  have hl := o.le
  have h0 := o.pos
  have HR := hide (fun i (hi : i < n) => restF_in (f := f) o.w1 s1 (o.pix i hi))
  have HP := hide o.pix
  have HT := hide (fun i => tellF_eq o.w1 s (byPix s f) i)
  have HF : Hid (∀ i, restF A s (byPix s f) i = rnd (f i - gsN A (tellF A s (byPix s f)) i) s) := fun i => rfl
  have HF2 : Hid (∀ i, byPix s f i (gsN A (tellF A s (byPix s f)) i) = restF A s (byPix s f) i) := fun i => rfl
  have HG := hide (fun i => gsN_in (A := A) (tellF_in o.w1 s (byPix s f)) i)
  have a1 := o.w1
  have a6 := o.w6
  have ea := o.wide
  obtain ⟨i0, hi0, hz0, hz1, hz2⟩ := info_parts Tryz.infoInt
  have Hi := hide hi0
  have Hz0 := hide hz0
  have Hz1 := hide hz1
  have Hz2 := hide hz2
  have hmk : ∀ W : World, (Instr.makeSlice 23 (.int .i64 0) (.int .i64 (n : Int))).run Tryz.prog W = .ok (.slice (some ⟨W.heap.size, 0, none⟩) 0 n) (W.alloc (.cells (madeCells #[Value.int .i64 0] n) 3)) := by
    intro W
    have hr := run_make (P := Tryz.prog) W 23 3 i0 (.int .i64 0) Tryz.underlying23 hi0 hz0 .i64 .i64 0 n (Int.le_refl _) (by omega) (by rw [hz2]; omega) (by omega)
    simp only [Int.toNat_zero, Int.toNat_natCast, hz1, Nat.mul_one] at hr
    exact hr
  obtain ⟨bb, oo, cap, rfl, hc⟩ : ∃ bb oo cap, v = .slice (some ⟨bb, oo, none⟩) n cap ∧ ∀ i, i < n → w.cell? ⟨bb, oo + i, none⟩ = some (.int .i64 (f i)) := by
    rcases h with ⟨h, _⟩ | ⟨_, b', o', c', e, hc⟩
    · omega
    · exact ⟨_, _, _, e, hc⟩
  have HC := hide hc
  subst ea
  generalize hTT : tellF A s (byPix s f) = T at *
  generalize hRR : restF A s (byPix s f) = R at *
  clear h o b1 hc hi0 hz0 hz1 hz2 hTT hRR
  subst hw1
  go_enter Tryz.func50, Tryz.ntmps50
  go_wp2_with fail
  refine (C.out).mono ?_
  rintro e w2 ⟨rfl, hb2⟩
  rw [errN_zero]
  have P2 := hide (P1.out.below hb2)
  have B2 := hide (below_two B1.out hb2)
  obtain ⟨⟨c0, _⟩, ⟨c1, _⟩, c2, _⟩ := P2.out
  clear hb2 P1 B1
  go_wp2_with fail
  refine (S1.out _).mono ?_
  rintro e w3 ⟨rfl, rfl⟩
  go_upto_region 6 with fail
  go_cut [7, 8] (fun x y wx => ∃ (g h : Nat), x = .slice (some ⟨g, 0, none⟩) 0 n ∧ y = .slice (some ⟨h, 0, none⟩) 0 n ∧ g ≠ h ∧ Hid (wx.ownsRow w2.heap.size 3 1 (.slice (some ⟨g, 0, none⟩) 0 n) 0 []) ∧ Hid (wx.ownsRow w2.heap.size 3 1 (.slice (some ⟨h, 0, none⟩) 0 n) 0 []) ∧ Hid (Below w2.heap.size w2 wx))
  case first =>
    have hca : ∀ o, (w2.alloc o).cell? ⟨w.heap.size, 2, none⟩ = some (.slice (some ⟨bb, oo, none⟩) n cap) := fun o => cell_below ((Below.refl _ w2).alloc (Nat.le_refl _) o) c2
    have hs0 : (madeCells #[Value.int .i64 0] n).size = n * 1 := by rw [Nat.mul_one]; exact size_madeCells _ _
    have O1 := World.ownsRow_made (base := w2.heap.size) (e := 3) (size := 1) w2 (madeCells #[Value.int .i64 0] n) n (Nat.le_refl _) (by unfold maxLen; omega) hs0
    have O2 := World.ownsRow_made (base := w2.heap.size) (e := 3) (size := 1) (w2.alloc (.cells (madeCells #[Value.int .i64 0] n) 3)) (madeCells #[Value.int .i64 0] n) n (by simp) (by unfold maxLen; omega) hs0
    have bA : Below w2.heap.size w2 ((w2.alloc (.cells (madeCells #[Value.int .i64 0] n) 3)).alloc (.cells (madeCells #[Value.int .i64 0] n) 3)).drew := (((Below.refl _ w2).alloc (Nat.le_refl _) _).alloc (by simp) _).drew
    have bB : Below (w2.alloc (.cells (madeCells #[Value.int .i64 0] n) 3)).heap.size (w2.alloc (.cells (madeCells #[Value.int .i64 0] n) 3)) ((w2.alloc (.cells (madeCells #[Value.int .i64 0] n) 3)).alloc (.cells (madeCells #[Value.int .i64 0] n) 3)).drew := ((Below.refl _ _).alloc (Nat.le_refl _) _).drew
    have bC : Below ((w2.alloc (.cells (madeCells #[Value.int .i64 0] n) 3)).alloc (.cells (madeCells #[Value.int .i64 0] n) 3)).heap.size ((w2.alloc (.cells (madeCells #[Value.int .i64 0] n) 3)).alloc (.cells (madeCells #[Value.int .i64 0] n) 3)) ((w2.alloc (.cells (madeCells #[Value.int .i64 0] n) 3)).alloc (.cells (madeCells #[Value.int .i64 0] n) 3)).drew := (Below.refl _ _).drew
    have hz : (w2.alloc (.cells (madeCells #[Value.int .i64 0] n) 3)).heap.size = w2.heap.size + 1 := by simp
    have HO1 := hide (own_under' O1 bB)
    have HO2 := own_under' O2 bC
    rw [hz] at HO2
    have HO2 := hide HO2
    have BA := hide bA
    have hn1 : w2.heap.size ≠ w2.heap.size + 1 := by omega
    clear O1 O2 bA bB bC hz hs0
    go_region
    · go_wp2_with fail
      go_meet
      exact ⟨w2.heap.size, w2.heap.size + 1, rfl, rfl, hn1, HO1, HO2, BA⟩
    · go_wp2_with fail
      go_meet
      exact ⟨w2.heap.size + 1, w2.heap.size, rfl, rfl, hn1.symm, HO2, HO1, BA⟩
  case rest =>
    obtain ⟨g0, k0, rfl, rfl, hgk, HO1, HO2, BA⟩ := hcut
    have P3 := hide (P2.out.below BA.out)
    have HAP : Hid (Apart (.slice (some ⟨g0, 0, none⟩) 0 n) (.slice (some ⟨k0, 0, none⟩) 0 n)) := Or.inr (Or.inr (fun e => hgk (by cases e; rfl)))
    obtain ⟨⟨d0, _⟩, ⟨d1, _⟩, d2, _⟩ := P3.out
    clear c0 c1 c2 hgk hmk
    go_wp2
    clear d0 d1 d2
    go_loopw [7, 8, 33] (fun x y i wr => ∃ (j : Nat) (ax : Option Addr) (cx : Nat) (ay : Option Addr) (cy : Nat), j ≤ n ∧ i = .int .i64 j ∧ x = .slice ax j cx ∧ y = .slice ay j cy ∧ Hid (wr.ownsRow w2.heap.size 3 1 (.slice ax j cx) j ((List.range j).map fun k : Nat => .int .i64 (R k))) ∧ Hid (wr.ownsRow w2.heap.size 3 1 (.slice ay j cy) j ((List.range j).map fun k : Nat => .int .i64 (T k))) ∧ Hid (Apart (.slice ax j cx) (.slice ay j cy)) ∧ Hid (Below w2.heap.size w2 wr)) (fun _ _ i _ => n - (intOf i).toNat)
    case atStart => exact ⟨0, _, n, _, n, Nat.zero_le _, rfl, rfl, rfl, HO1, HO2, HAP, BA⟩
    case round =>
      obtain ⟨j, ax, cx, ay, cy, hj, rfl, rfl, rfl, HX, HY, HA, HB⟩ := hrel
      have HP4 := hide (P2.out.below HB.out)
      obtain ⟨⟨c0, _⟩, ⟨c1, _⟩, c2, _⟩ := HP4.out
      by_cases hlt : j < n
      · have hcj := cell_below (below_two B2.out HB.out) (HC.out j hlt)
        have hr := HR.out j hlt
        have hf := HP.out j hlt
        have hg := HG.out j
        have K1 := hide (aguess_ok (w := wr) (own_in HY.out) a1 a6 (by omega))
        have K2 := hide (asteps_ok (f j - gsN A T j) s wr (by omega) (by omega) s1 s2)
        rw [← HF.out j] at K2
        have K3 := hide (fun w => atell_ok (gsN A T j) (R j) s w hg.1 hg.2 hr.1 hr.2 s1 s2)
        have hTj := HT.out j
        rw [HF2.out j] at hTj
        rw [← hTj] at K3
        have HM : Hid ((List.range (j + 1)).map (fun k : Nat => Value.int .i64 (R k)) = (List.range j).map (fun k : Nat => Value.int .i64 (R k)) ++ [.int .i64 (R j)]) := by
          unfold Hid; rw [List.range_succ, List.map_append]; rfl
        have HN : Hid ((List.range (j + 1)).map (fun k : Nat => Value.int .i64 (T k)) = (List.range j).map (fun k : Nat => Value.int .i64 (T k)) ++ [.int .i64 (T j)]) := by
          unfold Hid; rw [List.range_succ, List.map_append]; rfl
        clear hTj
        generalize gsN A T j = g at *
        generalize f j = x at *
        generalize T j = z at *
        generalize R j = q at *
        have hsz := HB.out.size
        obtain ⟨g1, g2⟩ := hg
        obtain ⟨f1, f2⟩ := hf
        obtain ⟨r1, r2⟩ := hr
        go_wp2_with fail
        refine (K1.out).mono ?_
        rintro e w3 ⟨rfl, rfl⟩
        go_wp2_with fail
        refine (K2.out).mono ?_
        rintro e w3 ⟨rfl, rfl⟩
        have hz1' := Hz1.out
        go_wp2_with (at_builtin; refine wpList_append_lies _ rfl _ _ 23 rfl w2.heap.size 3 i0 (.int .i64 0) 1 8 Tryz.underlying23 Hi.out Hz0.out Hz1.out Hz2.out rfl (by decide) _ _ _ rfl (HX.out.alloc _) ⟨wr.heap.size, 0, none⟩ 1 1 [.int .i64 q] rfl rfl (cell_one_new _ _ _) (fun x hx => by simp at hx; subst hx; rfl) (by decide) (by unfold maxLen; omega) (by omega) (by simp; omega) _ rfl ?_; intro g3 cap3 w5 hown3 hgrow3 hat3 hlt3)
        have HX5 := hide hown3
        have HY5 := hide ((HY.out.alloc _).kept hgrow3 HA.out.kept)
        have HA5 := hide (apart_new (n := j + 1) (c := cap3) HY.out HA.out (by simp) hat3)
        have HB5 := hide ((HB.out.alloc hsz _).grown hgrow3 (by simp; omega) (fun q hq => (HX.out.lt q hq).1))
        have hsz5 := HB5.out.size
        clear hown3 hgrow3 hat3 hlt3
        go_wp2_with fail
        refine (K3.out _).mono ?_
        rintro e w6 ⟨rfl, rfl⟩
        go_wp2_with (at_builtin; refine wpList_append_lies _ rfl _ _ 23 rfl w2.heap.size 3 i0 (.int .i64 0) 1 8 Tryz.underlying23 Hi.out Hz0.out Hz1.out Hz2.out rfl (by decide) _ _ _ rfl (HY5.out.alloc _) ⟨w5.heap.size, 0, none⟩ 1 1 [.int .i64 z] rfl rfl (cell_one_new _ _ _) (fun x hx => by simp at hx; subst hx; rfl) (by decide) (by unfold maxLen; omega) (by omega) (by simp; omega) _ rfl ?_; intro g4 cap4 w7 hown4 hgrow4 hat4 hlt4)
        have HY7 := hide hown4
        have HX7 := hide ((HX5.out.alloc _).kept hgrow4 HA5.out.symm.kept)
        have HA7 := hide (apart_new (n := j + 1) (c := cap4) HX5.out HA5.out.symm (by simp) hat4).symm
        have HB7 := hide ((HB5.out.alloc hsz5 _).grown hgrow4 (by simp; omega) (fun q hq => (HY5.out.lt q hq).1))
        go_roundw
        case rel =>
          have RR : j + 1 ≤ n ∧ Value.int .i64 ((j : Int) + 1) = .int .i64 ((j + 1 : Nat) : Int) ∧ Value.slice (some ⟨g3, 0, none⟩) (j + 1) cap3 = .slice (some ⟨g3, 0, none⟩) (j + 1) cap3 ∧ Value.slice (some ⟨g4, 0, none⟩) (j + 1) cap4 = .slice (some ⟨g4, 0, none⟩) (j + 1) cap4
              ∧ Hid (w7.ownsRow w2.heap.size 3 1 (.slice (some ⟨g3, 0, none⟩) (j + 1) cap3) (j + 1) ((List.range (j + 1)).map fun k : Nat => .int .i64 (R k))) ∧ Hid (w7.ownsRow w2.heap.size 3 1 (.slice (some ⟨g4, 0, none⟩) (j + 1) cap4) (j + 1) ((List.range (j + 1)).map fun k : Nat => .int .i64 (T k))) ∧ Hid (Apart (.slice (some ⟨g3, 0, none⟩) (j + 1) cap3) (.slice (some ⟨g4, 0, none⟩) (j + 1) cap4)) ∧ Hid (Below w2.heap.size w2 w7) :=
            ⟨by omega, by simp, rfl, rfl, by unfold Hid; rw [HM.out]; exact HX7.out, by unfold Hid; rw [HN.out]; exact HY7.out, HA7, HB7⟩
          first
            | exact ⟨j + 1, some ⟨g3, 0, none⟩, cap3, some ⟨g4, 0, none⟩, cap4, RR⟩
            | ((repeat apply Exists.intro); exact ⟨⟨j + 1, some ⟨g3, 0, none⟩, cap3, some ⟨g4, 0, none⟩, cap4, RR⟩, rfl⟩)
        case measure => simp [intOf]; omega
      · obtain rfl : j = n := by omega
        have hlt2 := P2.out.lt
        go_wp2
        go_ret2
        exact ⟨_, rfl, own_in HX.out, below_two B2.out HB.out, fun g hg => by have := (HX.out.lt g hg).1; omega⟩
end Go.Proofs.YtjhflcgphejddaaGreatDoor
