/-
  Our own contracts of rice.Get. Lemmas for the laws above; no statement is proved here.
-/
import Derived.Test.YtjklpcabnppnaaaDoorRcG
import Derived.Test.YtjklpcabnppnaaaDoorRcF
import Derived.Test.YtjklpcabnppnaaaDoorErrK
import Derived.Test.YtjklpcabnppnaaaDoorLstN
import Derived.Deep.AppendLies
import Derived.Laws.MakeOwn
import Derived.Maps.AppendAt
namespace Go.Proofs.YtjklpcabnppnaaaDoor
open Go.RowKit Go.Maps
set_option linter.unusedVariables false
set_option maxRecDepth 100000

/-- What is wrong with what is asked of some bits: ahead of reading them. -/
def getF (a k : Int) (m : Nat) : Nat := if lowOk a = false then 1 else if k < 0 ∨ 2000 < k then 1 else if 2000 < m then 4 else 0

set_option maxHeartbeats 2000000 in
theorem rget_bad {w : World} {v : Value} {m : Nat} {g : Nat → Int} (a k : Int) (h : SlI w v m g) (hx : getF a k m ≠ 0) :
    Calls Tryd.prog 10 #[v, .int .i64 a, .int .i64 k] w fun e w' => e = .returned (.tuple #[.slice none 0 0, errN (getF a k m)]) ∧ w = w' := by
  have K1 := hide (islow_ok a w)
  obtain ⟨ad, cap, rfl, h1, h2, h3⟩ := h
  unfold maxLen at h2
  clear h3
  cases hl : lowOk a with
  | false =>
    have HE : Hid (getF a k m = 1) := by unfold Hid getF; rw [hl, if_pos rfl]
    rw [hl] at K1
    clear hx hl
    go_enter Tryd.func10, Tryd.ntmps10
    go_wp2_with fail
    refine (K1.out).mono ?_
    rintro e w1 ⟨rfl, rfl⟩
    go_wp2
    go_ret2
    exact ⟨by rw [HE.out]; rfl, rfl⟩
  | true =>
    rw [hl] at K1
    by_cases c1 : k < 0
    · have HE : Hid (getF a k m = 1) := by unfold Hid getF; rw [hl, if_neg (by simp), if_pos (Or.inl c1)]
      clear hx hl
      go_enter Tryd.func10, Tryd.ntmps10
      go_wp2_with fail
      refine (K1.out).mono ?_
      rintro e w1 ⟨rfl, rfl⟩
      go_wp2
      go_ret2
      exact ⟨by rw [HE.out]; rfl, rfl⟩
    · by_cases c2 : 2000 < k
      · have HE : Hid (getF a k m = 1) := by unfold Hid getF; rw [hl, if_neg (by simp), if_pos (Or.inr c2)]
        clear hx hl
        go_enter Tryd.func10, Tryd.ntmps10
        go_wp2_with fail
        refine (K1.out).mono ?_
        rintro e w1 ⟨rfl, rfl⟩
        go_wp2
        go_ret2
        exact ⟨by rw [HE.out]; rfl, rfl⟩
      · have c3 : 2000 < m := by
          refine Nat.lt_of_not_le fun c3 => hx ?_
          unfold getF
          rw [hl, if_neg (by simp), if_neg (by omega), if_neg (by omega)]
        have HE : Hid (getF a k m = 4) := by unfold Hid getF; rw [hl, if_neg (by simp), if_neg (by omega), if_pos c3]
        clear hx hl
        go_enter Tryd.func10, Tryd.ntmps10
        go_wp2_with fail
        refine (K1.out).mono ?_
        rintro e w1 ⟨rfl, rfl⟩
        go_wp2
        go_ret2
        exact ⟨by rw [HE.out]; rfl, rfl⟩

set_option maxHeartbeats 2000000 in
theorem rget_bits {w : World} {v : Value} {m many low : Nat} {g : Nat → Int} (h : SlI w v m g) (hm : m ≤ 2000) (hl : low ≤ 7) (hk : many ≤ 2000) (hx : bitsOk g m = false) :
    Calls Tryd.prog 10 #[v, .int .i64 low, .int .i64 many] w fun e w' => e = .returned (.tuple #[.slice none 0 0, errN 1]) ∧ w = w' := by
  have K1 := hide (islow_ok (low : Int) w)
  rw [lowOk_iff.2 (by omega)] at K1
  have K2 := hide (bcont_ok h.ints hm)
  rw [hx] at K2
  obtain ⟨ad, cap, rfl, h1, h2, h3⟩ := h
  clear h3 hx h2
  go_enter Tryd.func10, Tryd.ntmps10
  go_wp2_with fail
  refine (K1.out).mono ?_
  rintro e w1 ⟨rfl, rfl⟩
  go_wp2_with fail
  refine (K2.out).mono ?_
  rintro e w1 ⟨rfl, rfl⟩
  go_wp2
  go_ret2
  exact ⟨rfl, rfl⟩

/-- What is told of bits: none, or these numbers. -/
def Got (B : Nat) (w' : World) (e : Ending) (r : Option (List Int)) (many : Nat) : Prop :=
  (r = none ∧ e = .returned (.tuple #[.slice none 0 0, errN 2])) ∨ ∃ xs ad cp, r = some xs ∧ xs.length = many ∧ e = .returned (.tuple #[.slice ad many cp, .nilIface]) ∧ w'.ownsRow B 3 1 (.slice ad many cp) many (encI xs)

set_option maxHeartbeats 4000000 in
theorem rget_ok {w : World} {v : Value} {m many low : Nat} {g : Nat → Int} (h : SlI w v m g) (hm : m ≤ 2000) (hl : low ≤ 7) (hk : many ≤ 2000) (hx : ∀ i, i < m → g i = 0 ∨ g i = 1) :
    Calls Tryd.prog 10 #[v, .int .i64 low, .int .i64 many] w fun e w' => Got w.heap.size w' e (getN g m low many) many ∧ Below w.heap.size w w' := by
  have K1 := hide (islow_ok (low : Int) w)
  rw [lowOk_iff.2 (by omega)] at K1
  have K2 := hide (bcont_ok h.ints hm)
  rw [bitsOk_iff.2 hx] at K2
  obtain ⟨i0, hi0, hz0, hz1, hz2⟩ := info_parts Tryd.infoInt
  have Hi := hide hi0
  have Hz0 := hide hz0
  have Hz1 := hide hz1
  have Hz2 := hide hz2
  have HX := hide hx
  have HG : Hid (getN g m low many = (stpN g m low many).bind fun p => if p.2 = m then some p.1 else none) := rfl
  have HSl : Hid (SlI w v m (fun i => g (0 + i))) := h.congr fun i _ => by rw [Nat.zero_add]
  obtain ⟨ad, cap, rfl, h1, h2, h3⟩ := h
  clear h3 hx h2 hi0 hz0 hz1 hz2
  go_enter Tryd.func10, Tryd.ntmps10
  go_wp2_with fail
  refine (K1.out).mono ?_
  rintro e w1 ⟨rfl, rfl⟩
  go_wp2_with fail
  refine (K2.out).mono ?_
  rintro e w1 ⟨rfl, rfl⟩
  go_wp2
  go_loopw [0, 8, 32] (fun s u i wr => ∃ (j a : Nat) (xs : List Int) (ads adu : Option Addr) (cps cpu : Nat), j ≤ many ∧ a ≤ m ∧ i = .int .i64 j ∧ s = .slice ads (m - a) cps ∧ u = .slice adu j cpu ∧ Hid (stpN g m low j = some (xs, a)) ∧ Hid (SlI w s (m - a) (fun i => g (a + i))) ∧ Hid (wr.ownsRow w.heap.size 3 1 u j (encI xs)) ∧ Below w.heap.size w wr) (fun _ _ i _ => many - (intOf i).toNat)
  case atStart => exact ⟨0, 0, [], ad, none, cap, 0, Nat.zero_le _, Nat.zero_le _, rfl, rfl, rfl, rfl, HSl.out, World.ownsRow_nil _ _ _ _, Below.refl _ _⟩
  case round =>
    obtain ⟨j, a, xs, ads, adu, cps, cpu, hj, ha, rfl, rfl, rfl, HS, HV, HR, hb⟩ := hrel
    have HB := hide hb
    have hsz := hb.size
    clear hb
    by_cases hlt : j < many
    · have K3 := hide (first_ok (low := low) (HV.out.below HB.out) (by omega) hl (fun i hi => HX.out _ (by omega)))
      have HF := hide (fstN_shift (g := g) (m := m) (low := low) ha)
      go_wp2_with fail
      refine (K3.out).mono ?_
      rintro e w2 (⟨hn, rfl, hb2⟩ | ⟨n, b, sl, hn, hbm, rfl, hsl, hb2⟩)
      · have HN : Hid (getN g m low many = none) := by
          unfold Hid
          rw [HG.out, stpN_past (stpN_none HS.out (by rw [HF.out, hn]; rfl)) (show j + 1 ≤ many by omega)]
          rfl
        have HB2 := hide (HB.out.trans (hb2.mono hsz))
        clear hn hb2 HF K3
        go_wp2
        go_ret2
        exact ⟨Or.inl ⟨HN.out, rfl⟩, HB2.out⟩
      · have HN : Hid (stpN g m low (j + 1) = some (xs ++ [n], a + b)) := stpN_some HS.out (by rw [HF.out, hn]; rfl)
        have HB2 := hide (HB.out.trans (hb2.mono hsz))
        have HR2 := hide (own_under' HR.out hb2)
        have hsz2 := HB2.out.size
        have HV2 : Hid (SlI w sl (m - (a + b)) (fun i => g (a + b + i))) := by
          have := (hsl w _ HV.out).congr (g := fun i => g (a + b + i)) (fun i _ => by rw [Nat.add_assoc])
          rw [Nat.sub_sub] at this
          exact this
        obtain ⟨ads2, cps2, rfl, _, _, _⟩ := HV2.out
        clear hn hb2 HF K3 hsl
        go_wp2_with (at_builtin; refine wpList_append_lies _ rfl _ _ 22 rfl w.heap.size 3 i0 (.int .i64 0) 1 8 Tryd.underlying22 Hi.out Hz0.out Hz1.out Hz2.out rfl (by decide) _ _ _ rfl (HR2.out.alloc _) ⟨w2.heap.size, 0, none⟩ 1 1 [.int .i64 n] rfl rfl (cell_one_new _ _ _) (fun x hx => by simp at hx; subst hx; rfl) (by decide) (by unfold maxLen; omega) (by omega) (by simp; omega) _ rfl ?_; intro g3 cap3 w5 hown3 hgrow3 hat3 hlt3)
        go_roundw
        case rel =>
          have hB5 : Below w.heap.size w2 w5 := ((Below.refl w.heap.size w2).alloc (by omega) _).grown hgrow3 (by simp; omega) (fun q hq => (HR2.out.lt q hq).1)
          have R : j + 1 ≤ many ∧ a + b ≤ m ∧ Value.int .i64 ((j : Int) + 1) = .int .i64 ((j + 1 : Nat) : Int) ∧ Value.slice ads2 (m - (a + b)) cps2 = .slice ads2 (m - (a + b)) cps2 ∧ Value.slice (some ⟨g3, 0, none⟩) (j + 1) cap3 = .slice (some ⟨g3, 0, none⟩) (j + 1) cap3
              ∧ Hid (stpN g m low (j + 1) = some (xs ++ [n], a + b)) ∧ Hid (SlI w (.slice ads2 (m - (a + b)) cps2) (m - (a + b)) (fun i => g (a + b + i))) ∧ Hid (w5.ownsRow w.heap.size 3 1 (.slice (some ⟨g3, 0, none⟩) (j + 1) cap3) (j + 1) (encI (xs ++ [n]))) ∧ Below w.heap.size w w5 :=
            ⟨by omega, by omega, by simp, rfl, rfl, HN, HV2, hide (by rw [encI_snoc]; exact hown3), HB2.out.trans hB5⟩
          first
            | exact ⟨j + 1, a + b, xs ++ [n], ads2, some ⟨g3, 0, none⟩, cps2, cap3, R⟩
            | ((repeat apply Exists.intro); exact ⟨⟨j + 1, a + b, xs ++ [n], ads2, some ⟨g3, 0, none⟩, cps2, cap3, R⟩, rfl⟩)
        case measure => simp [intOf]; omega
    · obtain rfl : j = many := by omega
      by_cases c : a = m
      · have HN : Hid (getN g m low j = some xs) := by
          unfold Hid
          rw [HG.out, HS.out]
          show (if a = m then some xs else none) = some xs
          rw [if_pos c]
        have hxl := (stpN_len HS.out).1
        have HL := hide hxl
        subst c
        clear hxl
        go_wp2
        go_ret2
        exact ⟨Or.inr ⟨xs, adu, cpu, HN.out, HL.out, rfl, HR.out⟩, HB.out⟩
      · have HN : Hid (getN g m low j = none) := by
          unfold Hid
          rw [HG.out, HS.out]
          show (if a = m then some xs else none) = none
          rw [if_neg c]
        have hc : 0 < m - a := by omega
        go_wp2
        go_ret2
        exact ⟨Or.inl ⟨HN.out, rfl⟩, HB.out⟩
end Go.Proofs.YtjklpcabnppnaaaDoor
