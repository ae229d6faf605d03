/-
  The walk of the law that what is put comes back, and what is got comes of it. No statement is proved here.
-/
import Derived.Test.YtjklpcabnppnaaaDoorRcAny
import Derived.Test.YtjklpcabnppnaaaDoorErrIs
import Derived.Test.YtjklpcabnppnaaaDoorPicErr
import Derived.Test.YtjklpcabnppnaaaDoorSInts
import Derived.Deep.DeepCutAuto
namespace Go.Proofs.YtjklpcabnppnaaaDoor
open Go.RowKit Go.Maps
set_option linter.unusedVariables false
set_option maxRecDepth 100000

/-- The numbers 0, -1, 2. -/
def three (i : Nat) : Int := if i = 0 then 0 else if i = 1 then -1 else 2
theorem three_in (w : World) : IntsIn (w.alloc (.cells #[.int .i64 0, .int .i64 (-1), .int .i64 2] 3)) (.slice (some ⟨w.heap.size, 0, none⟩) 3 3) 3 three := by
  refine Or.inr ⟨by omega, _, _, _, rfl, fun i hi => ?_⟩
  have : i = 0 ∨ i = 1 ∨ i = 2 := by omega
  rw [Nat.zero_add, World.cell?_alloc_new]
  rcases this with rfl | rfl | rfl <;> rfl
theorem three_row : rowB 1 (lst three 3) = [0, 0, 0, 1, 1, 1, 0, 0] := by decide
theorem three_len : lenN 1 three 3 = 8 := by decide
theorem three_ok : ∀ i, i < 3 → -255 ≤ three i ∧ three i ≤ 255 := by decide

/-- What Get has told, as its two values. -/
def GotV (a k : Int) (g : Nat → Int) (m B : Nat) (wx : World) (x er : Value) : Prop :=
  (∃ c : Nat, c ≠ 0 ∧ er = .iface 40 (.int .i64 c)) ∨ (er = .nilIface ∧ ∃ low many xs ad cp, GetOk a k g m low many ∧ getN g m low many = some xs ∧ xs.length = many ∧ x = .slice ad many cp ∧ wx.ownsRow B 3 1 x many (encI xs))
theorem sl_head {w : World} {ad : Option Addr} {n c : Nat} {g : Nat → Int} (h : SlI w (.slice ad n c) n g) (k : Nat) (hk : k ≤ n) : SlI w (.slice ad k c) k g := by
  obtain ⟨ad', cap', e, h1, h2, h3⟩ := h
  cases e
  refine ⟨_, _, rfl, by omega, h2, fun h0 => ?_⟩
  obtain ⟨b, o, e, hc⟩ := h3 (by omega)
  exact ⟨b, o, e, fun i hi => hc i (by omega)⟩
theorem row_bits {low : Nat} {f : Nat → Int} {n i : Nat} (h : i < lenN low f n) : (rowB low (lst f n)).getD i 0 = 0 ∨ (rowB low (lst f n)).getD i 0 = 1 := by
  have hl : i < (rowB low (lst f n)).length := by rw [rowB_len]; exact h
  have e : (rowB low (lst f n)).getD i 0 = (rowB low (lst f n))[i] := by simp [List.getD, hl]
  rw [e]
  exact rowB_in _ (List.getElem_mem hl)

set_option maxHeartbeats 4000000 in
theorem rback_walk {w : World} (v : Value) (n : Nat) (f : Nat → Int) (hs : IntsIn w v n f) (hn : n ≤ 17592186044416) (a : Int) (v2 : Value) (m : Nat) (g : Nat → Int) (hs2 : SlI w v2 m g) (k : Int) (hg : HasErr w) :
    Calls Tryd.prog 4 #[v, .int .i64 a, v2, .int .i64 k] w fun e w' => e = .returned (.bool true) ∧ Below w.heap.size w w' := by
  obtain ⟨w1, hw1⟩ : ∃ w1, w1 = w.alloc (.cells #[.int .i64 0, .int .i64 (-1), .int .i64 2] 3) := ⟨_, rfl⟩
  have HB1 : Hid (Below w.heap.size w w1) := hw1 ▸ (Below.refl _ _).alloc (Nat.le_refl _) _
  have K1 := hide (rput_ok (low := 1) (hw1 ▸ three_in w) (by omega) three_ok (by rw [three_len]; omega))
  rw [three_len, three_row] at K1
  have HS := hide hs
  have HS2 := hide hs2
  have HG := hide hg
  have HGL := hide hg.lt
  obtain ⟨av, cv, rfl⟩ : ∃ ad cp, v = .slice ad n cp := by
    rcases hs with ⟨rfl, a, cap, rfl⟩ | ⟨h0, b, o, cap, rfl, hc⟩
    · exact ⟨_, _, rfl⟩
    · exact ⟨_, _, rfl⟩
  obtain ⟨av2, cv2, rfl, _, _, _⟩ := id hs2
  clear hs hs2 hg
  subst hw1
  go_enter Tryd.func4, Tryd.ntmps4
  go_wp2_with fail
  refine (K1.out).mono ?_
  rintro e w2 ⟨ad, cp, rfl, hown, hb2⟩
  have HB2 := hide (below_two HB1.out hb2)
  obtain ⟨ad', cp', he, h1, h2, h3⟩ := rowV_sl hown rfl
  obtain ⟨rfl, rfl⟩ : ad = ad' ∧ cp = cp' := by cases he; exact ⟨rfl, rfl⟩
  obtain ⟨b, o, rfl, hc⟩ := h3 (by simp)
  have c0 := hc 0 (by simp)
  have c3 := hc 3 (by simp)
  have c4 := hc 4 (by simp)
  have c7 := hc 7 (by simp)
  simp at c0 c3 c4 c7
  clear hown hb2 he h1 h2 h3 hc K1
  have KG := hide (rget_any a k (HS2.out.below HB2.out))
  go_upto_region 4 with fail
  go_cut [11, 12] (fun x er wx => Hid (GotV a k g m w2.heap.size wx x er) ∧ Hid (Below w.heap.size w wx))
  case first =>
    go_wp2_with fail
    refine (KG.out).mono ?_
    rintro e w3 ⟨(⟨hx, rfl⟩ | ⟨hx, low, many, xs, ad3, cp3, hok, hgn, hlen, rfl, hown⟩), hb3⟩
    · rw [errN_pos hx]
      have HV := hide hx
      have HB3 := hide (below_two HB2.out hb3)
      clear hx
      go_wp2
      go_meet
      exact ⟨Or.inl ⟨_, HV.out, rfl⟩, HB3⟩
    · have HV := hide (show GotV a k g m w2.heap.size w3 (.slice ad3 many cp3) .nilIface from Or.inr ⟨rfl, low, many, xs, ad3, cp3, hok, hgn, hlen, rfl, hown⟩)
      have HB3 := hide (below_two HB2.out hb3)
      clear hx hok hgn hlen hown
      go_wp2
      go_meet
      exact ⟨HV, HB3⟩
  case rest =>
    obtain ⟨HV, HB3⟩ := hcut
    rename_i w9
    clear KG c0 c3 c4 c7
    go_upto_region 5 with fail
    go_cut [66] (fun t wx => ∃ q : Bool, t = .bool q ∧ (q = true ↔ u12 = .nilIface) ∧ wc = wx)
    case first =>
      rcases HV.out with ⟨c, hc, rfl⟩ | ⟨rfl, _⟩
      · clear HV
        go_wp2
        go_meet
        exact ⟨false, rfl, by simp, rfl⟩
      · clear HV
        go_wp2
        go_meet
        exact ⟨true, rfl, by simp, rfl⟩
    case rest =>
      obtain ⟨q, rfl, hq, rfl⟩ := hcut
      have HQ := hide hq
      clear hq
      go_upto_if 66 with fail
      go_cut [] (fun wx => Hid (Below w.heap.size w wx))
      case first =>
        cases q with
        | false =>
          go_wp2
          go_meet
          exact HB3
        | true =>
          obtain ⟨low, many, xs, ad3, cp3, hok, hgn, hlen, rfl, hown⟩ : ∃ low many xs ad cp, GetOk a k g m low many ∧ getN g m low many = some xs ∧ xs.length = many ∧ u11 = .slice ad many cp ∧ wc.ownsRow w2.heap.size 3 1 u11 many (encI xs) := by
            rcases HV.out with ⟨c, hc, h⟩ | ⟨_, h⟩
            · have := HQ.out.1 rfl; rw [h] at this; cases this
            · exact h
          have hp := getN_put hok.bits hgn
          obtain rfl := hok.low_is
          obtain rfl := hok.many_is
          have hm2 := hok.len
          have exs : lst (fun i => xs.getD i 0) many = xs := by rw [← hlen]; exact lst_self xs
          have hnums : ∀ i, i < many → -255 ≤ (fun i => xs.getD i 0) i ∧ (fun i => xs.getD i 0) i ≤ 255 := fun i hi => by
            have hi2 : i < xs.length := by omega
            have e : xs.getD i 0 = xs[i] := by simp [List.getD, hi2]
            show -255 ≤ xs.getD i 0 ∧ xs.getD i 0 ≤ 255
            rw [e]
            exact hp.2.2 _ (List.getElem_mem hi2)
          have hln : lenN low (fun i => xs.getD i 0) many = m := by rw [← rowB_len, exs, hp.1, lst_len]
          have KP := hide (rput_ok (rowV_in hown hlen.symm) hok.low_le hnums (by rw [hln]; exact hm2))
          rw [hln, exs, hp.1] at KP
          clear hown hnums hln exs hp hgn hlen hok HV
          go_wp2_with fail
          refine (KP.out).mono ?_
          rintro e w4 ⟨ad4, cp4, rfl, hown4, hb4⟩
          have HB4 := hide (below_two HB3.out hb4)
          have HY : Hid (IntsIn w4 (.slice ad4 m cp4) m g) := (rowV_in hown4 (lst_len g m).symm).congr fun i hi => lst_get hi
          have KI := hide (ints_same (by omega) HY.out (HS2.out.ints.below HB4.out))
          clear hown4 hb4
          go_wp2_with fail
          refine (KI.out).mono ?_
          rintro e w5 ⟨rfl, hb5⟩
          have HB5 := hide (below_two HB4.out hb5)
          clear hb5
          go_wp2
          go_meet
          exact HB5
      case rest =>
        have HB5 := hcut
        clear HV HB3 HB2 HQ
        have KP := hide (rput_any a (HS.out.below HB5.out) hn)
        go_wp2_with fail
        refine (KP.out).mono ?_
        rintro e w6 ⟨(⟨hx, rfl⟩ | ⟨hx, low, ad6, cp6, hok, rfl, hown⟩), hb6⟩
        · rw [errN_pos hx]
          have HB6 := hide (below_two HB5.out hb6)
          clear hx hb6 KP
          go_wp2
          go_ret
          exact ⟨rfl, HB6.out⟩
        · have HB6 := hide (below_two HB5.out hb6)
          have HOK := hide hok
          obtain rfl := hok.low_is
          have hl7 := hok.low_le
          have hM2 := hok.len
          have hn2 : n ≤ 2000 := by have := lenN_ge (low := low) (f := f) n; omega
          have hrl : lenN low f n = (rowB low (lst f n)).length := (rowB_len low f n).symm
          have hsl := rowV_sl hown hrl
          have hbits : ∀ i, i < lenN low f n → (rowB low (lst f n)).getD i 0 = 0 ∨ (rowB low (lst f n)).getD i 0 = 1 := fun i hi => row_bits hi
          have hlst : lst (fun k => (rowB low (lst f n)).getD k 0) (lenN low f n) = rowB low (lst f n) := by rw [hrl]; exact lst_self _
          have hgn := getN_row hok.nums hlst
          have hless := fun m' (h : m' < lenN low f n) => getN_less hok.nums hlst h
          have hbl := bestL_le (f := f) (n := n) hl7
          have hb7 := bestL_lt f n
          have hbE : bestE f n = 0 := by unfold bestE; rw [numsOk_iff.2 hok.nums, if_neg (by simp), if_neg (by omega)]
          have hbA : bestA f n = bestL f n := by unfold bestA; rw [hbE, if_pos rfl]
          have KGt := hide (rget_ok (many := n) hsl hM2 hl7 hn2 hbits)
          rw [hgn] at KGt
          have HSL := hide hsl
          have HLS := hide hless
          have HBI := hide hbits
          generalize lenN low f n = M at *
          generalize (rowB low (lst f n)) = R at *
          clear hx hb6 KP hok hown hrl hsl hbits hlst hgn hless
          go_wp2_with fail
          refine (KGt.out).mono ?_
          rintro e w7 ⟨hgot, hb⟩
          obtain ⟨xs, ad7, cp7, hxs, hlen7, rfl, hown7⟩ := hgot.resolve_left (fun h => by cases h.1)
          obtain rfl := Option.some.inj hxs
          have HB7 := hide (below_two HB6.out hb)
          have HC7 := hide hb
          have HZ : Hid (IntsIn w7 (.slice ad7 n cp7) n f) := (rowV_in hown7 (lst_len f n).symm).congr fun i hi => lst_get hi
          have KI := hide (ints_same (by omega) HZ.out (HS.out.below HB7.out))
          clear hgot hb hxs hlen7 hown7 KGt
          go_wp2_with fail
          refine (KI.out).mono ?_
          rintro e w8 ⟨rfl, hb⟩
          have HB8 := hide (below_two HB7.out hb)
          have HC8 := hide (below_two HC7.out hb)
          have KB := hide (rbest_ok (HS.out.below HB8.out) hn)
          rw [hbE, hbA] at KB
          clear hb KI HZ
          go_wp2_with fail
          refine (KB.out).mono ?_
          rintro e w10 ⟨rfl, rfl⟩
          have KP2 := hide (rput_ok (low := bestL f n) (HS.out.below HB8.out) hb7 HOK.out.nums (by omega))
          generalize bestL f n = L at *
          generalize lenN L f n = ML at *
          go_wp2_with fail
          refine (KP2.out).mono ?_
          rintro e w11 ⟨ad11, cp11, rfl, _, hb⟩
          have HB11 := hide (below_two HB8.out hb)
          have HC11 := hide (below_two HC8.out hb)
          clear hb KP2 KB HOK
          rw [errN_zero]
          by_cases hM0 : M = 0
          · subst hM0
            go_wp2
            go_ret
            exact ⟨rfl, HB11.out⟩
          · have hMe : ((M : Int) == 0) = false := by rw [beq_eq_false_iff_ne]; omega
            have KGz := hide (rget_ok (many := n) (low := low) ((sl_head HSL.out (M - 1) (by omega)).below HC11.out) (by omega) hl7 hn2 (fun i hi => HBI.out i (by omega)))
            rw [HLS.out (M - 1) (by omega)] at KGz
            have hp1 : (M : Int) - 1 = ((M - 1 : Nat) : Int) := by omega
            obtain ⟨hcap, hcap2⟩ : M ≤ cp6 ∧ cp6 ≤ 9223372036854775807 := by
              obtain ⟨_, _, he, h1, h2, _⟩ := HSL.out
              cases he
              exact ⟨h1, by unfold maxLen at h2; omega⟩
            generalize hM1 : M - 1 = M1 at *
            go_wp2_with fail
            refine (KGz.out).mono ?_
            rintro e w12 ⟨hgot, hb⟩
            obtain rfl := (hgot.resolve_right (fun ⟨_, _, _, h, _⟩ => by cases h)).2
            have HB12 := hide (below_two HB11.out hb)
            have ER := hide (error_right 2 (errN 2) w12 (HG.out.below HGL.out HB12.out) (errIs_N 2))
            clear hgot hb KGz
            go_wp2_with fail
            refine (ER.out).mono ?_
            rintro e w13 ⟨rfl, hb⟩
            have HB13 := hide (below_two HB12.out hb)
            clear hb ER
            go_wp2
            go_ret
            exact ⟨rfl, HB13.out⟩

theorem rback_law {w : World} (v : Value) (n : Nat) (f : Nat → Int) (hs : SlI w v n f) (hn : n ≤ 17592186044416) (a : Int) (v2 : Value) (m : Nat) (g : Nat → Int) (hs2 : SlI w v2 m g) (hn2 : m ≤ 17592186044416) (k : Int) (hg : HasErr w) :
    Calls Tryd.prog 4 #[v, .int .i64 a, v2, .int .i64 k] w fun e w' => e = .returned (.bool true) ∧ Below w.heap.size w w' :=
  rback_walk v n f hs.ints hn a v2 m g hs2 k hg
end Go.Proofs.YtjklpcabnppnaaaDoor
