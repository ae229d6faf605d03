/-
  Our own contracts of rice.Put. Lemmas for the laws above; no statement is proved here.
-/
import Derived.Test.YtjklpcabnppnaaaDoorRcA
import Derived.Test.YtjklpcabnppnaaaDoorRcL
import Derived.Test.YtjklpcabnppnaaaDoorRcP
import Derived.Test.YtjklpcabnppnaaaDoorErrK
namespace Go.Proofs.YtjklpcabnppnaaaDoor
open Go.RowKit Go.Maps
set_option linter.unusedVariables false
set_option maxRecDepth 100000

/-- What is wrong with what is put. -/
def putE (a : Int) (f : Nat → Int) (n : Nat) : Nat := if (lowOk a && numsOk f n) = false then 1 else if 2000 < lenN a.toNat f n then 4 else 0
theorem putE_zero {a : Int} {f : Nat → Int} {n : Nat} (h : putE a f n = 0) : ∃ low : Nat, a = low ∧ low ≤ 7 ∧ (∀ i, i < n → -255 ≤ f i ∧ f i ≤ 255) ∧ lenN low f n ≤ 2000 := by
  unfold putE at h
  split at h
  · cases h
  · rename_i h1
    rw [Bool.not_eq_false, Bool.and_eq_true, lowOk_iff, numsOk_iff] at h1
    split at h
    · cases h
    · rename_i h2
      refine ⟨a.toNat, by omega, by omega, h1.2, by omega⟩
theorem putE_of {low : Nat} {f : Nat → Int} {n : Nat} (h1 : low ≤ 7) (h2 : ∀ i, i < n → -255 ≤ f i ∧ f i ≤ 255) (h3 : lenN low f n ≤ 2000) : putE (low : Int) f n = 0 := by
  unfold putE
  rw [if_neg, if_neg (by simpa using h3)]
  rw [Bool.not_eq_false, Bool.and_eq_true, lowOk_iff, numsOk_iff]
  exact ⟨by omega, h2⟩

set_option maxHeartbeats 1000000 in
theorem rput_bad {w : World} {v : Value} {n : Nat} {f : Nat → Int} (a : Int) (h : IntsIn w v n f) (hn : n ≤ 17592186044416) (hx : putE a f n ≠ 0) :
    Calls Tryd.prog 6 #[v, .int .i64 a] w fun e w' => e = .returned (.tuple #[.slice none 0 0, errN (putE a f n)]) ∧ w = w' := by
  have K1 := hide (islow_ok a w)
  cases h1 : lowOk a with
  | false =>
    have HE : Hid (putE a f n = 1) := by unfold Hid putE; rw [h1, Bool.false_and, if_pos rfl]
    rw [h1] at K1
    clear hx h1
    go_enter Tryd.func6, Tryd.ntmps6
    go_wp2_with fail
    refine (K1.out).mono ?_
    rintro e w1 ⟨rfl, rfl⟩
    go_wp2
    go_ret2
    exact ⟨by rw [HE.out]; rfl, rfl⟩
  | true =>
    have K2 := hide (arenum_ok h hn)
    rw [h1] at K1
    cases h2 : numsOk f n with
    | false =>
      have HE : Hid (putE a f n = 1) := by unfold Hid putE; rw [h2, Bool.and_false, if_pos rfl]
      rw [h2] at K2
      clear hx h1 h2
      go_enter Tryd.func6, Tryd.ntmps6
      go_wp2_with fail
      refine (K1.out).mono ?_
      rintro e w1 ⟨rfl, rfl⟩
      go_wp2_with fail
      refine (K2.out).mono ?_
      rintro e w1 ⟨rfl, rfl⟩
      go_wp2
      go_ret2
      exact ⟨by rw [HE.out]; rfl, rfl⟩
    | true =>
      rw [h2] at K2
      have h3 : 2000 < lenN a.toNat f n := by
        refine Nat.lt_of_not_le fun h3 => hx ?_
        unfold putE
        rw [h1, h2, if_neg (by simp), if_neg (by omega)]
      have HE : Hid (putE a f n = 4) := by unfold Hid putE; rw [h1, h2, if_neg (by simp), if_pos h3]
      have hl := lowOk_iff.1 h1
      have hf := numsOk_iff.1 h2
      obtain ⟨low, rfl⟩ := Int.eq_ofNat_of_zero_le hl.1
      rw [Int.toNat_natCast] at h3
      have K3 := hide (length_ok (low := low) h hn (by omega) hf)
      generalize lenN low f n = m at *
      clear hx h1 h2 hf
      go_enter Tryd.func6, Tryd.ntmps6
      go_wp2_with fail
      refine (K1.out).mono ?_
      rintro e w1 ⟨rfl, rfl⟩
      go_wp2_with fail
      refine (K2.out).mono ?_
      rintro e w1 ⟨rfl, rfl⟩
      go_wp2_with fail
      refine (K3.out).mono ?_
      rintro e w1 ⟨rfl, rfl⟩
      go_wp2
      go_ret2
      exact ⟨by rw [HE.out]; rfl, rfl⟩

set_option maxHeartbeats 2000000 in
theorem rput_ok {w : World} {v : Value} {n low : Nat} {f : Nat → Int} (h : IntsIn w v n f) (hl : low ≤ 7) (hf : ∀ i, i < n → -255 ≤ f i ∧ f i ≤ 255) (hm : lenN low f n ≤ 2000) :
    Calls Tryd.prog 6 #[v, .int .i64 low] w fun e w' => ∃ ad cp, e = .returned (.tuple #[.slice ad (lenN low f n) cp, .nilIface]) ∧ w'.ownsRow w.heap.size 3 1 (.slice ad (lenN low f n) cp) (lenN low f n) (encI (rowB low (lst f n))) ∧ Below w.heap.size w w' := by
  have hn0 := lenN_ge (low := low) (f := f) n
  have hn : n ≤ 17592186044416 := by omega
  have K1 := hide (islow_ok (low : Int) w)
  rw [lowOk_iff.2 (by omega)] at K1
  have K2 := hide (arenum_ok h hn)
  rw [numsOk_iff.2 hf] at K2
  have K3 := hide (length_ok (low := low) h hn (by omega) hf)
  obtain ⟨i0, hi0, hz0, hz1, hz2⟩ := info_parts Tryd.infoInt
  have Hi := hide hi0
  have Hz0 := hide hz0
  have Hz1 := hide hz1
  have Hz2 := hide hz2
  have HI := hide h
  have HF := hide hf
  have HM := hide (fun j => lenN_mono (low := low) (f := f) (n := j) (m := n))
  have HLs := hide (fun j => lenN_succ low f j)
  have HRs := hide (fun j => rowB_succ low f j)
  have HLe := hide (fun j => rowB_len low f j)
  have HL0 : Hid (lenN low f 0 = 0) := rfl
  generalize hL : lenN low f = Ln at *
  generalize hMM : Ln n = M at *
  have HMM := hide hMM
  obtain ⟨av, nv, rfl⟩ : ∃ ad cp, v = .slice ad n cp := by
    rcases h with ⟨rfl, a, cap, rfl⟩ | ⟨h0, b, o, cap, rfl, hc⟩
    · exact ⟨_, _, rfl⟩
    · exact ⟨_, _, rfl⟩
  clear h hi0 hz0 hz1 hz2 hf hL hMM
  go_enter Tryd.func6, Tryd.ntmps6
  go_wp2_with fail
  refine (K1.out).mono ?_
  rintro e w1 ⟨rfl, rfl⟩
  go_wp2_with fail
  refine (K2.out).mono ?_
  rintro e w1 ⟨rfl, rfl⟩
  go_wp2_with fail
  refine (K3.out).mono ?_
  rintro e w1 ⟨rfl, rfl⟩
  go_wp2_with (at_make; refine wpList_make_own _ rfl _ _ 22 rfl w.heap.size 3 i0 (.int .i64 0) 1 Tryd.underlying22 Hi.out Hz0.out Hz1.out _ _ _ M rfl rfl rfl (by rw [Hz2.out]; omega) (by unfold maxLen; omega) (Nat.le_refl _) ?_; intro w1 hmk hgrow)
  have HB1 : Hid (Below w.heap.size w w1) := (Below.refl _ _).grown hgrow (Nat.le_refl _) (fun q hq => by cases hq)
  have HX1 := hide hmk
  clear hmk hgrow
  go_loopw [7, 29] (fun u i wr => ∃ (j : Nat) (ad : Option Addr) (cp : Nat), j ≤ n ∧ i = .int .i64 j ∧ u = .slice ad (Ln j) cp ∧ wr.ownsRow w.heap.size 3 1 u (Ln j) (encI (rowB low (lst f j))) ∧ Below w.heap.size w wr) (fun _ i _ => n - (intOf i).toNat)
  case atStart => exact ⟨0, some ⟨w.heap.size, 0, none⟩, M, Nat.zero_le _, rfl, by rw [HL0.out], by rw [HL0.out]; exact HX1.out, HB1.out⟩
  case round =>
    obtain ⟨j, adr, cpr, hj, rfl, rfl, hY, hb⟩ := hrel
    have HY := hide hY
    have HB := hide hb
    clear hY hb
    by_cases hlt : j < n
    · have HI2 := hide (HI.out.below HB.out)
      have hle := HM.out j (by omega)
      have hle2 := HM.out (j + 1) (by omega)
      rw [HLs.out] at hle2
      have K4 := hide (told_ok (f j) wr (HF.out j hlt))
      have K5 := hide (put_ok (x := zz (f j)) (low := low) HB.out.size HY.out (zz_le (HF.out j hlt)) hl (by omega))
      have HQ1 := HRs.out j
      have HQ2 := HLs.out j
      rw [← HQ1, ← HQ2] at K5
      obtain ⟨bb, oo, cpv, hv, hcj⟩ : ∃ bb oo cp, Value.slice av n nv = .slice (some ⟨bb, oo, none⟩) n cp ∧ wr.cell? ⟨bb, oo + j, none⟩ = some (.int .i64 (f j)) := by
        rcases HI2.out with ⟨rfl, _⟩ | ⟨h0, b, o, cap, e, hc⟩
        · omega
        · exact ⟨b, o, cap, e, hc j hlt⟩
      obtain ⟨rfl, rfl⟩ : av = some ⟨bb, oo, none⟩ ∧ nv = cpv := by cases hv; exact ⟨rfl, rfl⟩
      clear hv HQ1 HQ2 hle2
      generalize f j = x at *
      generalize zz x = y at *
      generalize Ln j = m at *
      go_wp2_with fail
      refine (K4.out).mono ?_
      rintro e w3 ⟨rfl, rfl⟩
      go_wp2_with fail
      refine (K5.out).mono ?_
      rintro e w3 ⟨ad3, cp3, rfl, hown3, hb3⟩
      go_wp2
      go_roundw
      case rel =>
        have R : j + 1 ≤ n ∧ Value.int .i64 ((j : Int) + 1) = .int .i64 ((j + 1 : Nat) : Int) ∧ Value.slice ad3 (Ln (j + 1)) cp3 = .slice ad3 (Ln (j + 1)) cp3
            ∧ w3.ownsRow w.heap.size 3 1 (.slice ad3 (Ln (j + 1)) cp3) (Ln (j + 1)) (encI (rowB low (lst f (j + 1)))) ∧ Below w.heap.size w w3 :=
          ⟨by omega, by simp, rfl, hown3, HB.out.trans hb3⟩
        first
          | exact ⟨j + 1, ad3, cp3, R⟩
          | ((repeat apply Exists.intro); exact ⟨⟨j + 1, ad3, cp3, R⟩, rfl⟩)
      case measure => simp [intOf]; omega
    · obtain rfl : j = n := by omega
      rw [HMM.out] at HY
      go_wp2
      go_ret2
      exact ⟨adr, cpr, by show Ending.returned (.tuple #[.slice adr (Ln j) cpr, .nilIface]) = _; rw [HMM.out], HY.out, HB.out⟩
end Go.Proofs.YtjklpcabnppnaaaDoor
