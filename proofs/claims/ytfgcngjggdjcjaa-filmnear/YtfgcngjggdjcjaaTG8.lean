/-
  Lemmas for the law above, joined into one text (FlK, FlEb, AlE0). No statement is proved here.
-/
import Derived.Test.YtfgcngjggdjcjaaTG6
import Derived.Test.YtfgcngjggdjcjaaTG4
import Derived.Test.YtfgcngjggdjcjaaTG7
import Derived.Deep.QuietTactic
import Derived.BigQuiet
import Derived.Deep.DeepCutAuto
import Derived.Test.YtfgcngjggdjcjaaTG2
namespace Go.Proofs.Ytfgcngjggdjcjaa
open Go.RowKit
set_option linter.unusedVariables false
set_option maxRecDepth 100000

theorem chqF_cnt {N : Nat} {P : Nat → Pc} (h : cntF N ≠ 0) : chqF N P = cntF N := by unfold chqF; rw [if_pos h]
theorem chqF_all {N : Nat} {P : Nat → Pc} (h : cntF N = 0) {j : Nat} (h1 : fstF (allP P) j = 0) (hj : j < N) (hf : allP P j ≠ 0) : chqF N P = allP P j := by
  have e := fstF_at h1 hj hf
  unfold chqF
  rw [if_neg (by omega), e, if_pos hf]
theorem chqF_sam {N : Nat} {P : Nat → Pc} (h : cntF N = 0) (h0 : fstF (allP P) N = 0) {j : Nat} (h1 : fstF (samP P) j = 0) (hj : j < N) (hf : samP P j ≠ 0) : chqF N P = samP P j := by
  have e := fstF_at h1 hj hf
  unfold chqF
  rw [if_neg (by omega), if_neg (by omega), e]
theorem chqF_none {N : Nat} {P : Nat → Pc} (h : cntF N = 0) (h0 : fstF (allP P) N = 0) (h1 : fstF (samP P) N = 0) : chqF N P = 0 := by
  unfold chqF
  rw [if_neg (by omega), if_neg (by omega), h1]

set_option maxHeartbeats 4000000 in
theorem fcheck_ok {w : World} {v : Value} {N : Nat} {P : Nat → Pc} (h : PicsIn w v N P) :
    Calls Try.prog 12 #[v] w fun e w' => e = .returned (errN (chqF N P)) ∧ Below w.heap.size w w' := by
  have K0 := hide (fun w => fcount_ok N w)
  obtain ⟨ad, cap, rfl, hc1, hc2, h3⟩ := h
  unfold maxLen at hc2
  by_cases hc : cntF N = 0
  · obtain ⟨hN1, hN6⟩ := cntF_zero.1 hc
    obtain ⟨b, o, rfl, hcs⟩ := h3 (by omega)
    have HC := hide hcs
    obtain ⟨s0, hs0⟩ := hcs 0 (by omega)
    rw [show o + 0 * 3 = o by omega] at hs0
    have HS0 := hide hs0
    have HA := hide (fun j h1 hj hf => chqF_all (N := N) (P := P) hc (j := j) h1 hj hf)
    have HS := hide (fun h0 j h1 hj hf => chqF_sam (N := N) (P := P) hc h0 (j := j) h1 hj hf)
    have HZ := hide (fun h0 h1 => chqF_none (N := N) (P := P) hc h0 h1)
    rw [hc] at K0
    clear hcs hs0 h3 hc
    go_enter Try.func12, Try.ntmps12
    go_wp2_with fail
    refine (K0.out _).mono ?_
    rintro e w1 ⟨rfl, rfl⟩
    rw [errN_zero]
    go_wp2
    go_loopw [17] (fun i wr => ∃ j : Nat, j ≤ N ∧ i = .int .i64 j ∧ Hid (fstF (allP P) j = 0) ∧ Below w.heap.size w wr) (fun i _ => N - (intOf i).toNat)
    case atStart => exact ⟨0, Nat.zero_le _, rfl, rfl, Below.refl _ _⟩
    case round =>
      obtain ⟨j, hj, rfl, HF, hb⟩ := hrel
      have HB := hide hb
      clear hb
      by_cases hlt : j < N
      · obtain ⟨s, hs⟩ := HC.out j hlt
        obtain ⟨c0, c1, c2, hi⟩ := hs.below HB.out
        have hba : Below wr.heap.size wr (wr.alloc (.cells #[.int .i64 (P j).a, .int .i64 (P j).b, s] 25)) := (Below.refl _ _).alloc (Nat.le_refl _) _
        have K := hide (pcheck_ok (P j).a (P j).b (hi.below hba))
        have HO : Hid (picF (P j).a (P j).b (P j).n (P j).f = allP P j) := rfl
        rw [HO.out] at K
        have HFj := hide (HA.out j HF.out hlt)
        have HFs := hide (fun h => fstF_go (j := j) HF.out h)
        have HBa := hide (below_two HB.out hba)
        obtain ⟨adp, cpp, rfl⟩ := slice_shape hi
        clear hs hi hba HO
        generalize allP P j = O at *
        generalize (P j).a = pa at *
        generalize (P j).b = pb at *
        go_wp2_with fail
        refine (K.out).mono ?_
        rintro e w2 ⟨rfl, hb2⟩
        have HB2 := hide (below_two HBa.out hb2)
        clear hb2 K
        by_cases hO : O = 0
        · subst hO
          rw [errN_zero]
          have HN := hide (HFs.out rfl)
          clear HFs HFj
          go_wp2
          go_roundw
          case rel => exact ⟨j + 1, by omega, by go_num, HN, HB2.out⟩
          case measure => simp [intOf]; omega
        · have HE := hide (HFj.out hO)
          have HN := hide (errN_pos hO)
          rw [HN.out]
          clear HFs HFj
          go_wp2
          go_ret
          exact ⟨by rw [HE.out, HN.out]; rfl, HB2.out⟩
      · obtain rfl : j = N := by omega
        have HH := hide (fun h1 => HZ.out HF.out h1)
        have HHS := hide (HS.out HF.out)
        clear HA HS HZ HF
        have HBo := HB
        go_wp2
        go_loopw [29] (fun i wx => ∃ k : Nat, k ≤ j ∧ i = .int .i64 k ∧ Hid (fstF (samP P) k = 0) ∧ Below w.heap.size w wx) (fun i _ => j - (intOf i).toNat)
        case atStart => exact ⟨0, Nat.zero_le _, rfl, rfl, HB.out⟩
        case round =>
          obtain ⟨k, hk, rfl, HF, hb⟩ := hrel
          have HB := hide hb
          clear hb
          by_cases hlt : k < j
          · obtain ⟨s, hs⟩ := HC.out k hlt
            obtain ⟨c0, c1, c2, hi⟩ := hs.below HB.out
            obtain ⟨d0, d1, _, _⟩ := HS0.out.below HB.out
            have hba : Below wr.heap.size wr (wr.alloc (.cells #[.int .i64 (P k).a, .int .i64 (P k).b, s] 25)) := (Below.refl _ _).alloc (Nat.le_refl _) _
            obtain ⟨⟨p0, _⟩, ⟨p1, _⟩, _, _⟩ := picIn_new wr (P k).a (P k).b s
            have hlw := hba.size
            have hp : ∀ q, Below (wr.alloc (.cells #[.int .i64 (P k).a, .int .i64 (P k).b, s] 25)).heap.size (wr.alloc (.cells #[.int .i64 (P k).a, .int .i64 (P k).b, s] 25)) ((wr.alloc (.cells #[.int .i64 (P k).a, .int .i64 (P k).b, s] 25)).drewN q) := fun q => below_drewN (Below.refl _ _) q
            have x0 := fun q => cell_below (hp q) p0
            have x1 := fun q => cell_below (hp q) p1
            have y0 := fun q => cell_below (below_drewN hba q) d0
            have y1 := fun q => cell_below (below_drewN hba q) d1
            have HFj := hide (HHS.out k HF.out hlt)
            have HFs := hide (fun h => fstF_go (j := k) HF.out h)
            have HO : Hid (samP P k = if (P k).a = (P 0).a ∧ (P k).b = (P 0).b then 0 else 3) := rfl
            have HBa := hide (below_two HB.out hba)
            have hjn : (0 : Int) < (j : Int) := by omega
            obtain ⟨adp, cpp, rfl⟩ := slice_shape hi
            clear hs hi hba hp p0 p1 d0 d1 hlw
            generalize samP P k = O at *
            generalize (P k).a = pa at *
            generalize (P k).b = pb at *
            generalize (P 0).a = qa at *
            generalize (P 0).b = qb at *
            by_cases ha : pa = qa
            · subst ha
              have n1 : (pa != pa) = false := by simp
              by_cases hb : pb = qb
              · subst hb
                have n2 : (pb != pb) = false := by simp
                rw [if_pos ⟨rfl, rfl⟩] at HO
                have HN1 := hide (HFs.out HO.out)
                clear HFs HFj HO
                go_wp2_with fail
                go_quiet (fail)
                go_wp2
                go_roundw
                case rel => exact ⟨k + 1, by omega, by go_num, HN1, below_drewN HBa.out _⟩
                case measure => simp [intOf]; omega
              · have n2 : (pb != qb) = true := by simp [bne, hb]
                rw [if_neg (fun h => hb h.2)] at HO
                have HE := hide (HFj.out (by rw [HO.out]; omega))
                clear HFs HFj hb
                go_wp2_with fail
                go_quiet (fail)
                go_wp2
                go_ret
                exact ⟨by rw [HE.out, HO.out]; rfl, below_drewN HBa.out _⟩
            · have n1 : (pa != qa) = true := by simp [bne, ha]
              rw [if_neg (fun h => ha h.1)] at HO
              have HE := hide (HFj.out (by rw [HO.out]; omega))
              clear HFs HFj ha
              go_wp2_with fail
              go_quiet (fail)
              go_wp2
              go_ret
              exact ⟨by rw [HE.out, HO.out]; rfl, below_drewN HBa.out _⟩
          · obtain rfl : k = j := by omega
            have HE := hide (HH.out HF.out)
            go_wp2
            go_ret
            exact ⟨by rw [HE.out]; rfl, HB.out⟩
  · have HE := hide (chqF_cnt (P := P) hc)
    have HN := hide (errN_pos hc)
    clear h3
    generalize cntF N = k at *
    clear hc
    go_enter Try.func12, Try.ntmps12
    go_wp2_with fail
    refine (K0.out _).mono ?_
    rintro e w1 ⟨rfl, rfl⟩
    rw [HN.out]
    go_wp2
    go_ret
    exact ⟨by rw [HE.out, HN.out]; rfl, Below.refl _ _⟩
end Go.Proofs.Ytfgcngjggdjcjaa

namespace Go.Proofs.Ytfgcngjggdjcjaa
open Go.RowKit
set_option linter.unusedVariables false
set_option maxRecDepth 100000

theorem rngF_in {ev st : Int} : rngF ev st = if (inOk ev 6 && inOk st 64) = true then 0 else 1 := by
  unfold rngF
  by_cases h : inOk ev 6 && inOk st 64
  · rw [if_pos h]
    rw [Bool.and_eq_true, inOk_iff, inOk_iff] at h
    rw [if_pos ⟨h.1.1, h.1.2, h.2.1, h.2.2⟩]
  · rw [if_neg h]
    rw [if_neg]
    intro h2
    apply h
    rw [Bool.and_eq_true, inOk_iff, inOk_iff]
    exact ⟨⟨h2.1, h2.2.1⟩, h2.2.2⟩

set_option maxHeartbeats 2000000 in
theorem fenc_bad {w : World} {v : Value} {N : Nat} {P : Nat → Pc} (ev st : Int) (h : PicsIn w v N P) (hx : enfF N P ev st ≠ 0) :
    Calls Try.prog 5 #[v, .int .i64 ev, .int .i64 st] w fun e w' => e = .returned (.tuple #[.slice none 0 0, errN (enfF N P ev st)]) ∧ Below w.heap.size w w' := by
  have K := hide (fcheck_ok h)
  obtain ⟨ad, cap, rfl, _, _, h3⟩ := h
  clear h3
  by_cases hc : chqF N P = 0
  · have HE := hide (enfF_range (ev := ev) (st := st) hc)
    rw [HE.out, rngF_in] at hx
    rw [rngF_in] at HE
    rw [hc] at K
    clear hc
    have K1 := hide (fun w => fwithin_ok ev 6 w)
    have K2 := hide (fun w => fwithin_ok st 64 w)
    cases h1 : inOk ev 6 with
    | false =>
      rw [h1, Bool.false_and, if_neg (by simp)] at HE
      rw [h1] at K1
      clear hx h1 K2
      go_enter Try.func5, Try.ntmps5
      go_wp2_with fail
      refine (K.out).mono ?_
      rintro e w1 ⟨rfl, hb1⟩
      rw [errN_zero]
      have HB := hide hb1
      clear hb1
      go_wp2_with fail
      refine (K1.out _).mono ?_
      rintro e w2 ⟨rfl, rfl⟩
      go_wp2
      go_ret2
      exact ⟨by rw [HE.out]; rfl, HB.out⟩
    | true =>
      cases h2 : inOk st 64 with
      | true => rw [h1, h2] at hx; exact absurd rfl hx
      | false =>
        rw [h1, h2, Bool.and_false, if_neg (by simp)] at HE
        rw [h1] at K1
        rw [h2] at K2
        clear hx h1 h2
        go_enter Try.func5, Try.ntmps5
        go_wp2_with fail
        refine (K.out).mono ?_
        rintro e w1 ⟨rfl, hb1⟩
        rw [errN_zero]
        have HB := hide hb1
        clear hb1
        go_wp2_with fail
        refine (K1.out _).mono ?_
        rintro e w2 ⟨rfl, rfl⟩
        go_wp2_with fail
        refine (K2.out _).mono ?_
        rintro e w2 ⟨rfl, rfl⟩
        go_wp2
        go_ret2
        exact ⟨by rw [HE.out]; rfl, HB.out⟩
  · have HE := hide (enfF_first (ev := ev) (st := st) hc)
    have HN := hide (errN_pos hc)
    generalize chqF N P = k at *
    clear hc hx
    go_enter Try.func5, Try.ntmps5
    go_wp2_with fail
    refine (K.out).mono ?_
    rintro e w1 ⟨rfl, hb1⟩
    rw [HN.out]
    have HB := hide hb1
    clear hb1
    go_wp2
    go_ret2
    exact ⟨by rw [HE.out, HN.out]; rfl, HB.out⟩
end Go.Proofs.Ytfgcngjggdjcjaa

namespace Go.Proofs.Ytfgcngjggdjcjaa
open Go.RowKit
set_option linter.unusedVariables false
set_option maxRecDepth 100000

theorem astep_ok (n : Int) (w : World) : Calls Try.prog 33 #[.int .i64 n] w fun e w' => e = .returned (.bool (stepOk n)) ∧ w = w' := by
  rcases Int.lt_or_le n 1 with h | h
  · go_enter Try.func33, Try.ntmps33
    go_wp2
    go_ret
    exact ⟨ret_bool (stepOk_not.2 (Or.inl h)).symm, rfl⟩
  · rcases Int.lt_or_le 64 n with k | k
    · go_enter Try.func33, Try.ntmps33
      go_wp2
      go_ret
      exact ⟨ret_bool (by first | exact (stepOk_not.2 (Or.inr k)).symm | (rw [Bool.eq_iff_iff, stepOk_iff, decide_eq_true_iff]; omega)), rfl⟩
    · go_enter Try.func33, Try.ntmps33
      go_wp2
      go_ret
      exact ⟨ret_bool (stepOk_iff.2 ⟨h, k⟩).symm, rfl⟩
theorem aapart_ok (n : Int) (w : World) : Calls Try.prog 41 #[.int .i64 n] w fun e w' => e = .returned (.bool (restOk n)) ∧ w = w' := by
  rcases Int.lt_or_le n (-255) with h | h
  · go_enter Try.func41, Try.ntmps41
    go_wp2
    go_ret
    exact ⟨ret_bool (restOk_not.2 (Or.inl h)).symm, rfl⟩
  · rcases Int.lt_or_le 255 n with k | k
    · go_enter Try.func41, Try.ntmps41
      go_wp2
      go_ret
      exact ⟨ret_bool (by first | exact (restOk_not.2 (Or.inr k)).symm | (rw [Bool.eq_iff_iff, restOk_iff, decide_eq_true_iff]; omega)), rfl⟩
    · go_enter Try.func41, Try.ntmps41
      go_wp2
      go_ret
      exact ⟨ret_bool (restOk_iff.2 ⟨h, k⟩).symm, rfl⟩
end Go.Proofs.Ytfgcngjggdjcjaa
