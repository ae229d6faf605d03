/-
  Lemmas for the law above, joined into one text (RRc, RBy, RRb, ByN). No statement is proved here.
-/
import Derived.Test.YtjhflcgphejddaaDoorHG5
import Derived.Test.YtjhflcgphejddaaDoorHG6
import Derived.Deep.AppendLies
import Derived.Deep.DeepCutAuto
import Derived.Laws.MakeOwn
import Derived.Maps.AppendAt
import Derived.Test.YtjhflcgphejddaaDoorHG8
import Derived.Test.YtjhflcgphejddaaDoorHG25
import Derived.Test.YtjhflcgphejddaaDoorHG23
import Derived.Test.YtjhflcgphejddaaDoorHG7
import Derived.BigRegion
import Derived.Lib.SliceRun
import Derived.Test.YtjhflcgphejddaaDoorHG22
namespace Go.Proofs.YtjhflcgphejddaaDoor
open Go.RowKit Go.Maps
set_option linter.unusedVariables false
set_option maxRecDepth 100000

theorem pow_le_128 {b low : Nat} (h : b ≤ low) (hl : low ≤ 7) : 2 ^ b ≤ 128 := Nat.le_trans (Nat.pow_le_pow_right (by omega) (show b ≤ 7 by omega)) (by decide)
theorem pow_pos2 (b : Nat) : 1 ≤ 2 ^ b := Nat.one_le_two_pow

set_option maxHeartbeats 8000000 in
theorem rrice_ok {w : World} {v : Value} {n low : Nat} {f : Nat → Int} (h : IntsIn w v n f) (hn : n ≤ 1048576) (hl : low ≤ 7) (hf : ∀ i, i < n → -255 ≤ f i ∧ f i ≤ 255) :
    Calls Tryd.prog 16 #[v, .int .i64 low] w fun e w' => ∃ ad cp, e = .returned (.slice ad (lenN low f n) cp) ∧ w'.ownsRow w.heap.size 3 1 (.slice ad (lenN low f n) cp) (lenN low f n) (encI (rowB low (lst f n))) ∧ Below w.heap.size w w' := by
  obtain ⟨i0, hi0, hz0, hz1, hz2⟩ := info_parts Tryd.infoInt
  have Hi := hide hi0
  have Hz0 := hide hz0
  have Hz1 := hide hz1
  have Hz2 := hide hz2
  have HI := hide h
  have HF := hide hf
  have HM := hide (fun j (hj : j ≤ n) => Nat.le_trans (lenN_mono (low := low) (f := f) hj) (lenN_le hl hf))
  have HLs := hide (fun j => lenN_succ low f j)
  have HRs := hide (fun j => rowB_succ low f j)
  have HL0 : Hid (lenN low f 0 = 0) := rfl
  generalize hL : lenN low f = Ln at *
  obtain ⟨av, nv, rfl⟩ : ∃ ad cp, v = .slice ad n cp := by
    rcases h with ⟨rfl, a, cap, rfl⟩ | ⟨h0, b, o, cap, rfl, hc⟩
    · exact ⟨_, _, rfl⟩
    · exact ⟨_, _, rfl⟩
  clear h hi0 hz0 hz1 hz2 hf hL
  go_enter Tryd.func16, Tryd.ntmps16
  go_wp2
  go_loopw [5, 6] (fun u i wr => ∃ (j : Nat) (ad : Option Addr) (cp : Nat), j ≤ n ∧ i = .int .i64 j ∧ u = .slice ad (Ln j) cp ∧ Hid (wr.ownsRow w.heap.size 3 1 u (Ln j) (encI (rowB low (lst f j)))) ∧ Below w.heap.size w wr) (fun _ i _ => n - (intOf i).toNat)
  case atStart => exact ⟨0, none, 0, Nat.zero_le _, rfl, by rw [HL0.out], by rw [HL0.out]; exact World.ownsRow_nil _ _ _ _, Below.refl _ _⟩
  case round =>
    obtain ⟨j, adr, cpr, hj, rfl, rfl, HY, hb⟩ := hrel
    have HB := hide hb
    have hsz := hb.size
    clear hb
    by_cases hlt : j < n
    · have HI2 := hide (HI.out.below HB.out)
      have hle := HM.out (j + 1) (by omega)
      have HQ2 := hide (HLs.out j)
      have HQ1 := hide (HRs.out j)
      rw [HLs.out] at hle
      have hr := HF.out j hlt
      have hz := zz_le hr
      obtain ⟨bb, oo, cpv, hv, hcj⟩ : ∃ bb oo cp, Value.slice av n nv = .slice (some ⟨bb, oo, none⟩) n cp ∧ wr.cell? ⟨bb, oo + j, none⟩ = some (.int .i64 (f j)) := by
        rcases HI2.out with ⟨rfl, _⟩ | ⟨h0, b, o, cap, e, hc⟩
        · omega
        · exact ⟨b, o, cap, e, hc j hlt⟩
      obtain ⟨rfl, rfl⟩ : av = some ⟨bb, oo, none⟩ ∧ nv = cpv := by cases hv; exact ⟨rfl, rfl⟩
      clear hv
      generalize rowB low (lst f j) = L at *
      generalize hm : Ln j = m at *
      clear hm
      obtain ⟨hr1, hr2⟩ := hr
      have HZ1 : Hid (f j < 0 → ((zz (f j) : Nat) : Int) = -(2 * f j) - 1) := fun h => by unfold zz; rw [if_pos h]; omega
      have HZ2 : Hid (¬ f j < 0 → ((zz (f j) : Nat) : Int) = 2 * f j) := fun h => by unfold zz; rw [if_neg h]; omega
      generalize zz (f j) = x at *
      generalize f j = y at *
      go_upto_if 26 with fail
      go_cut [7] (fun t wx => t = .int .i64 (x : Nat) ∧ wr = wx)
      case first =>
        by_cases c : y < 0
        · have e := HZ1.out c
          go_wp2
          go_meet
          exact ⟨by rw [e], rfl⟩
        · have e := HZ2.out c
          go_wp2
          go_meet
          exact ⟨by rw [e], rfl⟩
      case rest =>
        obtain ⟨rfl, rfl⟩ := hcut
        have HQ3 : Hid (bitsN low x = (List.replicate (x / 2 ^ low) 1 ++ [0]) ++ lst (lb low x) low) := rfl
        have hP := pow_le_128 (Nat.le_refl low) hl
        have hP0 := pow_pos2 low
        have HPw := hide (fun b (hb : b ≤ low) => pow_le_128 hb hl)
        clear hcj HZ1 HZ2 hr1 hr2 HF
        go_wp2
        go_loop [8, 9] (fun p b => ∃ k : Nat, k ≤ low ∧ b = .int .i64 k ∧ p = .int .i64 (2 ^ k : Nat)) (fun _ b => low - (intOf b).toNat)
        case atStart => exact ⟨0, Nat.zero_le _, rfl, rfl⟩
        case round =>
          obtain ⟨k, hk, rfl, rfl⟩ := hrel
          by_cases hkl : k < low
          · have h1 := HPw.out k (by omega)
            have HS : Hid ((2 ^ (k + 1) : Nat) = 2 * 2 ^ k) := by unfold Hid; rw [Nat.pow_succ, Nat.mul_comm]
            generalize (2 ^ k : Nat) = p at *
            go_wp2
            go_round
            case rel => exact ⟨k + 1, by omega, by go_num, by rw [HS.out]; first | rfl | (congr 1)⟩
            case measure => simp [intOf]; omega
          · obtain rfl : k = low := by omega
            have d1 : ((x : Nat) : Int) / ((2 ^ k : Nat) : Int) = ((x / 2 ^ k : Nat) : Int) := (Int.natCast_ediv _ _).symm
            have d2 : ((x : Nat) : Int).tdiv ((2 ^ k : Nat) : Int) = ((x / 2 ^ k : Nat) : Int) := by rw [Int.tdiv_eq_ediv_of_nonneg (by omega)]; exact d1
            have d3 : ¬ ((2 ^ k : Nat) : Int) = 0 := by omega
            have d4 : ((x : Nat) : Int) % ((2 ^ k : Nat) : Int) = ((x % 2 ^ k : Nat) : Int) := (Int.natCast_emod _ _).symm
            have d5 : ((x : Nat) : Int).tmod ((2 ^ k : Nat) : Int) = ((x % 2 ^ k : Nat) : Int) := by rw [Int.tmod_eq_emod_of_nonneg (by omega)]; exact d4
            have hq := Nat.div_le_self x (2 ^ k)
            have hr := Nat.mod_le x (2 ^ k)
            generalize hPP : (2 ^ k : Nat) = P at *
            generalize hqq : x / P = q at *
            generalize hrr : x % P = r at *
            have HPP := hide hPP
            have HRR := hide hrr
            clear hPP hqq hrr
            go_wp2
            go_loopw [5, 10] (fun u i wx => ∃ (d : Nat) (ad : Option Addr) (cp : Nat), d ≤ q ∧ i = .int .i64 ((q - d : Nat) : Int) ∧ u = .slice ad (m + d) cp ∧ Hid (wx.ownsRow w.heap.size 3 1 u (m + d) (encI (L ++ List.replicate d 1))) ∧ Below w.heap.size w wx) (fun _ i _ => (intOf i).toNat)
            case atStart => exact ⟨0, adr, cpr, Nat.zero_le _, by simp, rfl, hide (by simpa using HY.out), HB.out⟩
            case round =>
              obtain ⟨d, ad2, cp2, hd, rfl, rfl, HY2, hb2⟩ := hrel
              have HB2 := hide hb2
              have hsz2 := hb2.size
              clear hb2
              by_cases hdq : d < q
              · have hg : (0 : Int) < ((q - d : Nat) : Int) := by omega
                have hs1 : ((q - d : Nat) : Int) - 1 = ((q - (d + 1) : Nat) : Int) := by omega
                have hs3 : ((q - d : Nat) : Int) ≤ 1000 := by omega
                have HS2 : Hid ((intOf (.int .i64 ((q - (d + 1) : Nat) : Int))).toNat < (intOf (.int .i64 ((q - d : Nat) : Int))).toNat) := by unfold Hid; simp [intOf]; omega
                generalize hA : ((q - d : Nat) : Int) = A at *
                generalize hA2 : ((q - (d + 1) : Nat) : Int) = A2 at *
                have HA2 := hide hA2
                clear hA hA2
                go_wp2_with (at_builtin; refine wpList_append_lies _ rfl _ _ 36 rfl w.heap.size 3 i0 (.int .i64 0) 1 8 Tryd.underlying36 Hi.out Hz0.out Hz1.out Hz2.out rfl (by decide) _ _ _ rfl (HY2.out.alloc _) ⟨wr.heap.size, 0, none⟩ 1 1 [.int .i64 1] rfl rfl (cell_one_new _ _ _) (fun x hx => by simp at hx; subst hx; rfl) (by decide) (by unfold maxLen; omega) (by omega) (by simp; omega) _ rfl ?_; intro g3 cap3 w5 hown3 hgrow3 hat3 hlt3)
                go_roundw
                case rel =>
                  have hB5 : Below w.heap.size wr w5 := ((Below.refl w.heap.size wr).alloc hsz2 _).grown hgrow3 (by simp; omega) (fun q hq => (HY2.out.lt q hq).1)
                  have R : d + 1 ≤ q ∧ Value.int .i64 A2 = .int .i64 ((q - (d + 1) : Nat) : Int) ∧ Value.slice (some ⟨g3, 0, none⟩) (m + d + 1) cap3 = .slice (some ⟨g3, 0, none⟩) (m + (d + 1)) cap3
                      ∧ Hid (w5.ownsRow w.heap.size 3 1 (.slice (some ⟨g3, 0, none⟩) (m + d + 1) cap3) (m + (d + 1)) (encI (L ++ List.replicate (d + 1) 1))) ∧ Below w.heap.size w w5 :=
                    ⟨by omega, by rw [HA2.out], rfl, hide (by rw [List.replicate_succ', ← List.append_assoc, encI_snoc]; exact hown3), HB2.out.trans hB5⟩
                  first
                    | exact ⟨d + 1, some ⟨g3, 0, none⟩, cap3, R⟩
                    | ((repeat apply Exists.intro); exact ⟨⟨d + 1, some ⟨g3, 0, none⟩, cap3, R⟩, rfl⟩)
                case measure => exact HS2.out
              · obtain rfl : d = q := by omega
                have e0 : ((d - d : Nat) : Int) = 0 := by omega
                rw [e0]
                go_wp2_with (at_builtin; refine wpList_append_lies _ rfl _ _ 36 rfl w.heap.size 3 i0 (.int .i64 0) 1 8 Tryd.underlying36 Hi.out Hz0.out Hz1.out Hz2.out rfl (by decide) _ _ _ rfl (HY2.out.alloc _) ⟨wr.heap.size, 0, none⟩ 1 1 [.int .i64 0] rfl rfl (cell_one_new _ _ _) (fun x hx => by simp at hx; subst hx; rfl) (by decide) (by unfold maxLen; omega) (by omega) (by simp; omega) _ rfl ?_; intro g3 cap3 w5 hown3 hgrow3 hat3 hlt3)
                have hB5 : Below w.heap.size wr w5 := ((Below.refl w.heap.size wr).alloc hsz2 _).grown hgrow3 (by simp; omega) (fun q hq => (HY2.out.lt q hq).1)
                have HX5 : Hid (w5.ownsRow w.heap.size 3 1 (.slice (some ⟨g3, 0, none⟩) (m + d + 1) cap3) (m + d + 1) (encI (L ++ (List.replicate d 1 ++ [0])))) := by
                  unfold Hid; rw [← List.append_assoc, encI_snoc]; exact hown3
                have HB5 := hide (HB2.out.trans hB5)
                clear hown3 hgrow3 hat3 hlt3 hB5
                have hsz5 := HB5.out.size
                clear HY2 HB2 hsz2
                rw [← HRR.out, ← HPP.out]
                go_loopw [5, 7, 8] (fun u t p wx => ∃ (i : Nat) (ad : Option Addr) (cp : Nat), i ≤ k ∧ p = .int .i64 (2 ^ (k - i) : Nat) ∧ t = .int .i64 (x % 2 ^ (k - i) : Nat) ∧ u = .slice ad (m + d + 1 + i) cp ∧ Hid (wx.ownsRow w.heap.size 3 1 u (m + d + 1 + i) (encI (L ++ ((List.replicate d 1 ++ [0]) ++ lst (lb k x) i)))) ∧ Below w.heap.size w wx) (fun _ _ p _ => (intOf p).toNat)
                case atStart => exact ⟨0, some ⟨g3, 0, none⟩, cap3, Nat.zero_le _, rfl, rfl, rfl, by rw [lst_zero, List.append_nil]; exact HX5.out, HB5.out⟩
                case round =>
                  obtain ⟨i, ad6, cp6, hi, rfl, rfl, rfl, HY6, hb6⟩ := hrel
                  have HB6 := hide hb6
                  have hsz6 := hb6.size
                  clear hb6
                  by_cases hik : i < k
                  · have eS : k - i = (k - (i + 1)) + 1 := by omega
                    have hlb := lb_step (low := k) (x := x) hik
                    rw [show k - 1 - i = k - (i + 1) by omega] at hlb
                    have hp1 := pow_pos2 (k - (i + 1))
                    have hp2 := HPw.out (k - i) (by omega)
                    have h2p : (2 ^ (k - i) : Nat) = 2 * 2 ^ (k - (i + 1)) := by rw [eS, Nat.pow_succ, Nat.mul_comm]
                    have hmm : x % 2 ^ (k - i) % 2 ^ (k - (i + 1)) = x % 2 ^ (k - (i + 1)) := Nat.mod_mod_of_dvd _ (by rw [h2p]; exact Nat.dvd_mul_left _ _)
                    have HS6 := hide (lst_succ (lb k x) i)
                    have hxr := Nat.mod_le x (2 ^ (k - i))
                    generalize (2 ^ (k - i) : Nat) = P1 at *
                    generalize hPn : (2 ^ (k - (i + 1)) : Nat) = P2 at *
                    have HPn := hide hPn
                    generalize hX1 : x % P1 = X1 at *
                    generalize hX2 : x % P2 = X2 at *
                    have HX2 := hide hX2
                    have q1 : ((P1 : Nat) : Int) / 2 = (P2 : Nat) := by omega
                    have q2 : ((P1 : Nat) : Int).tdiv 2 = (P2 : Nat) := by rw [Int.tdiv_eq_ediv_of_nonneg (by omega)]; exact q1
                    have q3 : ((X1 : Nat) : Int) / ((P2 : Nat) : Int) = lb k x i := by rw [hlb, Int.natCast_ediv]
                    have q4 : ((X1 : Nat) : Int).tdiv ((P2 : Nat) : Int) = lb k x i := by rw [Int.tdiv_eq_ediv_of_nonneg (by omega)]; exact q3
                    have q5 : ((X1 : Nat) : Int) % ((P2 : Nat) : Int) = (X2 : Nat) := by rw [← hmm, Int.natCast_emod]
                    have q6 : ((X1 : Nat) : Int).tmod ((P2 : Nat) : Int) = (X2 : Nat) := by rw [Int.tmod_eq_emod_of_nonneg (by omega)]; exact q5
                    have q7 : ¬ ((P2 : Nat) : Int) = 0 := by omega
                    have hz01 := lb_in k x i
                    have hz0 : 0 ≤ lb k x i := by omega
                    have hz1 : lb k x i ≤ 1 := by omega
                    have HM6 : Hid ((intOf (.int .i64 (P2 : Nat))).toNat < (intOf (.int .i64 (P1 : Nat))).toNat) := by unfold Hid; simp [intOf]; omega
                    have hP1 : P1 ≤ 128 := hp2
                    have hX2l : X2 ≤ 510 := by have := Nat.mod_le x P2; omega
                    generalize lb k x i = z at *
                    clear hPn hX1 hX2 hmm hlb h2p hz01 eS hp2
                    go_wp2_with (at_builtin; refine wpList_append_lies _ rfl _ _ 36 rfl w.heap.size 3 i0 (.int .i64 0) 1 8 Tryd.underlying36 Hi.out Hz0.out Hz1.out Hz2.out rfl (by decide) _ _ _ rfl (HY6.out.alloc _) ⟨wr.heap.size, 0, none⟩ 1 1 [.int .i64 z] rfl rfl (cell_one_new _ _ _) (fun x hx => by simp at hx; subst hx; rfl) (by decide) (by unfold maxLen; omega) (by omega) (by simp; omega) _ rfl ?_; intro g7 cap7 w7 hown7 hgrow7 hat7 hlt7)
                    go_roundw
                    case rel =>
                      have hB7 : Below w.heap.size wr w7 := ((Below.refl w.heap.size wr).alloc hsz6 _).grown hgrow7 (by simp; omega) (fun q hq => (HY6.out.lt q hq).1)
                      have R : i + 1 ≤ k ∧ Value.int .i64 (P2 : Nat) = .int .i64 (2 ^ (k - (i + 1)) : Nat) ∧ Value.int .i64 (X2 : Nat) = .int .i64 (x % 2 ^ (k - (i + 1)) : Nat) ∧ Value.slice (some ⟨g7, 0, none⟩) (m + d + 1 + i + 1) cap7 = .slice (some ⟨g7, 0, none⟩) (m + d + 1 + (i + 1)) cap7
                          ∧ Hid (w7.ownsRow w.heap.size 3 1 (.slice (some ⟨g7, 0, none⟩) (m + d + 1 + i + 1) cap7) (m + d + 1 + (i + 1)) (encI (L ++ ((List.replicate d 1 ++ [0]) ++ lst (lb k x) (i + 1))))) ∧ Below w.heap.size w w7 :=
                        ⟨by omega, by rw [HPn.out], by rw [HPn.out, HX2.out], rfl, hide (by rw [HS6.out, ← List.append_assoc, ← List.append_assoc, encI_snoc, List.append_assoc]; exact hown7), HB6.out.trans hB7⟩
                      first
                        | exact ⟨i + 1, some ⟨g7, 0, none⟩, cap7, R⟩
                        | ((repeat apply Exists.intro); exact ⟨⟨i + 1, some ⟨g7, 0, none⟩, cap7, R⟩, rfl⟩)
                    case measure => exact HM6.out
                  · obtain rfl : i = k := by omega
                    have e1 : i - i = 0 := by omega
                    rw [e1]
                    have e2 : (2 ^ 0 : Nat) = 1 := rfl
                    rw [e2]
                    have e3 : x % 1 = 0 := Nat.mod_one x
                    rw [e3]
                    have HE : Hid (m + d + 1 + i = Ln (j + 1)) := by unfold Hid; rw [HQ2.out]; omega
                    rw [HE.out] at HY6
                    have HW : Hid (encI (L ++ ((List.replicate d 1 ++ [0]) ++ lst (lb i x) i)) = encI (rowB i (lst f (j + 1)))) := by unfold Hid; rw [HQ1.out, HQ3.out]
                    rw [HE.out]
                    go_wp2
                    go_roundw
                    case rel =>
                      have R : j + 1 ≤ n ∧ Value.int .i64 ((j : Int) + 1) = .int .i64 ((j + 1 : Nat) : Int) ∧ Value.slice ad6 (Ln (j + 1)) cp6 = .slice ad6 (Ln (j + 1)) cp6
                          ∧ Hid (wr.ownsRow w.heap.size 3 1 (.slice ad6 (Ln (j + 1)) cp6) (Ln (j + 1)) (encI (rowB i (lst f (j + 1))))) ∧ Below w.heap.size w wr :=
                        ⟨by omega, by simp, rfl, hide (by rw [← HW.out]; exact HY6.out), HB6.out⟩
                      first
                        | exact ⟨j + 1, ad6, cp6, R⟩
                        | ((repeat apply Exists.intro); exact ⟨⟨j + 1, ad6, cp6, R⟩, rfl⟩)
                    case measure => simp [intOf]; omega
    · obtain rfl : j = n := by omega
      go_wp2
      go_ret
      exact ⟨adr, cpr, rfl, HY.out, HB.out⟩
end Go.Proofs.YtjhflcgphejddaaDoor

namespace Go.Proofs.YtjhflcgphejddaaDoor
open Go.RowKit Go.Maps
set_option linter.unusedVariables false
set_option maxRecDepth 100000

theorem octs_lt {L : List Int} {q : Nat} : q < octs L ↔ 8 * q < L.length := by unfold octs; omega

set_option maxHeartbeats 8000000 in
theorem rbytes_ok {w : World} {v : Value} {N : Nat} {C : Nat → Cd} (a b st : Int) (h : CodsIn w v N C) (hx : seeF a b st N C = 0) :
    Calls Tryd.prog 6 #[.int .i64 a, .int .i64 b, .int .i64 st, v] w fun e w' => e = .returned (.tuple #[.string (bytS a b st N C), .int .i64 (bytF a b st N C : Nat)]) ∧ Below w.heap.size w w' := by
  have K := hide (rseen_any a b st h)
  obtain ⟨ad, cap, rfl, _, _, h3⟩ := h
  obtain ⟨A, B, o⟩ := see_ok hx
  have h1N := o.one
  have h6N := o.six
  obtain ⟨bb, og, rfl, hc⟩ := h3 (by omega)
  have HC := hide hc
  have HBb : Hid (bb < w.heap.size) := by obtain ⟨s9, h9⟩ := hc 0 (by omega); exact cell_lt h9.1
  have HO := hide o
  have HX := hide hx
  have ha : 1 ≤ a ∧ a ≤ 6 := by have := o.wide; have := o.w1; have := o.w6; omega
  have hb : 1 ≤ b ∧ b ≤ 6 := by have := o.high; have := o.h1; have := o.h6; omega
  have hs : 1 ≤ st ∧ st ≤ 64 := ⟨o.s1, o.s2⟩
  have HLen := hide (fun i (hi : i ≤ N) => flmB_len (C := C) o.le (N := i) (fun j hj => o.each j (by omega)))
  have HIn := hide (flmB_in o.each)
  have HSt := hide (flmB_step C)
  have HF : Hid (bytF a b st N C = if 116 < octs (flmB C N) then 4 else 0) := by unfold Hid bytF; rw [if_neg (by omega)]
  have HS : Hid (¬ 116 < octs (flmB C N) → bytS a b st N C = bytT a b st N (flmB C N)) := fun hc => by unfold bytS; rw [if_pos (by rw [HF.out, if_neg hc])]
  have HS4 : Hid (116 < octs (flmB C N) → bytS a b st N C = ByteArray.empty) := fun hc => by unfold bytS; rw [if_neg (by rw [HF.out, if_pos hc]; simp)]
  obtain ⟨i0, hi0, hz0, hz1, hz2⟩ := info_parts Tryd.infoInt
  obtain ⟨i1, hi1, hy0, hy1, hy2⟩ := info_parts Tryd.infoU8
  have Hi := hide hi0
  have Hz0 := hide hz0
  have Hz1 := hide hz1
  have Hz2 := hide hz2
  have Hj := hide hi1
  have Hy0 := hide hy0
  have Hy1 := hide hy1
  have Hy2 := hide hy2
  generalize bytF a b st N C = BF at *
  generalize bytS a b st N C = BS at *
  have HL0 : Hid (encI (flmB C 0) = []) := rfl
  have HL00 : Hid ((flmB C 0).length = 0) := rfl
  clear hc h3 hx o hi0 hz0 hz1 hz2 hi1 hy0 hy1 hy2
  go_enter Tryd.func6, Tryd.ntmps6
  go_wp2_with fail
  refine (K.out).mono ?_
  rintro e w1 ⟨h9, hb1⟩
  obtain ⟨_, u9, rfl, _⟩ := h9.resolve_left (fun q => q.1 HX.out)
  have HB1 := hide hb1
  clear hb1 h9 K HX
  go_wp2
  go_loopw [12, 13] (fun u i wr => ∃ (j : Nat) (adu : Option Addr) (cpu : Nat), j ≤ N ∧ i = .int .i64 j ∧ u = .slice adu (flmB C j).length cpu ∧ Hid (wr.ownsRow w1.heap.size 3 1 u (flmB C j).length (encI (flmB C j))) ∧ Hid (Below w1.heap.size w1 wr)) (fun _ i _ => N - (intOf i).toNat)
  case atStart => exact ⟨0, none, 0, Nat.zero_le _, rfl, rfl, by unfold Hid; rw [HL0.out, HL00.out]; exact World.ownsRow_nil _ _ _ _, Below.refl _ _⟩
  case round =>
    obtain ⟨j, adu, cpu, hj, rfl, rfl, HR, HB⟩ := hrel
    have BW := hide (below_two HB1.out HB.out)
    by_cases hlt : j < N
    · obtain ⟨s, hs9⟩ := HC.out j hlt
      obtain ⟨e0, e1, e2, e3, hi⟩ := hs9.below BW.out
      have ok := HO.out.each j hlt
      have hx := ok.x
      have hy := ok.y
      have hle := HO.out.le
      have hn := ok.n
      have hl := HLen.out j (by omega)
      have hl2 : (flmB C j).length ≤ 111918 := by
        have := Nat.mul_le_mul hlt (Nat.le_refl 18653)
        omega
      have HSj := hide (HSt.out j)
      have hhd : Hid (hdB (C j) = if (C j).al = true then [1] else [0, ((C j).x + 1) / 2, ((C j).x + 1) % 2, ((C j).y + 1) / 2, ((C j).y + 1) % 2]) := rfl
      have HCo : Hid (codB (C j) = hdB (C j) ++ rowB 2 (lst (C j).f (C j).n)) := rfl
      have HI := hide hs9.2.2.2.2
      have HE3 := hide hs9.2.2.2.1
      have HRs := hide (fun i (hi : i < (C j).n) => ok.f i (by rw [← hn]; exact hi))
      have hn1 : 1 ≤ (C j).n := by have := HO.out.pos; omega
      have hn36 : (C j).n ≤ 36 := by omega
      have HLr := hide (rowB_len 2 (C j).f (C j).n)
      have HLg := hide (lenN_ge (low := 2) (f := (C j).f) (C j).n)
      have HLl := hide (lenN_le (low := 2) (f := (C j).f) (by omega) (n := (C j).n) HRs.out)
      obtain ⟨ads, cps, rfl⟩ := slice_shape hi
      clear hs9 hi ok hle hn hl
      generalize (C j).al = al at *
      generalize (C j).x = X at *
      generalize (C j).y = Y at *
      generalize (C j).n = n at *
      generalize (C j).f = f at *
      generalize hdB (C j) = H at *
      generalize codB (C j) = D at *
      generalize hL2 : flmB C (j + 1) = L2 at *
      have HL2 := hide hL2
      clear hL2
      generalize flmB C j = L at *
      have hszr := HB.out.size
      go_upto_if 41 with fail
      go_cut [12] (fun u wx => ∃ adx cpx, u = .slice adx (L.length + H.length) cpx ∧ Hid (wx.ownsRow w1.heap.size 3 1 u (L.length + H.length) (encI (L ++ H))) ∧ Hid (Below w1.heap.size wr wx) ∧ Hid (H.length ≤ 5))
      case first =>
        cases al with
        | true =>
          rw [if_pos rfl] at hhd
          obtain rfl := hhd.out
          go_wp2_with (at_builtin; refine wpList_append_lies _ rfl _ _ 36 rfl w1.heap.size 3 i0 (.int .i64 0) 1 8 Tryd.underlying36 Hi.out Hz0.out Hz1.out Hz2.out rfl (by decide) _ _ _ rfl (HR.out.alloc _) ⟨wr.heap.size, 0, none⟩ 1 1 [.int .i64 1] rfl rfl (cell_one_new _ _ _) (fun x hx => by simp at hx; subst hx; rfl) (by decide) (by unfold maxLen; omega) (by omega) (by simp; omega) _ rfl ?_; intro g3 cap3 w5 hown3 hgrow3 hat3 hlt3)
          go_meet
          have hB5 : Below w1.heap.size wr w5 := ((Below.refl w1.heap.size wr).alloc (by omega) _).grown hgrow3 (by simp; omega) (fun q hq => (HR.out.lt q hq).1)
          exact ⟨_, _, rfl, by unfold Hid; rw [encI_snoc]; exact hown3, hB5, by unfold Hid; simp⟩
        | false =>
          rw [if_neg (by simp)] at hhd
          obtain rfl := hhd.out
          have d1 : (X + 1).tdiv 2 = (X + 1) / 2 := Int.tdiv_eq_ediv_of_nonneg (by omega)
          have d2 : (X + 1).tmod 2 = (X + 1) % 2 := Int.tmod_eq_emod_of_nonneg (by omega)
          have d3 : (Y + 1).tdiv 2 = (Y + 1) / 2 := Int.tdiv_eq_ediv_of_nonneg (by omega)
          have d4 : (Y + 1).tmod 2 = (Y + 1) % 2 := Int.tmod_eq_emod_of_nonneg (by omega)
          have x0 : IntKind.i64.wrap (X + 1) = X + 1 := by rw [IntKind.wrap_i64]; omega
          have y0 : IntKind.i64.wrap (Y + 1) = Y + 1 := by rw [IntKind.wrap_i64]; omega
          have w1' : IntKind.i64.wrap ((X + 1) / 2) = (X + 1) / 2 := by rw [IntKind.wrap_i64]; omega
          have w2' : IntKind.i64.wrap ((X + 1) % 2) = (X + 1) % 2 := by rw [IntKind.wrap_i64]; omega
          have w3' : IntKind.i64.wrap ((Y + 1) / 2) = (Y + 1) / 2 := by rw [IntKind.wrap_i64]; omega
          have w4' : IntKind.i64.wrap ((Y + 1) % 2) = (Y + 1) % 2 := by rw [IntKind.wrap_i64]; omega
          generalize (X + 1) / 2 = x1 at *
          generalize (X + 1) % 2 = x2 at *
          generalize (Y + 1) / 2 = y1 at *
          generalize (Y + 1) % 2 = y2 at *
          go_wp2_with (at_builtin; refine wpList_append_lies _ rfl _ _ 36 rfl w1.heap.size 3 i0 (.int .i64 0) 1 8 Tryd.underlying36 Hi.out Hz0.out Hz1.out Hz2.out rfl (by decide) _ _ _ rfl (HR.out.alloc _) ⟨wr.heap.size, 0, none⟩ 5 5 [.int .i64 0, .int .i64 x1, .int .i64 x2, .int .i64 y1, .int .i64 y2] rfl rfl (World.news_of_block (cs := #[.int .i64 0, .int .i64 x1, .int .i64 x2, .int .i64 y1, .int .i64 y2]) (t := 3) (fr := (0, 0)) (heap_alloc_new wr _)) (fun x hx => by simp at hx; rcases hx with rfl | rfl | rfl | rfl | rfl <;> rfl) (by decide) (by unfold maxLen; omega) (by omega) (by simp; omega) _ rfl ?_; intro g3 cap3 w5 hown3 hgrow3 hat3 hlt3)
          go_meet
          have hB5 : Below w1.heap.size wr w5 := ((Below.refl w1.heap.size wr).alloc (by omega) _).grown hgrow3 (by simp; omega) (fun q hq => (HR.out.lt q hq).1)
          have e9 : encI (L ++ [0, x1, x2, y1, y2]) = encI L ++ [.int .i64 0, .int .i64 x1, .int .i64 x2, .int .i64 y1, .int .i64 y2] := by simp [encI]
          exact ⟨_, _, rfl, by unfold Hid; rw [e9]; exact hown3, hB5, by unfold Hid; simp⟩
      case rest =>
        obtain ⟨adx, cpx, rfl, HRx, HBx, hH5⟩ := hcut
        have BX : Hid (Below w1.heap.size w1 wc) := HB.out.trans HBx.out
        have BXw := hide (below_two HB1.out BX.out)
        have c3 := cell_below BXw.out HE3.out
        have hiX := HI.out.below BXw.out
        have K := hide (rrice_ok (low := 2) hiX (by omega) (by omega) HRs.out)
        have hln : lenN 2 f n ≤ 18648 := by have := HLl.out; omega
        have hlg : 1 ≤ lenN 2 f n := by have := HLg.out; omega
        have HDe : Hid (encI L2 = encI (L ++ H) ++ encI (rowB 2 (lst f n))) := by
          unfold Hid; rw [HSj.out, HCo.out, ← List.append_assoc]; simp [encI]
        have HDl : Hid (L2.length = L.length + H.length + lenN 2 f n) := by
          unfold Hid; rw [HSj.out, HCo.out, List.length_append, List.length_append, HLr.out]; omega
        have hel : (encI (rowB 2 (lst f n))).length = lenN 2 f n := by rw [encI_len, HLr.out]
        have HEl := hide hel
        have hszx := HBx.out.size
        have h5 := hH5.out
        clear hiX e0 e1 e2 e3 hel
        generalize rowB 2 (lst f n) = RB at *
        generalize lenN 2 f n = M at *
        go_wp2_with fail
        refine (K.out).mono ?_
        rintro e w2 ⟨ad2, cp2, rfl, ho2, hb2⟩
        obtain ⟨g2, cap2, hge⟩ := Joins.ownsRow_form ho2 (by omega)
        obtain ⟨rfl, rfl⟩ : ad2 = some ⟨g2, 0, none⟩ ∧ cp2 = cap2 := by cases hge; exact ⟨rfl, rfl⟩
        have HO2 := hide ho2
        have HN2 := hide (World.ownsRow.cells ho2 (g := g2) rfl)
        have HRx2 := hide (own_below HRx.out hb2)
        have HB2 : Hid (Below w1.heap.size wr w2) := HBx.out.trans (hb2.mono (by omega))
        have hsz2 := hb2.size
        clear ho2 hb2 hge K c3
        go_wp2_with (at_builtin; refine wpList_append_lies _ rfl _ _ 36 rfl w1.heap.size 3 i0 (.int .i64 0) 1 8 Tryd.underlying36 Hi.out Hz0.out Hz1.out Hz2.out rfl (by decide) _ _ _ rfl HRx2.out ⟨g2, 0, none⟩ M cp2 (encI RB) rfl (by rw [HEl.out]; omega) HN2.out (fun x hx => by simp [encI] at hx; obtain ⟨q, _, rfl⟩ := hx; rfl) (by omega) (by unfold maxLen; omega) (by omega) (by omega) _ rfl ?_; intro g3 cap3 w5 hown3 hgrow3 hat3 hlt3)
        go_roundw
        case rel =>
          have hB5 : Below w1.heap.size w2 w5 := (Below.refl w1.heap.size w2).grown hgrow3 (by omega) (fun q hq => (HRx2.out.lt q hq).1)
          have R : j + 1 ≤ N ∧ Value.int .i64 ((j : Int) + 1) = .int .i64 ((j + 1 : Nat) : Int) ∧ Value.slice (some ⟨g3, 0, none⟩) (L.length + H.length + M) cap3 = .slice (some ⟨g3, 0, none⟩) L2.length cap3 ∧ Hid (w5.ownsRow w1.heap.size 3 1 (.slice (some ⟨g3, 0, none⟩) (L.length + H.length + M) cap3) L2.length (encI L2)) ∧ Hid (Below w1.heap.size w1 w5) :=
            ⟨by omega, by simp, by rw [HDl.out], by unfold Hid; rw [HDl.out, HDe.out]; exact hown3, (HB.out.trans HB2.out).trans hB5⟩
          first
            | (refine ⟨j + 1, some ⟨g3, 0, none⟩, cap3, ?_⟩; rw [HL2.out]; exact R)
            | (refine ⟨_, ⟨j + 1, some ⟨g3, 0, none⟩, cap3, ?_⟩, rfl⟩; rw [HL2.out]; exact R)
        case measure => simp [intOf]; omega
    · obtain rfl : j = N := by omega
      have hl := HLen.out j (Nat.le_refl _)
      have hl2 : (flmB C j).length ≤ 111918 := by
        have := Nat.mul_le_mul h6N (Nat.le_refl 18653)
        omega
      generalize flmB C j = L at *
      have u1 : IntKind.u8.wrap a = a := by rw [IntKind.wrap_u8]; omega
      have u2 : IntKind.u8.wrap b = b := by rw [IntKind.wrap_u8]; omega
      have u3 : IntKind.u8.wrap st = st := by rw [IntKind.wrap_u8]; omega
      have u4 : IntKind.u8.wrap (j : Int) = (j : Int) := by rw [IntKind.wrap_u8]; omega
      have hszr := HB.out.size
      have HG1 : Hid (∀ b ∈ L, b = 0 ∨ b = 1) := HIn.out
      have HGL : Hid (IntsIn wr (.slice adu L.length cpu) L.length (fun k => L.getD k 0)) := rowV_in HR.out rfl
      have HOB : Hid (∀ k, (Value.slice adu L.length cpu).ownBlock = some k → k < wr.heap.size) := fun k e => (HR.out.lt k e).2
      have HO4 : Hid ((wr.alloc (.cells #[.int .u8 a, .int .u8 b, .int .u8 st, .int .u8 (j : Int)] 5)).ownsRow wr.heap.size 5 1 (.slice (some ⟨wr.heap.size, 0, none⟩) (4 + 0) 4) (4 + 0) (encU (4 + 0) (byU a b st j L))) := by
        have h9 := own_lit (e := 5) wr (B := wr.heap.size) #[.int .u8 a, .int .u8 b, .int .u8 st, .int .u8 (j : Int)] (Nat.le_refl _) (by simp [maxLen])
        have q0 : ((byU a b st j L 0).toNat : Int) = a := by show (((UInt8.ofNat a.toNat).toNat : Nat) : Int) = a; rw [u8_of (by omega)]; omega
        have q1 : ((byU a b st j L 1).toNat : Int) = b := by show (((UInt8.ofNat b.toNat).toNat : Nat) : Int) = b; rw [u8_of (by omega)]; omega
        have q2 : ((byU a b st j L 2).toNat : Int) = st := by show (((UInt8.ofNat st.toNat).toNat : Nat) : Int) = st; rw [u8_of (by omega)]; omega
        have q3 : ((byU a b st j L 3).toNat : Int) = (j : Int) := by show (((UInt8.ofNat j).toNat : Nat) : Int) = j; rw [u8_of (by omega)]
        have e4 : encU 4 (byU a b st j L) = [.int .u8 a, .int .u8 b, .int .u8 st, .int .u8 (j : Int)] := by
          rw [encU_snoc, encU_snoc, encU_snoc, encU_snoc, q0, q1, q2, q3]; rfl
        unfold Hid
        rw [Nat.add_zero, e4]
        exact h9
      have hal := (Below.refl wr.heap.size wr).alloc (Nat.le_refl _) (.cells #[.int .u8 a, .int .u8 b, .int .u8 st, .int .u8 (j : Int)] 5)
      have HG4 := hide (HGL.out.below hal)
      have HB4 := hide (below_two BW.out hal)
      have HZ4 : Hid (wr.heap.size ≤ (wr.alloc (.cells #[.int .u8 a, .int .u8 b, .int .u8 st, .int .u8 (j : Int)] 5)).heap.size) := hal.size
      have HWB : Hid (w.heap.size ≤ wr.heap.size) := BW.out.size
      have HUq : Hid (∀ q, ((byU a b st j L (4 + q)).toNat : Int) = (octN L q : Int)) := fun q => by
        unfold byU
        rw [if_neg (by omega), if_neg (by omega), if_neg (by omega), if_neg (by omega), show 4 + q - 4 = q by omega, u8_of (octN_lt HG1.out q)]
      have HO8 := hide (octN_lt HG1.out)
      have HTe : Hid (bytT a b st j L = bytesB (4 + octs L) (byU a b st j L)) := rfl
      clear hal HR BW HB
      go_wp2
      generalize wr.heap.size = B2 at *
      generalize byU a b st j L = U at *
      go_loopw [16, 17] (fun u i wx => ∃ (q : Nat) (adx : Option Addr) (cpx : Nat), q ≤ octs L ∧ i = .int .i64 ((8 * q : Nat) : Int) ∧ u = .slice adx (4 + q) cpx ∧ Hid (wx.ownsRow B2 5 1 u (4 + q) (encU (4 + q) U)) ∧ Hid (IntsIn wx (.slice adu L.length cpu) L.length (fun k => L.getD k 0)) ∧ Hid (B2 ≤ wx.heap.size) ∧ Hid (Below w.heap.size w wx)) (fun _ i _ => L.length + 8 - (intOf i).toNat)
      case atStart => exact ⟨0, _, _, Nat.zero_le _, rfl, rfl, HO4, HG4, HZ4, HB4⟩
      case round =>
        obtain ⟨q, adx, cpx, hq, rfl, rfl, HRo, HGr, HZr, HBr⟩ := hrel
        clear HG4 HZ4 HB4 HO4 HGL
        by_cases hql : q < octs L
        · have hq8 := octs_lt.1 hql
          have h8q : 8 * q ≤ 111918 := by omega
          have hqb : q ≤ 13990 := by omega
          have hsr := HZr.out
          have HV := hide (fun t => valN_succ (fun k => L.getD k 0) (8 * q) 0 t)
          have HVl := hide (fun t (ht : t ≤ 8) => (valN_lt (g := fun k => L.getD k 0) (p := 8 * q) (v := 0) (k := t) (fun i _ => bits_getD HG1.out _)).2)
          have HV8 : Hid (valN (fun k => L.getD k 0) (8 * q) 0 8 = octN L q) := rfl
          have HV0 : Hid (valN (fun k => L.getD k 0) (8 * q) 0 0 = 0) := rfl
          have hbig : ∀ t, t ≤ 8 → 2 ^ t ≤ 256 := fun t ht => Nat.le_trans (Nat.pow_le_pow_right (by omega) ht) (by decide)
          have HBg := hide hbig
          have hUq := HUq.out q
          have hlt8 := HO8.out q
          have HUQ := hide hUq
          clear hbig hUq
          generalize hVV : valN (fun k => L.getD k 0) (8 * q) 0 = VV at *
          clear hVV
          have h8i : IntKind.i64.wrap (((8 * q : Nat) : Int) + 8) = ((8 * q : Nat) : Int) + 8 := by rw [IntKind.wrap_i64]; omega
          generalize h8 : 8 * q = q8 at *
          have H8 := hide h8
          clear h8
          go_wp2
          go_loop [18, 19] (fun n k => ∃ t : Nat, t ≤ 8 ∧ k = .int .i64 ((q8 + t : Nat) : Int) ∧ n = .int .i64 ((VV t : Nat) : Int)) (fun _ k => q8 + 8 - (intOf k).toNat)
          case atStart => exact ⟨0, by omega, by simp, by rw [HV0.out]; rfl⟩
          case round =>
            obtain ⟨t, ht, rfl, rfl⟩ := hrel
            by_cases ht8 : t < 8
            · have hvb := HVl.out t ht
              have hpw := HBg.out t ht
              have hvs := HV.out t
              have hv1 : VV t < 256 := by omega
              have hw1 : IntKind.i64.wrap (2 * ((VV t : Nat) : Int)) = 2 * ((VV t : Nat) : Int) := by rw [IntKind.wrap_i64]; omega
              by_cases hin : q8 + t < L.length
              · obtain ⟨bL, oL, cL, hLe, hLc⟩ : ∃ b o c, Value.slice adu L.length cpu = .slice (some ⟨b, o, none⟩) L.length c ∧ ∀ i, i < L.length → wr.cell? ⟨b, o + i, none⟩ = some (.int .i64 (L.getD i 0)) := by
                  rcases HGr.out with ⟨h, _⟩ | ⟨_, b, o, c, e, hc⟩
                  · omega
                  · exact ⟨_, _, _, e, hc⟩
                obtain ⟨rfl, rfl⟩ : adu = some ⟨bL, oL, none⟩ ∧ cpu = cL := by cases hLe; exact ⟨rfl, rfl⟩
                have hcz := hLc _ hin
                have hz := bits_getD HG1.out (q8 + t)
                obtain ⟨z, hze, hz1⟩ : ∃ z : Nat, L.getD (q8 + t) 0 = (z : Int) ∧ z ≤ 1 := by
                  rcases hz with h | h
                  · exact ⟨0, by rw [h]; rfl, by omega⟩
                  · exact ⟨1, by rw [h]; rfl, by omega⟩
                have hvs2 : VV (t + 1) = 2 * VV t + z := by rw [hvs, hze]; simp
                rw [hze] at hcz
                have HVs := hide hvs2
                clear hvs hvs2 hz hze hLe hLc hvb hpw
                generalize VV t = vt at *
                go_wp2
                go_round
                case rel => exact ⟨t + 1, by omega, by go_num, by rw [HVs.out]; go_num⟩
                case measure => simp [intOf]; omega
              · have hz0 : L.getD (q8 + t) 0 = 0 := by simp [List.getD, List.getElem?_eq_none (Nat.le_of_not_lt hin)]
                have hvs2 : VV (t + 1) = 2 * VV t := by rw [hvs, hz0]; simp
                have HVs := hide hvs2
                clear hvs hvs2 hz0 hvb hpw
                generalize VV t = vt at *
                go_wp2
                go_round
                case rel => exact ⟨t + 1, by omega, by go_num, by rw [HVs.out]; go_num⟩
                case measure => simp [intOf]; omega
            · obtain rfl : t = 8 := by omega
              rw [HV8.out]
              have hwb : IntKind.u8.wrap ((octN L q : Nat) : Int) = ((octN L q : Nat) : Int) := by rw [IntKind.wrap_u8]; omega
              have HUe : Hid (encU (4 + (q + 1)) U = encU (4 + q) U ++ [.int .u8 ((octN L q : Nat) : Int)]) := by
                unfold Hid; rw [← HUQ.out, ← Nat.add_assoc, encU_snoc]
              generalize octN L q = oq at *
              go_wp2_with (at_builtin; refine wpList_append_lies _ rfl _ _ 55 rfl B2 5 i1 (.int .u8 0) 1 1 Tryd.underlying55 Hj.out Hy0.out Hy1.out Hy2.out rfl (by decide) _ _ _ rfl (HRo.out.alloc _) ⟨wr.heap.size, 0, none⟩ 1 1 [.int .u8 ((oq : Nat) : Int)] rfl rfl (cell_one_new _ _ _) (fun x hx => by simp at hx; subst hx; rfl) (by decide) (by unfold maxLen; omega) (by omega) (by simp; omega) _ rfl ?_; intro g3 cap3 w5 hown3 hgrow3 hat3 hlt3)
              go_roundw
              case rel =>
                have hB5 : Below B2 wr w5 := ((Below.refl B2 wr).alloc (by omega) _).grown hgrow3 (by simp; omega) (fun q hq => (HRo.out.lt q hq).1)
                have hI5 : IntsIn w5 (.slice adu L.length cpu) L.length (fun k => L.getD k 0) := ints_mono HGr.out hB5 HOB.out
                have R : q + 1 ≤ octs L ∧ Value.int .i64 ((q8 : Int) + 8) = .int .i64 ((8 * (q + 1) : Nat) : Int) ∧ Value.slice (some ⟨g3, 0, none⟩) (4 + q + 1) cap3 = .slice (some ⟨g3, 0, none⟩) (4 + (q + 1)) cap3 ∧ Hid (w5.ownsRow B2 5 1 (.slice (some ⟨g3, 0, none⟩) (4 + q + 1) cap3) (4 + (q + 1)) (encU (4 + (q + 1)) U)) ∧ Hid (IntsIn w5 (.slice adu L.length cpu) L.length (fun k => L.getD k 0)) ∧ Hid (B2 ≤ w5.heap.size) ∧ Hid (Below w.heap.size w w5) :=
                  ⟨by omega, by rw [← H8.out]; simp; omega, rfl, by unfold Hid; rw [HUe.out]; exact hown3, hI5, Nat.le_trans hsr hB5.size, HBr.out.trans (hB5.mono HWB.out)⟩
                first
                  | exact ⟨q + 1, some ⟨g3, 0, none⟩, cap3, R⟩
                  | ((repeat apply Exists.intro); exact ⟨⟨q + 1, some ⟨g3, 0, none⟩, cap3, R⟩, rfl⟩)
              case measure => simp [intOf]; omega
        · obtain rfl : q = octs L := by omega
          have hge : ¬ 8 * octs L < L.length := fun h => hql (octs_lt.2 h)
          by_cases c : 116 < octs L
          · have e1 := HF.out
            rw [if_pos c] at e1
            have e2 := HS4.out c
            have HE1 := hide e1
            have HE2 := hide e2
            clear e1 e2
            go_wp2
            go_ret2
            exact ⟨by rw [HE1.out, HE2.out]; rfl, HBr.out⟩
          · have e1 := HF.out
            rw [if_neg c] at e1
            have e2 := HS.out c
            have HE1 := hide e1
            have HE2 := hide (e2.trans HTe.out)
            clear e1 e2
            obtain ⟨g6, cap6, hge6⟩ := Joins.ownsRow_form HRo.out (by omega)
            obtain ⟨rfl, rfl⟩ : adx = some ⟨g6, 0, none⟩ ∧ cpx = cap6 := by cases hge6; exact ⟨rfl, rfl⟩
            have hbk := back_row (cap := cpx) (encU_row HRo.out)
            clear hge6
            go_wp2
            go_ret2
            exact ⟨by rw [HE1.out, HE2.out]; rfl, HBr.out⟩
end Go.Proofs.YtjhflcgphejddaaDoor

namespace Go.Proofs.YtjhflcgphejddaaDoor
open Go.RowKit Go.Maps
set_option linter.unusedVariables false
set_option maxRecDepth 100000

theorem rbytes_any {w : World} {v : Value} {N : Nat} {C : Nat → Cd} (a b st : Int) (h : CodsIn w v N C) :
    Calls Tryd.prog 6 #[.int .i64 a, .int .i64 b, .int .i64 st, v] w fun e w' => e = .returned (.tuple #[.string (bytS a b st N C), .int .i64 (bytF a b st N C : Nat)]) ∧ Below w.heap.size w w' := by
  by_cases hx : seeF a b st N C = 0
  · exact rbytes_ok a b st h hx
  · have e1 : bytF a b st N C = seeF a b st N C := by unfold bytF; rw [if_pos hx]
    have e2 : bytS a b st N C = ByteArray.empty := by unfold bytS; rw [if_neg (by rw [e1]; exact hx)]
    rw [e1, e2]
    exact rbytes_bad a b st h hx

/-- The Reader while its bits are laid: of so many, in a row of its own. -/
structure RRow (w : World) (b B : Nat) (v : Value) (n : Nat) (L : List Int) : Prop where
  c0 : w.cell? ⟨b, 0, none⟩ = some v
  c1 : w.cell? ⟨b, 1, none⟩ = some (.int .i64 0)
  c2 : w.cell? ⟨b, 2, none⟩ = some (.bool false)
  f0 : w.frozen? ⟨b, 0, none⟩ = false
  f1 : w.frozen? ⟨b, 1, none⟩ = false
  f2 : w.frozen? ⟨b, 2, none⟩ = false
  own : w.ownsRow B 3 1 v n (encI L)
  big : b < B
  bw : B ≤ w.heap.size
theorem RRow.below {w w' : World} {b B n : Nat} {v : Value} {L : List Int} (h : RRow w b B v n L) (hb : Below w.heap.size w w') : RRow w' b B v n L := by
  have hlt := cell_lt h.c0
  exact ⟨(hb.cell (p := ⟨b, 0, none⟩) hlt).trans h.c0, (hb.cell (p := ⟨b, 1, none⟩) hlt).trans h.c1, (hb.cell (p := ⟨b, 2, none⟩) hlt).trans h.c2, (hb.frozen (p := ⟨b, 0, none⟩) hlt).trans h.f0, (hb.frozen (p := ⟨b, 1, none⟩) hlt).trans h.f1, (hb.frozen (p := ⟨b, 2, none⟩) hlt).trans h.f2, own_below h.own hb, h.big, Nat.le_trans h.bw hb.size⟩
/-- One more bit, by append, stored into the Reader. -/
theorem RRow.snoc {w w5 : World} {b B n g cap : Nat} {v : Value} {L : List Int} {x : Int} (h : RRow w b B v n L) (hown : w5.ownsRow B 3 1 (.slice (some ⟨g, 0, none⟩) (n + 1) cap) (n + 1) (encI L ++ [.int .i64 x])) (hgrow : w.grownBy w5 v.ownBlock) :
    RRow (w5.setCell ⟨b, 0, none⟩ (.slice (some ⟨g, 0, none⟩) (n + 1) cap)) b B (.slice (some ⟨g, 0, none⟩) (n + 1) cap) (n + 1) (L ++ [x]) := by
  have hlt := cell_lt h.c0
  have hne : v.ownBlock ≠ some b := fun e => by have := (h.own.lt b e).1; have := h.big; omega
  have hg : B ≤ g := (hown.lt g rfl).1
  have hbk : ∀ o, w5.cell? ⟨b, o, none⟩ = w.cell? ⟨b, o, none⟩ := fun o => hgrow.cell_far ⟨b, o, none⟩ hlt (fun e => hne e.symm)
  have hbf : ∀ o, w5.frozen? ⟨b, o, none⟩ = w.frozen? ⟨b, o, none⟩ := fun o => hgrow.frozen_far ⟨b, o, none⟩ hlt (fun e => hne e.symm)
  have hbig := h.big
  refine ⟨World.cell?_setCell_same _ _ _ ((hbk 0).trans h.c0), ?_, ?_, by rw [World.frozen?_setCell, hbf]; exact h.f0, by rw [World.frozen?_setCell, hbf]; exact h.f1, by rw [World.frozen?_setCell, hbf]; exact h.f2, ?_, h.big, by have h1 := hgrow.size; have h2 := h.bw; simp; omega⟩
  · rw [World.cell?_setCell_other _ _ _ _ (fun e => by cases e), hbk]; exact h.c1
  · rw [World.cell?_setCell_other _ _ _ _ (fun e => by cases e), hbk]; exact h.c2
  · rw [encI_snoc]
    refine ⟨hown.1, ?_⟩
    rcases hown.2 with hn | ⟨g', cap', cur, hv, h1, hgg, rest⟩
    · exact .inl hn
    · refine .inr ⟨g', cap', cur, hv, h1, ?_, rest⟩
      rw [Below.heap_setCell _ _ _ _ (by show g' ≠ b; omega)]
      exact hgg

/-- What ReadBytes answers. -/
def RBp (t : ByteArray) (w : World) (e : Ending) (w' : World) : Prop :=
  ((120 < t.size ∧ e = .returned (.tuple #[.int .i64 0, .int .i64 0, .int .i64 0, .slice none 0 0, .int .i64 4])) ∨ (t.size ≤ 120 ∧ NoFilm t ∧ e = .returned (.tuple #[.int .i64 0, .int .i64 0, .int .i64 0, .slice none 0 0, .int .i64 2])) ∨ (t.size ≤ 120 ∧ ∃ a b s N C u, bytF a b s N C = 0 ∧ bytS a b s N C = t ∧ e = .returned (.tuple #[.int .i64 a, .int .i64 b, .int .i64 s, u, .int .i64 0]) ∧ CodsIn w' u N C)) ∧ Below w.heap.size w w'
theorem bit_at (t : ByteArray) {q k : Nat} (hk : k < 8) : bitB t (8 * q + k) = bitU (atB t (4 + q)).toNat k := by
  unfold bitB unO
  rw [show (8 * q + k) / 8 = q by omega, show (8 * q + k) % 8 = k by omega]
theorem pow_half {k : Nat} (hk : k ≤ 7) : 128 / 2 ^ k = 2 ^ (7 - k) := by
  rcases (show k = 0 ∨ k = 1 ∨ k = 2 ∨ k = 3 ∨ k = 4 ∨ k = 5 ∨ k = 6 ∨ k = 7 by omega) with rfl | rfl | rfl | rfl | rfl | rfl | rfl | rfl <;> decide

set_option maxHeartbeats 8000000 in
theorem rread_any {w : World} (t : ByteArray) : Calls Tryd.prog 9 #[.string t] w (RBp t w) := by
  by_cases h120 : 120 < t.size
  · have hi : (120 : Int) < (t.size : Int) := by omega
    have HX := hide h120
    clear h120
    go_enter Tryd.func9, Tryd.ntmps9
    go_wp2
    refine bodyPost_ret (v := .tuple #[.int .i64 0, .int .i64 0, .int .i64 0, .slice none 0 0, .int .i64 4]) (by simp [results, Tryd.results9, go_sem]) rfl ⟨Or.inl ⟨HX.out, rfl⟩, Below.refl _ _⟩
  · by_cases h4 : t.size < 4
    · have HN := hide (none_short h4)
      have HL : Hid (t.size ≤ 120) := by unfold Hid; omega
      have hi : ¬ (120 : Int) < (t.size : Int) := by omega
      have hi4 : (t.size : Int) < 4 := by omega
      clear h120 h4
      go_enter Tryd.func9, Tryd.ntmps9
      go_wp2
      refine bodyPost_ret (v := .tuple #[.int .i64 0, .int .i64 0, .int .i64 0, .slice none 0 0, .int .i64 2]) (by simp [results, Tryd.results9, go_sem]) rfl ⟨Or.inr (Or.inl ⟨HL.out, HN.out, rfl⟩), Below.refl _ _⟩
    · have h3 : 3 < t.size := by omega
      have h2' : 2 < t.size := by omega
      have h1' : 1 < t.size := by omega
      have h0' : 0 < t.size := by omega
      have HL : Hid (t.size ≤ 120) := by unfold Hid; omega
      have hi : ¬ (120 : Int) < (t.size : Int) := by omega
      have hi4 : ¬ (t.size : Int) < 4 := by omega
      have hi3 : (3 : Int) < (t.size : Int) := by omega
      have hT := hide (show 4 ≤ t.size ∧ t.size ≤ 120 by omega)
      obtain ⟨n3, hn3⟩ : ∃ n3, n3 = (atB t 3).toNat := ⟨_, rfl⟩
      have q3 : (t[3]'h3).toNat = n3 := by rw [hn3, atB_eq t 3 h3]
      have hb3 : n3 < 256 := by rw [hn3]; exact (atB t 3).toNat_lt
      have HN3 := hide hn3
      clear h120 h4 hn3
      by_cases h6 : 6 < n3
      · have HN := hide (none_many (t := t) (by rw [← HN3.out]; exact h6))
        go_enter Tryd.func9, Tryd.ntmps9
        go_wp2
        refine bodyPost_ret (v := .tuple #[.int .i64 0, .int .i64 0, .int .i64 0, .slice none 0 0, .int .i64 2]) (by simp [results, Tryd.results9, go_sem]) rfl ⟨Or.inr (Or.inl ⟨HL.out, HN.out, rfl⟩), Below.refl _ _⟩
      · obtain ⟨i0, hi0, hz0, hz1, hz2⟩ := info_parts Tryd.infoInt
        obtain ⟨i1, hi1, hy0, hy1, hy2⟩ := info_parts Tryd.infoCod
        have Hi := hide hi0
        have Hz0 := hide hz0
        have Hz1 := hide hz1
        have Hz2 := hide hz2
        have Hj := hide hi1
        have Hy0 := hide hy0
        have Hy1 := hide hy1
        have Hy2 := hide hy2
        have HR0 : Hid (RRow (w.alloc (.cells #[.slice none 0 0, .int .i64 0, .bool false] 64)) w.heap.size (w.heap.size + 1) (.slice none (8 * 0) 0) (8 * 0) (lst (bitB t) (8 * 0))) := by
          have hh := (MapKept.heap_alloc w (.cells #[.slice none 0 0, .int .i64 0, .bool false] 64)).1
          exact ⟨by simp, by simp, by simp, by simp only [World.frozen?, hh]; simp, by simp only [World.frozen?, hh]; simp, by simp only [World.frozen?, hh]; simp, World.ownsRow_nil _ _ _ _, by omega, by simp⟩
        have HB0 := hide ((Below.refl w.heap.size w).alloc (Nat.le_refl _) (.cells #[.slice none 0 0, .int .i64 0, .bool false] 64))
        clear hi0 hz0 hz1 hz2 hi1 hy0 hy1 hy2
        have h6i : ¬ (6 : Int) < (n3 : Int) := by omega
        go_enter Tryd.func9, Tryd.ntmps9
        go_wp2
        go_loopw [8] (fun i wx => ∃ (q : Nat) (adx : Option Addr) (cpx : Nat), 4 + q ≤ t.size ∧ i = .int .i64 ((4 + q : Nat) : Int) ∧ Hid (RRow wx w.heap.size (w.heap.size + 1) (.slice adx (8 * q) cpx) (8 * q) (lst (bitB t) (8 * q))) ∧ Hid (Below w.heap.size w wx)) (fun i _ => t.size - (intOf i).toNat)
        case atStart => exact ⟨0, none, 0, by omega, rfl, HR0, HB0⟩
        case round =>
          obtain ⟨q, adx, cpx, hq, rfl, HRr, HBr⟩ := hrel
          by_cases hlt : 4 + q < t.size
          · obtain ⟨nq, hnq⟩ : ∃ nq, nq = (atB t (4 + q)).toNat := ⟨_, rfl⟩
            have qq : (t[4 + q]'hlt).toNat = nq := by rw [hnq, atB_eq t _ hlt]
            have hbq : nq < 256 := by rw [hnq]; exact (atB t _).toNat_lt
            have HNQ := hide hnq
            have hq120 := hT.out.2
            clear hnq
            have hli : ((4 + q : Nat) : Int) < (t.size : Int) := by omega
            go_wp2
            obtain ⟨P, hP⟩ : ∃ P : Nat → Nat, P = fun k => 128 / 2 ^ k := ⟨_, rfl⟩
            have HP0 : Hid (P 0 = 128) := by unfold Hid; rw [hP]
            have HP8 : Hid (P 8 = 0) := by unfold Hid; rw [hP]
            have HPs : Hid (∀ k, P (k + 1) = P k / 2) := fun k => by rw [hP]; show 128 / 2 ^ (k + 1) = 128 / 2 ^ k / 2; rw [Nat.pow_succ, Nat.div_div_eq_div_mul]
            have HPp : Hid (∀ k, k < 8 → 1 ≤ P k ∧ P k ≤ 128) := fun k hk => by
              rw [hP]
              show 1 ≤ 128 / 2 ^ k ∧ 128 / 2 ^ k ≤ 128
              rw [pow_half (by omega)]
              exact ⟨Nat.one_le_two_pow, Nat.le_trans (Nat.pow_le_pow_right (by omega) (show 7 - k ≤ 7 by omega)) (by decide)⟩
            have HPb : Hid (∀ k, k < 8 → ((nq / P k % 2 : Nat) : Int) = bitB t (8 * q + k)) := fun k hk => by
              rw [bit_at t hk, ← HNQ.out, hP]
              show ((nq / (128 / 2 ^ k) % 2 : Nat) : Int) = _
              rw [pow_half (by omega)]; rfl
            clear hP
            go_loopw [10] (fun p wx => ∃ (k : Nat) (ad1 : Option Addr) (cp1 : Nat), k ≤ 8 ∧ p = .int .i64 ((P k : Nat) : Int) ∧ Hid (RRow wx w.heap.size (w.heap.size + 1) (.slice ad1 (8 * q + k) cp1) (8 * q + k) (lst (bitB t) (8 * q + k))) ∧ Hid (Below w.heap.size w wx)) (fun p _ => (intOf p).toNat)
            case atStart => exact ⟨0, adx, cpx, by omega, by rw [HP0.out]; rfl, HRr, HBr⟩
            case round =>
              obtain ⟨k, ad1, cp1, hk, rfl, HR1, HB1⟩ := hrel
              clear HRr HBr
              by_cases hk8 : k < 8
              · have hPp := HPp.out k hk8
                have hPb := HPb.out k hk8
                have hPs := HPs.out k
                have HPS := hide hPs
                obtain ⟨z, hz⟩ : ∃ z, z = nq / P k := ⟨_, rfl⟩
                have d1 : ((nq : Nat) : Int).tdiv ((P k : Nat) : Int) = ((z : Nat) : Int) := by rw [Int.tdiv_eq_ediv_of_nonneg (Int.natCast_nonneg _), hz]; simp
                have d2 : ((nq : Nat) : Int) / ((P k : Nat) : Int) = ((z : Nat) : Int) := by rw [hz]; simp
                have d3 : z < 256 := by rw [hz]; exact Nat.lt_of_le_of_lt (Nat.div_le_self _ _) hbq
                rw [← hz] at hPb
                have d4 : ((z : Nat) : Int).tmod 2 = bitB t (8 * q + k) := by rw [Int.tmod_eq_emod_of_nonneg (by omega), ← hPb]; simp
                have hbi := bitB_in t (8 * q + k)
                have d5 : ((z : Nat) : Int) % 2 = bitB t (8 * q + k) := by rw [← hPb]; simp
                have d6 : IntKind.i64.wrap ((z : Nat) : Int) = ((z : Nat) : Int) := by rw [IntKind.wrap_i64]; omega
                clear hz
                have HSn : Hid (lst (bitB t) (8 * q + (k + 1)) = lst (bitB t) (8 * q + k) ++ [bitB t (8 * q + k)]) := lst_succ _ _
                have hPn0 : ¬ ((P k : Nat) : Int) = 0 := by omega
                have hPn1 : ¬ P k = 0 := by omega
                have hqb : q ≤ 116 := by omega
                have HR1f := HR1.out
                have hrow := hide HR1.out
                obtain ⟨a0, a1, a2, g0, g1, g2, _, _, hbw⟩ := HR1f
                clear hPb hPs
                generalize bitB t (8 * q + k) = y at *
                generalize lst (bitB t) (8 * q + k) = L at *
                generalize hL2 : lst (bitB t) (8 * q + (k + 1)) = L2 at *
                have HL2 := hide hL2
                clear hL2
                generalize P k = pk at *
                generalize hpk2 : P (k + 1) = pk2 at *
                have HPK2 := hide hpk2
                clear hpk2
                go_upto_region 12 with fail
                go_cut [] (fun wx => ∃ ad2 cp2, Hid (RRow wx w.heap.size (w.heap.size + 1) (.slice ad2 (8 * q + (k + 1)) cp2) (8 * q + (k + 1)) L2) ∧ Hid (Below w.heap.size w wx))
                case first =>
                  have HD1 : Hid (RRow (wr.alloc (.cells #[.int .i64 y] 3)).drew w.heap.size (w.heap.size + 1) (.slice ad1 (8 * q + k) cp1) (8 * q + k) L) := hrow.out.below ((Below.refl _ wr).alloc (Nat.le_refl _) _).drew
                  have hdw : ∀ o, (wr.alloc o).cell? ⟨w.heap.size, 0, none⟩ = some (.slice ad1 (8 * q + k) cp1) := fun o => cell_below ((Below.refl wr.heap.size wr).alloc (Nat.le_refl _) o) a0
                  have hrb : w.heap.size < wr.heap.size := by omega
                  go_region_law
                    ((refine step_append_lies _ (by rfl) _ _ _ (by rfl) (w.heap.size + 1) 3 i0 (.int .i64 0) 1 8 Tryd.underlying36 Hi.out Hz0.out Hz1.out Hz2.out rfl (by decide) (.slice ad1 (8 * q + k) cp1) (8 * q + k) (encI L) (by rfl) HD1.out.own
                        ⟨wr.heap.size, 0, none⟩ 1 1 [.int .i64 y] (by rfl) (by rfl) (World.news_of_block (cs := #[.int .i64 y]) (t := 3) (fr := (0, 0)) (heap_alloc_new wr _)) (by simp [Value.oneCell'])
                        (by omega) (by unfold maxLen; omega) (by omega) (by simp; omega) (wr.heap.size + 1) (by simp) ?_; intro gg cap w1 hown1 hgrow hat hlt9; have hfz : w1.frozen? ⟨w.heap.size, 0, none⟩ = false := (hgrow.frozen_far ⟨w.heap.size, 0, none⟩ (by simp; omega) (fun e => by have h9 := (HD1.out.own.lt w.heap.size e.symm).1; omega)).trans HD1.out.f0; have hcz : w1.cell? ⟨w.heap.size, 0, none⟩ = some (.slice ad1 (8 * q + k) cp1) := (hgrow.cell_far ⟨w.heap.size, 0, none⟩ (by simp; omega) (fun e => by have h9 := (HD1.out.own.lt w.heap.size e.symm).1; omega)).trans HD1.out.c0))
                  all_goals
                    go_wp2_with fail
                    go_meet
                    have h9 := HD1.out.snoc hown1 hgrow
                    rw [← HSn.out] at h9
                    refine ⟨some ⟨gg, 0, none⟩, cap, h9, ?_⟩
                    have hA : Below w.heap.size w (wr.alloc (.cells #[.int .i64 y] 3)).drew := (below_two HB1.out ((Below.refl _ wr).alloc (Nat.le_refl _) _)).drew
                    exact (hA.trans ((Below.refl w.heap.size _).grown hgrow (by simp; omega) (fun r hr => by have := (HD1.out.own.lt r hr).1; omega))).setCell (Nat.le_refl _) _
                case rest =>
                  obtain ⟨ad2, cp2, HR2, HB2⟩ := hcut
                  clear a0 a1 a2 g0 g1 g2 hrow
                  have e1 : ((pk : Nat) : Int).tdiv 2 = ((pk2 : Nat) : Int) := by rw [Int.tdiv_eq_ediv_of_nonneg (by omega), HPS.out]; simp
                  have e2 : ((pk : Nat) : Int) / 2 = ((pk2 : Nat) : Int) := by rw [HPS.out]; simp
                  have e3 : IntKind.i64.wrap ((pk2 : Nat) : Int) = ((pk2 : Nat) : Int) := by have := HPS.out; rw [IntKind.wrap_i64]; omega
                  go_wp2
                  go_roundw
                  case rel =>
                    have hpq := HPS.out
                    first
                      | exact ⟨k + 1, ad2, cp2, by omega, by rw [HPK2.out], by rw [HL2.out]; exact HR2, HB2⟩
                      | (refine ⟨_, ⟨k + 1, ad2, cp2, by omega, by rw [HPK2.out], by rw [HL2.out]; exact HR2, HB2⟩, rfl⟩)
                  case measure => have hpq := HPS.out; simp [intOf]; omega
              · obtain rfl : k = 8 := by omega
                have hP8 := HP8.out
                rw [hP8]
                go_wp2
                go_roundw
                case rel =>
                  first
                    | exact ⟨q + 1, ad1, cp1, by omega, by go_num, HR1, HB1⟩
                    | (refine ⟨_, ⟨q + 1, ad1, cp1, by omega, by go_num, HR1, HB1⟩, rfl⟩)
                case measure => simp [intOf]; omega
          · have hqe : q = t.size - 4 := by omega
            have HQ := hide hqe
            obtain ⟨m, hm⟩ : ∃ m, m = 8 * q := ⟨_, rfl⟩
            have hm2 : m ≤ 2000 := by omega
            have HM : Hid (m = 8 * (t.size - 4)) := by unfold Hid; rw [hm, hqe]
            rw [← hm] at HRr
            have hrow := HRr.out
            have HI0 : Hid (IntsIn wr (.slice adx m cpx) m (bitB t)) := by
              have h9 := rowV_in hrow.own (by rw [lst_len])
              exact h9.congr (fun k hk => lst_get hk)
            have hne0 : ∀ k, (Value.slice adx m cpx).ownBlock = some k → k ≠ w.heap.size := fun k e => by have := (hrow.own.lt k e).1; omega
            have hlt0 : ∀ k, (Value.slice adx m cpx).ownBlock = some k → k < wr.heap.size := fun k e => (hrow.own.lt k e).2
            have HNE := hide hne0
            have HLT := hide hlt0
            have HD0 : Hid (RdAt wr w.heap.size (.slice adx m cpx) 0 false) := ⟨hrow.c0, hrow.c1, hrow.c2, hrow.f1, hrow.f2⟩
            have HRB : Hid (w.heap.size < wr.heap.size) := by have := hrow.bw; unfold Hid; omega
            have Hbits : Hid (∀ i, i < m → bitB t i = 0 ∨ bitB t i = 1) := fun i _ => bitB_in t i
            obtain ⟨n0, hn0⟩ : ∃ n0, n0 = (atB t 0).toNat := ⟨_, rfl⟩
            obtain ⟨n1, hn1⟩ : ∃ n1, n1 = (atB t 1).toNat := ⟨_, rfl⟩
            obtain ⟨n2, hn2⟩ : ∃ n2, n2 = (atB t 2).toNat := ⟨_, rfl⟩
            have r0 : (t[0]'h0').toNat = n0 := by rw [hn0, atB_eq t _ h0']
            have r1 : (t[1]'h1').toNat = n1 := by rw [hn1, atB_eq t _ h1']
            have r2 : (t[2]'h2').toNat = n2 := by rw [hn2, atB_eq t _ h2']
            have rb0 : n0 < 256 := by rw [hn0]; exact (atB t _).toNat_lt
            have rb1 : n1 < 256 := by rw [hn1]; exact (atB t _).toNat_lt
            have rb2 : n2 < 256 := by rw [hn2]; exact (atB t _).toNat_lt
            have HN0 := hide hn0
            have HN1 := hide hn1
            have HN2 := hide hn2
            have l1i : (1 : Int) < (t.size : Int) := by omega
            have l2i : (2 : Int) < (t.size : Int) := by omega
            have l0i : (0 : Int) < (t.size : Int) := by omega
            clear hqe hm hrow hne0 hlt0 hn0 hn1 hn2 HRr hq
            by_cases h66 : 6 < n0 ∨ 6 < n1
            · have HN := hide (none_side (t := t) (by rw [← HN0.out, ← HN1.out]; exact h66))
              rcases (show 6 < n0 ∨ (n0 ≤ 6 ∧ 6 < n1) by omega) with h7 | ⟨h7, h8⟩
              · clear h66
                go_wp2_with fail
                go_quiet (fail)
                go_wp2
                refine bodyPost_ret (v := .tuple #[.int .i64 0, .int .i64 0, .int .i64 0, .slice none 0 0, .int .i64 2]) (by simp [results, Tryd.results9, go_sem]) rfl ⟨Or.inr (Or.inl ⟨HL.out, HN.out, rfl⟩), ?_⟩
                exact below_drewN HBr.out _
              · clear h66
                go_wp2_with fail
                go_quiet (fail)
                go_wp2
                refine bodyPost_ret (v := .tuple #[.int .i64 0, .int .i64 0, .int .i64 0, .slice none 0 0, .int .i64 2]) (by simp [results, Tryd.results9, go_sem]) rfl ⟨Or.inr (Or.inl ⟨HL.out, HN.out, rfl⟩), ?_⟩
                exact below_drewN HBr.out _
            · have hw6 : n0 ≤ 6 := by omega
              have hh6 : n1 ≤ 6 := by omega
              clear h66
              go_wp2_with fail
              go_quiet (fail)
              generalize hW1 : wr.drewN _ = w1 at *
              have HI1 : Hid (IntsIn w1 (.slice adx m cpx) m (bitB t)) := hW1 ▸ HI0.out.below (below_drewN (Below.refl _ _) _)
              have HD1 : Hid (RdAt w1 w.heap.size (.slice adx m cpx) 0 false) := hW1 ▸ HD0.out.below_ (below_drewN (Below.refl _ _) _)
              have HLT1 : Hid (∀ k, (Value.slice adx m cpx).ownBlock = some k → k < w1.heap.size) := hW1 ▸ HLT.out
              have HRB1 : Hid (w.heap.size < w1.heap.size) := hW1 ▸ HRB.out
              have HB1 : Hid (Below w.heap.size w w1) := hW1 ▸ below_drewN HBr.out _
              clear hW1 HI0 HD0 HLT HRB HBr
              obtain ⟨K, hK⟩ : ∃ K, K = n0 * n1 := ⟨_, rfl⟩
              have hK36 : K ≤ 36 := by have := Nat.mul_le_mul hw6 hh6; omega
              have hKi : ((n0 : Nat) : Int) * ((n1 : Nat) : Int) = ((K : Nat) : Int) := by rw [hK]; simp
              have HK := hide hK
              clear hK
              generalize hsv : Value.slice adx m cpx = sv at *
              clear hsv
              have HDc : Hid (CodR w1 w1.heap.size (.slice none 0 0) 0 (fun _ => ⟨false, 0, 0, 0, fun _ => 0⟩)) := ⟨fun _ => .slice none 0 0, rowS_nil _ _ _ _ _ _ _ _⟩
              go_wp2
              generalize hrb : w.heap.size = rb at *
              have HRBe := hide hrb
              go_loopw [14, 15] (fun u i wx => ∃ (j : Nat) (adl : Option Addr) (cpl a : Nat) (bd : Bool) (D : Nat → Cd), j ≤ n3 ∧ i = .int .i64 ((j : Nat) : Int) ∧ u = .slice adl j cpl ∧ a ≤ m ∧ Hid (CodR wx w1.heap.size u j D) ∧ Hid (RdAt wx rb sv a bd) ∧ Hid (IntsIn wx sv m (bitB t)) ∧ Hid (RSt t m K n3 j a bd D) ∧ Hid (w1.heap.size ≤ wx.heap.size) ∧ Hid (Below rb w wx)) (fun _ i _ => n3 - (intOf i).toNat)
              case atStart => exact ⟨0, none, 0, 0, false, _, Nat.zero_le _, rfl, rfl, Nat.zero_le _, HDc, HD1, HI1, RSt.start _ _ _ _ _, Nat.le_refl _, HB1⟩
              case round =>
                obtain ⟨j, adl, cpl, a, bd, D, hj, rfl, rfl, ha, HCr, HRd, HIr, HSr, HZr, HBr⟩ := hrel
                clear HDc HD1 HI1
                by_cases hlt : j < n3
                · have KB := hide (rbit_two HIr.out HNE.out HRd.out ha hm2)
                  go_wp2_with fail
                  refine (KB.out).mono ?_
                  rintro e w2 ⟨z, a1, bd1, rfl, hr2, hk2, h3'⟩
                  have hz : z = 0 ∨ z = 1 := by
                    rcases h3' with ⟨_, rfl, _⟩ | ⟨_, rfl, _⟩
                    · exact bitB_in t a
                    · exact Or.inl rfl
                  have ha1 : a1 ≤ m := by rcases h3' with ⟨h, _, h5, _⟩ | ⟨_, _, h5, _⟩ <;> omega
                  have HC2 := hide (HCr.out.kept HRB1.out hk2)
                  have HI2 := hide (ints_kept HIr.out HNE.out hk2)
                  have HB2 : Hid (Below rb w w2) := HBr.out.trans (hk2.to_below (Nat.le_trans (Nat.le_of_lt HRB1.out) HZr.out) (fun i hi => by omega))
                  have HZ2 : Hid (w1.heap.size ≤ w2.heap.size) := Nat.le_trans HZr.out hk2.size
                  have HR2 := hide hr2
                  have H3 := hide h3'
                  have HHz := hide hz
                  obtain ⟨al, hal⟩ : ∃ al, (z == 1) = al := ⟨_, rfl⟩
                  obtain ⟨w3, hw3⟩ : ∃ w3, w3 = w2.alloc (.cells #[.bool al, .int .i64 0, .int .i64 0, .slice none 0 0] 40) := ⟨_, rfl⟩
                  have b23 : Below w2.heap.size w2 w3 := hw3 ▸ (Below.refl _ _).alloc (Nat.le_refl _) _
                  have HC3 : Hid (CodIn w3 w2.heap.size al 0 0 (.slice none 0 0)) := hw3 ▸ codIn_new w2 al 0 0 (.slice none 0 0)
                  have HR3 := hide (hr2.below_ b23)
                  have HI3 := hide (HI2.out.below b23)
                  have HK3 : Hid (Kept (fun i => i = rb) w2 w3) := (Kept.refl _ w2).below b23
                  have HAL := hide hal
                  have hcb : rb < w2.heap.size := by have := HRB1.out; have := HZ2.out; omega
                  have HW3 := hide hw3
                  clear hr2 hk2 h3' hz HCr HIr HRd HZr HBr KB b23 hw3
                  go_upto_if 89 with fail
                  rw [← HW3.out]
                  clear HW3
                  generalize hcbe : w2.heap.size = cb at *
                  have HCBe := hide hcbe
                  clear hcbe
                  go_cut [] (fun wx => ∃ (x y : Int) (a2 : Nat) (bd2 : Bool), a2 ≤ m ∧ Hid (CodIn wx cb al x y (.slice none 0 0)) ∧ Hid (RdAt wx rb sv a2 bd2) ∧ Hid (HSt t m a bd al x y a2 bd2) ∧ Hid (Kept (fun i => i = rb) w2 wx))
                  case first =>
                    cases al with
                    | true =>
                      go_wp2_with fail
                      go_meet
                      have hz1 : z = 1 := by have := HAL.out; simpa using this
                      rcases H3.out with ⟨q1, q2, rfl, rfl⟩ | ⟨_, q2, _⟩
                      · exact ⟨0, 0, a + 1, bd1, ha1, HC3, HR3, HSt.alone q1 (by rw [← q2, hz1]), HK3⟩
                      · rw [hz1] at q2; cases q2
                    | false =>
                      have hz0 : z = 0 := by
                        rcases HHz.out with h | h
                        · exact h
                        · have := HAL.out; rw [h] at this; cases this
                      have H0 : Hid ((a < m ∧ bitB t a = 0 ∧ a1 = a + 1 ∧ bd1 = bd) ∨ (a = m ∧ a1 = m ∧ bd1 = true)) := by
                        rcases H3.out with ⟨q1, q2, q3, q4⟩ | ⟨q1, q2, q3, q4⟩
                        · exact Or.inl ⟨q1, by rw [← q2]; exact hz0, q3, q4⟩
                        · exact Or.inr ⟨q1, q3, q4⟩
                      have KM := hide (rmany_two HI3.out HNE.out HR3.out ha1 hm2 Hbits.out)
                      clear hz0 H3 HHz HAL
                      go_wp2_with fail
                      refine (KM.out).mono ?_
                      rintro e w4 ⟨z1, a2, bd2, rfl, hr4, hk4, ha2, ⟨hz1a, hz1b⟩, hi1, hi2⟩
                      have hC4 := HC3.out.kept (by omega) hk4
                      have hI4 := ints_kept HI3.out HNE.out hk4
                      have HK4 := hide (HK3.out.trans_ hk4)
                      have hsvcb : ∀ k, sv.ownBlock = some k → k ≠ cb := fun k e => by have := HLT1.out k e; have := HZ2.out; omega
                      obtain ⟨W5, hW5⟩ : ∃ W5, W5 = w4.setCell ⟨cb, 1, none⟩ (.int .i64 (z1 - 1)) := ⟨_, rfl⟩
                      have HC5 : Hid (CodIn W5 cb false (z1 - 1) 0 (.slice none 0 0)) := hW5 ▸ hC4.setX (z1 - 1)
                      have hR5 : RdAt W5 rb sv a2 bd2 := hW5 ▸ hr4.other (by omega) (.int .i64 (z1 - 1))
                      have hI5 : IntsIn W5 sv m (bitB t) := hW5 ▸ ints_set (o := 1) hI4 hsvcb (.int .i64 (z1 - 1))
                      have HK5 : Hid (Kept (fun i => i = rb) w2 W5) := hW5 ▸ HK4.out.setCell _ _ (Or.inr (by show w2.heap.size ≤ cb; rw [HCBe.out]; exact Nat.le_refl _))
                      have KM2 := hide (rmany_two hI5 HNE.out hR5 ha2 hm2 Hbits.out)
                      have HJ := hide (And.intro hi1 hi2)
                      have HSV := hide hsvcb
                      have x1 : IntKind.i64.wrap (z1 - 1) = z1 - 1 := by rw [IntKind.wrap_i64]; omega
                      obtain ⟨_, k1, _, _, _, g1, _, _⟩ := hC4
                      have HW5 := hide hW5
                      clear hr4 hk4 hI4 hR5 hI5 hi1 hi2 hsvcb KM hW5
                      go_upto_region 24 with fail
                      rw [← HW5.out]
                      clear HW5 k1 g1
                      go_wp2_with fail
                      refine (KM2.out).mono ?_
                      rintro e w6 ⟨z2, a3, bd3, rfl, hr6, hk6, ha3, ⟨hz2a, hz2b⟩, hj1, hj2⟩
                      have hC6 := HC5.out.kept (by omega) hk6
                      have HK6 := hide (HK5.out.trans_ hk6)
                      have HC7 := hide (hC6.setY (z2 - 1))
                      have HR7 := hide (hr6.other (b2 := cb) (o := 2) (by omega) (.int .i64 (z2 - 1)))
                      have HK7 : Hid (Kept (fun i => i = rb) w2 (w6.setCell ⟨cb, 2, none⟩ (.int .i64 (z2 - 1)))) := HK6.out.setCell _ _ (Or.inr (by show w2.heap.size ≤ cb; rw [HCBe.out]; exact Nat.le_refl _))
                      have HH := hide (HSt.moved H0.out HJ.out.1 HJ.out.2 hj1 hj2)
                      have x2 : IntKind.i64.wrap (z2 - 1) = z2 - 1 := by rw [IntKind.wrap_i64]; omega
                      obtain ⟨_, _, k2, _, _, _, g2, _⟩ := hC6
                      clear hr6 hk6 hj1 hj2 KM2 HC5 HK5
                      go_wp2_with fail
                      go_meet
                      exact ⟨z1 - 1, z2 - 1, a3, bd3, ha3, HC7, HR7, HH, HK7⟩
                  case rest =>
                    obtain ⟨x, y, a2, bd2, ha2, HC4, HR4, HHS, HK4⟩ := hcut
                    clear HC3 HR3 HI3 HK3 H3 HHz HAL ha1 HR2
                    have hcw : cb < wc.heap.size := HC4.out.lt
                    have HO0 : Hid (wc.ownsRow wc.heap.size 3 1 (.slice none 0 0) 0 (encI [])) := World.ownsRow_nil _ _ _ _
                    have H2w : Hid (w2.heap.size ≤ wc.heap.size) := HK4.out.size
                    have hKw : IntKind.i64.wrap ((K : Nat) : Int) = ((K : Nat) : Int) := by rw [IntKind.wrap_i64]; omega
                    go_wp2
                    generalize hB4 : wc.heap.size = B4 at *
                    have HB4e := hide hB4
                    clear hB4
                    go_loopw [17] (fun kk wx => ∃ (r : Nat) (xs : List Int) (adv : Option Addr) (cpv a3 : Nat) (bd3 : Bool), r ≤ K ∧ kk = .int .i64 ((r : Nat) : Int) ∧ a3 ≤ m ∧ Hid (xs.length = r) ∧ Hid (CodIn wx cb al x y (.slice adv r cpv)) ∧ Hid (wx.ownsRow B4 3 1 (.slice adv r cpv) r (encI xs)) ∧ Hid (RdAt wx rb sv a3 bd3) ∧ Hid (NSt t m K a2 bd2 r xs a3 bd3) ∧ Hid (Kept (fun i => i = rb) w2 wx) ∧ Hid (B4 ≤ wx.heap.size)) (fun kk _ => K - (intOf kk).toNat)
                    case atStart => exact ⟨0, [], none, 0, a2, bd2, Nat.zero_le _, rfl, ha2, rfl, HC4, HO0, HR4, NSt.start _ _ _ _ _, HK4, by unfold Hid; rw [HB4e.out]; exact Nat.le_refl _⟩
                    case round =>
                      obtain ⟨r, xs, adv, cpv, a3, bd3, hr, rfl, ha3, HXl, HCx, HOx, HRx, HNx, HKx, HZx⟩ := hrel
                      clear HC4 HO0 HR4 HK4
                      by_cases hrK : r < K
                      · have KN := hide (rnum_two (low := 2) (ints_kept HI2.out HNE.out HKx.out) HNE.out HRx.out ha3 hm2 (by omega) Hbits.out)
                        have hzx := HZx.out
                        go_wp2_with fail
                        refine (KN.out).mono ?_
                        rintro e w5 ⟨z5, a4, bd4, rfl, hr5, hk5, ha4, ⟨hz5a, hz5b⟩, hn1', hn2'⟩
                        have HC5 := hide (HCx.out.kept (by omega) hk5)
                        have HO5 := hide (own_kept HOx.out (by omega) hk5)
                        have HK5 := hide (HKx.out.trans_ hk5)
                        have HN5 := hide (HNx.out.step hrK hn1' hn2')
                        have HR5 := hide hr5
                        have hz5 := hk5.size
                        obtain ⟨_, _, _, k3, _, _, _, g3'⟩ := HC5.out
                        have HLe : Hid (encI (xs ++ [z5]) = encI xs ++ [.int .i64 z5]) := encI_snoc _ _
                        clear hr5 hk5 hn1' hn2' KN
                        go_wp2_with (at_builtin; refine wpList_append_lies _ rfl _ _ 36 rfl B4 3 i0 (.int .i64 0) 1 8 Tryd.underlying36 Hi.out Hz0.out Hz1.out Hz2.out rfl (by decide) _ _ _ rfl (HO5.out.alloc _) ⟨w5.heap.size, 0, none⟩ 1 1 [.int .i64 z5] rfl rfl (cell_one_new _ _ _) (fun x hx => by simp at hx; subst hx; rfl) (by decide) (by unfold maxLen; omega) (by omega) (by simp; omega) _ rfl ?_; intro g6 cap6 w6 hown6 hgrow6 hat6 hlt6; have hB6 : Below B4 w5 w6 := ((Below.refl B4 w5).alloc (by omega) _).grown hgrow6 (by simp; omega) (fun q hq => (HO5.out.lt q hq).1); have hC6 := HC5.out.mono hB6 (by omega); have hcz := hC6.c3; have hfz := hC6.g3)
                        go_roundw
                        case rel =>
                          have hC7 := hC6.setRest (.slice (some ⟨g6, 0, none⟩) (r + 1) cap6)
                          have hR7 := (HR5.out.below (B := B4) (by omega) hB6).other (b2 := cb) (o := 3) (by omega) (.slice (some ⟨g6, 0, none⟩) (r + 1) cap6)
                          have hO7 : (w6.setCell ⟨cb, 3, none⟩ (.slice (some ⟨g6, 0, none⟩) (r + 1) cap6)).ownsRow B4 3 1 (.slice (some ⟨g6, 0, none⟩) (r + 1) cap6) (r + 1) (encI (xs ++ [z5])) := by
                            rw [HLe.out]; exact own_set hown6 (by omega) _ _
                          have hK7 : Kept (fun i => i = rb) w2 (w6.setCell ⟨cb, 3, none⟩ (.slice (some ⟨g6, 0, none⟩) (r + 1) cap6)) :=
                            ((HK5.out.below ((Below.refl w5.heap.size w5).alloc (Nat.le_refl _) _)).grown hgrow6 (fun i hi => Or.inr (by have := (HO5.out.lt i hi).1; have := H2w.out; omega))).setCell _ _ (Or.inr (by show w2.heap.size ≤ cb; rw [HCBe.out]; exact Nat.le_refl _))
                          have hZ7 : B4 ≤ (w6.setCell ⟨cb, 3, none⟩ (.slice (some ⟨g6, 0, none⟩) (r + 1) cap6)).heap.size := by have := hB6.size; simp; omega
                          have R : r + 1 ≤ K ∧ Value.int .i64 ((r : Int) + 1) = .int .i64 ((r + 1 : Nat) : Int) ∧ a4 ≤ m ∧ Hid ((xs ++ [z5]).length = r + 1) ∧ Hid (CodIn (w6.setCell ⟨cb, 3, none⟩ (.slice (some ⟨g6, 0, none⟩) (r + 1) cap6)) cb al x y (.slice (some ⟨g6, 0, none⟩) (r + 1) cap6)) ∧ Hid ((w6.setCell ⟨cb, 3, none⟩ (.slice (some ⟨g6, 0, none⟩) (r + 1) cap6)).ownsRow B4 3 1 (.slice (some ⟨g6, 0, none⟩) (r + 1) cap6) (r + 1) (encI (xs ++ [z5]))) ∧ Hid (RdAt (w6.setCell ⟨cb, 3, none⟩ (.slice (some ⟨g6, 0, none⟩) (r + 1) cap6)) rb sv a4 bd4) ∧ Hid (NSt t m K a2 bd2 (r + 1) (xs ++ [z5]) a4 bd4) ∧ Hid (Kept (fun i => i = rb) w2 (w6.setCell ⟨cb, 3, none⟩ (.slice (some ⟨g6, 0, none⟩) (r + 1) cap6))) ∧ Hid (B4 ≤ (w6.setCell ⟨cb, 3, none⟩ (.slice (some ⟨g6, 0, none⟩) (r + 1) cap6)).heap.size) :=
                            ⟨by omega, by simp, ha4, by unfold Hid; rw [List.length_append, HXl.out]; rfl, hC7, hO7, hR7, HN5, hK7, hZ7⟩
                          first
                            | exact ⟨r + 1, xs ++ [z5], some ⟨g6, 0, none⟩, cap6, a4, bd4, R⟩
                            | ((repeat apply Exists.intro); exact ⟨⟨r + 1, xs ++ [z5], some ⟨g6, 0, none⟩, cap6, a4, bd4, R⟩, rfl⟩)
                        case measure => simp [intOf]; omega
                      · obtain rfl : r = K := by omega
                        have HCj := hide (HC2.out.kept HRB1.out HKx.out)
                        have HOB : Hid (∀ k, (Value.slice adl j cpl).ownBlock = some k → k < w2.heap.size) := fun k e => by obtain ⟨S, hS⟩ := HC2.out; exact (hS.own.lt k e).2
                        have HDc := hide (HCj.out.congr (D := fun q => if q = j then ⟨al, x, y, r, fun k => xs.getD k 0⟩ else D q) (fun i hi => (if_neg (by omega)).symm))
                        obtain ⟨S, hS⟩ := HDc.out
                        have HSx := hide hS
                        have HIv : Hid (IntsIn wr (.slice adv r cpv) r (fun k => xs.getD k 0)) := rowV_in HOx.out HXl.out.symm
                        have HOv : Hid (∀ k, (Value.slice adv r cpv).ownBlock = some k → B4 ≤ k) := fun k e => (HOx.out.lt k e).1
                        have HIs := hide (ints_kept HI2.out HNE.out HKx.out)
                        have hzx := HZx.out
                        have h2w := H2w.out
                        have h12 := HZ2.out
                        have HSt' := hide (HSr.out.step hlt HHS.out HNx.out)
                        have HBx : Hid (Below rb w wr) := HB2.out.trans (HKx.out.to_below (by have := HCBe.out; omega) (fun i hi => by omega))
                        obtain ⟨k0, k1, k2, k3, _, _, _, _⟩ := HCx.out
                        clear hS
                        go_wp2_with (at_builtin; refine wpList_append_lies _ rfl _ _ 22 rfl w1.heap.size 40 i1 (.agg #[.bool false, .int .i64 0, .int .i64 0, .slice none 0 0]) 4 48 Tryd.underlying22 Hj.out Hy0.out Hy1.out Hy2.out rfl (by decide) _ _ _ rfl (HSx.out.own.alloc _) ⟨wr.heap.size, 0, none⟩ 1 1 [.bool al, .int .i64 x, .int .i64 y, .slice adv r cpv] rfl rfl (World.news_of_block (cs := #[.bool al, .int .i64 x, .int .i64 y, .slice adv r cpv]) (t := 40) (fr := (0, 0)) (heap_alloc_new wr _)) (fun x hx => by simp at hx; rcases hx with rfl | rfl | rfl | rfl <;> rfl) (by decide) (by unfold maxLen; omega) (by omega) (by simp; omega) _ rfl ?_; intro g3 cap3 w5 hown3 hgrow3 hat3 hlt3)
                        go_roundw
                        case rel =>
                          have hB5 : Below w1.heap.size wr w5 := ((Below.refl w1.heap.size wr).alloc (by omega) _).grown hgrow3 (by simp; omega) (fun q hq => (HSx.out.own.lt q hq).1)
                          have hCR : CodR w5 w1.heap.size (.slice (some ⟨g3, 0, none⟩) (j + 1) cap3) (j + 1) (fun q => if q = j then ⟨al, x, y, r, fun k => xs.getD k 0⟩ else D q) := by
                            refine CodR.snoc (s := .slice adv r cpv) HSx.out ?_ hgrow3 hat3 ?_ (fun k e => ?_) (fun k e e2 => ?_)
                            · simp only [if_true]; exact hown3
                            · simp only [if_true]; exact HIv.out
                            · have := HOv.out k e; omega
                            · have h1 := HOv.out k e; have h2 := HOB.out k e2; omega
                          have hR5 := HRx.out.below (B := w1.heap.size) HRB1.out hB5
                          have hI5 := ints_mono HIs.out hB5 HLT1.out
                          have hZ5 : w1.heap.size ≤ w5.heap.size := by have := hB5.size; omega
                          have hBB : Below rb w w5 := HBx.out.trans (hB5.mono (Nat.le_of_lt HRB1.out))
                          first
                            | exact ⟨j + 1, some ⟨g3, 0, none⟩, cap3, a3, bd3, _, by omega, by go_num, rfl, ha3, hCR, hR5, hI5, HSt'.out, hZ5, hBB⟩
                            | ((repeat apply Exists.intro); exact ⟨⟨j + 1, some ⟨g3, 0, none⟩, cap3, a3, bd3, _, by omega, by go_num, rfl, ha3, hCR, hR5, hI5, HSt'.out, hZ5, hBB⟩, rfl⟩)
                        case measure => simp [intOf]; omega
                · obtain rfl : j = n3 := by omega
                  have KF := hide (rbytes_any ((n0 : Nat) : Int) ((n1 : Nat) : Int) ((n2 : Nat) : Int) HCr.out.cods)
                  have HZ : Hid (bd = true → NoFilm t) := fun hb => by
                    have h9 := HSr.out.2 hb
                    rw [HM.out, HK.out, HN0.out, HN1.out, HN3.out] at h9
                    exact none_read h9
                  have HF : Hid (bd = false → NoFilm t ∨ (bytF ((n0 : Nat) : Int) ((n1 : Nat) : Int) ((n2 : Nat) : Int) j D = 0 ∧ bytS ((n0 : Nat) : Int) ((n1 : Nat) : Int) ((n2 : Nat) : Int) j D = t)) := fun hb => by
                    obtain ⟨l, e1, e2⟩ := HSr.out.1 hb
                    rw [HM.out, HK.out, HN0.out, HN1.out, HN3.out] at e1
                    rw [HN3.out] at e2
                    rw [HN0.out, HN1.out, HN2.out, HN3.out]
                    exact some_read e1 e2
                  have HCd := hide HCr.out.cods
                  clear HSr
                  go_wp2_with fail
                  refine (KF.out).mono ?_
                  rintro e w7 ⟨rfl, hb7⟩
                  have HB7 : Hid (Below rb w w7) := HBr.out.trans (hb7.mono (by have := HRB1.out; have := HZr.out; omega))
                  obtain ⟨_, _, k2, _, _⟩ := HRd.out.below_ hb7
                  have HC7 := hide (HCd.out.below hb7)
                  clear hb7 KF HCd HCr HRd HIr
                  cases bd with
                  | true =>
                    have HN := hide (HZ.out rfl)
                    clear HZ HF
                    go_wp2
                    refine bodyPost_ret (v := .tuple #[.int .i64 0, .int .i64 0, .int .i64 0, .slice none 0 0, .int .i64 2]) (by simp [results, Tryd.results9, go_sem]) rfl ⟨Or.inr (Or.inl ⟨HL.out, HN.out, rfl⟩), by rw [HRBe.out]; exact HB7.out⟩
                  | false =>
                    have hF := HF.out rfl
                    clear HZ HF
                    have HG : Hid (bytF ((n0 : Nat) : Int) ((n1 : Nat) : Int) ((n2 : Nat) : Int) j D = bytF ((n0 : Nat) : Int) ((n1 : Nat) : Int) ((n2 : Nat) : Int) j D ∧ bytS ((n0 : Nat) : Int) ((n1 : Nat) : Int) ((n2 : Nat) : Int) j D = bytS ((n0 : Nat) : Int) ((n1 : Nat) : Int) ((n2 : Nat) : Int) j D) := ⟨rfl, rfl⟩
                    have hFF : ∃ F, F = bytF ((n0 : Nat) : Int) ((n1 : Nat) : Int) ((n2 : Nat) : Int) j D := ⟨_, rfl⟩
                    have hTT : ∃ T, T = bytS ((n0 : Nat) : Int) ((n1 : Nat) : Int) ((n2 : Nat) : Int) j D := ⟨_, rfl⟩
                    obtain ⟨F, hFe⟩ := hFF
                    obtain ⟨T, hTe⟩ := hTT
                    rw [← hFe, ← hTe] at hF
                    rw [← hFe, ← hTe]
                    have HFe := hide hFe
                    have HTe := hide hTe
                    clear hFe hTe HG
                    by_cases hF0 : F = 0
                    · subst hF0
                      by_cases hTt : T = t
                      · subst hTt
                        have hq1 : (T.toList == T.toList) = true := beq_self_eq_true _
                        have hq2 : (T.toList != T.toList) = false := bne_self_eq_false _
                        have HLs := HL
                        go_wp2
                        refine bodyPost_ret (v := .tuple #[.int .i64 ((n0 : Nat) : Int), .int .i64 ((n1 : Nat) : Int), .int .i64 ((n2 : Nat) : Int), .slice adl j cpl, .int .i64 0]) (by simp [results, Tryd.results9, go_sem]) rfl ⟨Or.inr (Or.inr ⟨HLs.out, _, _, _, j, D, _, HFe.out.symm, HTe.out.symm, rfl, HC7.out⟩), by rw [HRBe.out]; exact HB7.out⟩
                      · have HN : Hid (NoFilm t) := by
                          rcases hF with h | h
                          · exact h
                          · exact absurd h.2 hTt
                        have hne : ¬ T.toList = t.toList := fun e => hTt (by rw [ByteArray.toList_eq, ByteArray.toList_eq] at e; exact ByteArray.ext (Array.toList_inj.1 e))
                        have hq1 : (T.toList == t.toList) = false := by rw [beq_eq_false_iff_ne]; exact hne
                        have hq2 : (T.toList != t.toList) = true := by simp [bne, hq1]
                        clear hF
                        go_wp2
                        refine bodyPost_ret (v := .tuple #[.int .i64 0, .int .i64 0, .int .i64 0, .slice none 0 0, .int .i64 2]) (by simp [results, Tryd.results9, go_sem]) rfl ⟨Or.inr (Or.inl ⟨HL.out, HN.out, rfl⟩), by rw [HRBe.out]; exact HB7.out⟩
                    · have HN : Hid (NoFilm t) := by
                        rcases hF with h | h
                        · exact h
                        · exact absurd h.1 hF0
                      have hq1 : ((F : Int) == 0) = false := by rw [beq_eq_false_iff_ne]; omega
                      have hq2 : ((F : Int) != 0) = true := by simp [bne, hq1]
                      clear hF
                      go_wp2
                      refine bodyPost_ret (v := .tuple #[.int .i64 0, .int .i64 0, .int .i64 0, .slice none 0 0, .int .i64 2]) (by simp [results, Tryd.results9, go_sem]) rfl ⟨Or.inr (Or.inl ⟨HL.out, HN.out, rfl⟩), by rw [HRBe.out]; exact HB7.out⟩
end Go.Proofs.YtjhflcgphejddaaDoor

namespace Go.Proofs.YtjhflcgphejddaaDoor
open Go.RowKit
set_option linter.unusedVariables false
set_option maxRecDepth 100000

theorem rb_fate {t : ByteArray} {w w' : World} {e : Ending} (h : RBp t w e w') : ∃ (a b s : Int) (u : Value) (x N : Nat) (C : Nat → Cd), e = .returned (.tuple #[.int .i64 a, .int .i64 b, .int .i64 s, u, .int .i64 x]) ∧ Hid (CodsIn w' u N C) ∧ Hid (Fate t x a b s N C) ∧ Hid (Below w.heap.size w w') := by
  obtain ⟨h, hb⟩ := h
  rcases h with ⟨h1, rfl⟩ | ⟨h1, h2, rfl⟩ | ⟨h1, a, b, s, N, C, u, h2, h3, rfl, h4⟩
  · exact ⟨0, 0, 0, _, 4, 0, fun _ => ⟨false, 0, 0, 0, fun _ => 0⟩, rfl, cods_none _ _, Or.inl ⟨rfl, h1, rfl, rfl, rfl, rfl⟩, hb⟩
  · exact ⟨0, 0, 0, _, 2, 0, fun _ => ⟨false, 0, 0, 0, fun _ => 0⟩, rfl, cods_none _ _, Or.inr (Or.inl ⟨rfl, h1, h2, rfl, rfl, rfl, rfl⟩), hb⟩
  · exact ⟨a, b, s, u, 0, N, C, rfl, h4, Or.inr (Or.inr ⟨rfl, h1, h2, h3⟩), hb⟩
end Go.Proofs.YtjhflcgphejddaaDoor
