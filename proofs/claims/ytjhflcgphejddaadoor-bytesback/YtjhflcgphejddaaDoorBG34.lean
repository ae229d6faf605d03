/-
  Lemmas for the law above, joined into one text (RByB, RRc, RBy). No statement is proved here.
-/
import Derived.Test.YtjhflcgphejddaaDoorBG33
import Derived.Test.YtjhflcgphejddaaDoorBG7
import Derived.Test.YtjhflcgphejddaaDoorBG9
import Derived.Deep.AppendLies
import Derived.Deep.DeepCutAuto
import Derived.Laws.MakeOwn
import Derived.Maps.AppendAt
import Derived.Test.YtjhflcgphejddaaDoorBG11
import Derived.Test.YtjhflcgphejddaaDoorBG8
namespace Go.Proofs.YtjhflcgphejddaaDoor
open Go.RowKit
set_option linter.unusedVariables false
set_option maxRecDepth 100000

theorem rseen_any {w : World} {v : Value} {N : Nat} {C : Nat → Cd} (a b st : Int) (h : CodsIn w v N C) :
    Calls Tryd.prog 15 #[.int .i64 a, .int .i64 b, .int .i64 st, v] w fun e w' => ((seeF a b st N C ≠ 0 ∧ e = .returned (.tuple #[.slice none 0 0, .int .i64 (seeF a b st N C : Nat)])) ∨ (seeF a b st N C = 0 ∧ ∃ u, e = .returned (.tuple #[u, .int .i64 0]) ∧ PicsIn w' u N (seeP a b st C))) ∧ Below w.heap.size w w' := by
  by_cases hx : N = 0 ∨ 6 < N ∨ ¬ (1 ≤ a ∧ a ≤ 6 ∧ 1 ≤ b ∧ b ≤ 6 ∧ 1 ≤ st ∧ st ≤ 64) ∨ (C 0).al = false
  · refine (rseen_bad a b st h hx).mono ?_
    rintro e w' ⟨rfl, rfl⟩
    refine ⟨Or.inl ⟨?_, rfl⟩, Below.refl _ _⟩
    unfold seeF
    split
    · simp
    · rename_i c1
      split
      · simp
      · rename_i c2
        split
        · simp
        · rename_i c3
          split
          · simp
          · rename_i c4
            rcases hx with h1 | h1 | h1 | h1
            · exact absurd h1 c1
            · exact absurd h1 c2
            · refine absurd ?_ c3
              unfold sidF
              rw [if_neg h1]
              simp
            · exact absurd h1 c4
  · have h0 : 0 < N := Nat.pos_of_ne_zero (fun e => hx (Or.inl e))
    have h6 : N ≤ 6 := Nat.le_of_not_lt (fun e => hx (Or.inr (Or.inl e)))
    have hr : 1 ≤ a ∧ a ≤ 6 ∧ 1 ≤ b ∧ b ≤ 6 ∧ 1 ≤ st ∧ st ≤ 64 := Classical.byContradiction fun e => hx (Or.inr (Or.inr (Or.inl e)))
    have hal : (C 0).al = true := by
      cases hc : (C 0).al with
      | true => rfl
      | false => exact absurd (Or.inr (Or.inr (Or.inr hc))) hx
    have e : seeF a b st N C = (seeS a b st C N).1 := by
      unfold seeF sidF
      rw [if_neg (by omega), if_neg (by omega), if_pos hr, if_neg (by simp), if_neg (by rw [hal]; simp)]
    rw [e]
    exact rseen_ok h h0 h6 hr hal

set_option maxHeartbeats 1000000 in
theorem rbytes_bad {w : World} {v : Value} {N : Nat} {C : Nat → Cd} (a b st : Int) (h : CodsIn w v N C) (hx : seeF a b st N C ≠ 0) :
    Calls Tryd.prog 6 #[.int .i64 a, .int .i64 b, .int .i64 st, v] w fun e w' => e = .returned (.tuple #[.string ByteArray.empty, .int .i64 (seeF a b st N C : Nat)]) ∧ Below w.heap.size w w' := by
  have K := hide (rseen_any a b st h)
  obtain ⟨ad, cap, rfl, _, _, h3⟩ := h
  have hne : ((seeF a b st N C : Int) != 0) = true := by
    have : ((seeF a b st N C : Int) == 0) = false := by rw [beq_eq_false_iff_ne]; omega
    simp [bne, this]
  clear h3
  generalize seeF a b st N C = k at *
  have HX := hide hx
  clear hx
  go_enter Tryd.func6, Tryd.ntmps6
  go_wp2_with fail
  refine (K.out).mono ?_
  rintro e w1 ⟨h9, hb1⟩
  obtain ⟨_, rfl⟩ := h9.resolve_right (fun q => HX.out q.1)
  have HB := hide hb1
  clear hb1 h9
  go_wp2
  go_ret2
  exact ⟨rfl, HB.out⟩
end Go.Proofs.YtjhflcgphejddaaDoor

namespace Go.Proofs.YtjhflcgphejddaaDoor
open Go.RowKit Go.Maps
set_option linter.unusedVariables false
set_option maxRecDepth 100000

theorem pow_le_128 {b low : Nat} (h : b ≤ low) (hl : low ≤ 7) : 2 ^ b ≤ 128 := Nat.le_trans (Nat.pow_le_pow_right (by omega) (show b ≤ 7 by omega)) (by decide)
theorem pow_pos2 (b : Nat) : 1 ≤ 2 ^ b := Nat.one_le_two_pow

set_option maxHeartbeats 8000000 in
theorem rrice_ok {w : World} {v : Value} {n low : Nat} {f : Nat → Int} (h : IntsIn w v n f) (hn : n ≤ 1048576) (hl : low ≤ 7) (hf : ∀ i, i < n → -255 ≤ f i ∧ f i ≤ 255) :
    Calls Tryd.prog 16 #[v, .int .i64 low] w fun e w' => ∃ ad cp, e = .returned (.slice ad (lenN low f n) cp) ∧ w'.ownsRow w.heap.size 3 1 (.slice ad (lenN low f n) cp) (lenN low f n) (encI (rowB low (lst f n))) ∧ Below w.heap.size w w' := by
  obtain ⟨i0, hi0, hz0, hz1, hz2⟩ := info_parts Tryd.infoInt
  have Hi := hide hi0
  have Hz0 := hide hz0
  have Hz1 := hide hz1
  have Hz2 := hide hz2
  have HI := hide h
  have HF := hide hf
  have HM := hide (fun j (hj : j ≤ n) => Nat.le_trans (lenN_mono (low := low) (f := f) hj) (lenN_le hl hf))
  have HLs := hide (fun j => lenN_succ low f j)
  have HRs := hide (fun j => rowB_succ low f j)
  have HL0 : Hid (lenN low f 0 = 0) := rfl
  generalize hL : lenN low f = Ln at *
  obtain ⟨av, nv, rfl⟩ : ∃ ad cp, v = .slice ad n cp := by
    rcases h with ⟨rfl, a, cap, rfl⟩ | ⟨h0, b, o, cap, rfl, hc⟩
    · exact ⟨_, _, rfl⟩
    · exact ⟨_, _, rfl⟩
  clear h hi0 hz0 hz1 hz2 hf hL
  go_enter Tryd.func16, Tryd.ntmps16
  go_wp2
  go_loopw [5, 6] (fun u i wr => ∃ (j : Nat) (ad : Option Addr) (cp : Nat), j ≤ n ∧ i = .int .i64 j ∧ u = .slice ad (Ln j) cp ∧ Hid (wr.ownsRow w.heap.size 3 1 u (Ln j) (encI (rowB low (lst f j)))) ∧ Below w.heap.size w wr) (fun _ i _ => n - (intOf i).toNat)
  case atStart => exact ⟨0, none, 0, Nat.zero_le _, rfl, by rw [HL0.out], by rw [HL0.out]; exact World.ownsRow_nil _ _ _ _, Below.refl _ _⟩
  case round =>
    obtain ⟨j, adr, cpr, hj, rfl, rfl, HY, hb⟩ := hrel
    have HB := hide hb
    have hsz := hb.size
    clear hb
    by_cases hlt : j < n
    · have HI2 := hide (HI.out.below HB.out)
      have hle := HM.out (j + 1) (by omega)
      have HQ2 := hide (HLs.out j)
      have HQ1 := hide (HRs.out j)
      rw [HLs.out] at hle
      have hr := HF.out j hlt
      have hz := zz_le hr
      obtain ⟨bb, oo, cpv, hv, hcj⟩ : ∃ bb oo cp, Value.slice av n nv = .slice (some ⟨bb, oo, none⟩) n cp ∧ wr.cell? ⟨bb, oo + j, none⟩ = some (.int .i64 (f j)) := by
        rcases HI2.out with ⟨rfl, _⟩ | ⟨h0, b, o, cap, e, hc⟩
        · omega
        · exact ⟨b, o, cap, e, hc j hlt⟩
      obtain ⟨rfl, rfl⟩ : av = some ⟨bb, oo, none⟩ ∧ nv = cpv := by cases hv; exact ⟨rfl, rfl⟩
      clear hv
      generalize rowB low (lst f j) = L at *
      generalize hm : Ln j = m at *
      clear hm
      obtain ⟨hr1, hr2⟩ := hr
      have HZ1 : Hid (f j < 0 → ((zz (f j) : Nat) : Int) = -(2 * f j) - 1) := fun h => by unfold zz; rw [if_pos h]; omega
      have HZ2 : Hid (¬ f j < 0 → ((zz (f j) : Nat) : Int) = 2 * f j) := fun h => by unfold zz; rw [if_neg h]; omega
      generalize zz (f j) = x at *
      generalize f j = y at *
      go_upto_if 26 with fail
      go_cut [7] (fun t wx => t = .int .i64 (x : Nat) ∧ wr = wx)
      case first =>
        by_cases c : y < 0
        · have e := HZ1.out c
          go_wp2
          go_meet
          exact ⟨by rw [e], rfl⟩
        · have e := HZ2.out c
          go_wp2
          go_meet
          exact ⟨by rw [e], rfl⟩
      case rest =>
        obtain ⟨rfl, rfl⟩ := hcut
        have HQ3 : Hid (bitsN low x = (List.replicate (x / 2 ^ low) 1 ++ [0]) ++ lst (lb low x) low) := rfl
        have hP := pow_le_128 (Nat.le_refl low) hl
        have hP0 := pow_pos2 low
        have HPw := hide (fun b (hb : b ≤ low) => pow_le_128 hb hl)
        clear hcj HZ1 HZ2 hr1 hr2 HF
        go_wp2
        go_loop [8, 9] (fun p b => ∃ k : Nat, k ≤ low ∧ b = .int .i64 k ∧ p = .int .i64 (2 ^ k : Nat)) (fun _ b => low - (intOf b).toNat)
        case atStart => exact ⟨0, Nat.zero_le _, rfl, rfl⟩
        case round =>
          obtain ⟨k, hk, rfl, rfl⟩ := hrel
          by_cases hkl : k < low
          · have h1 := HPw.out k (by omega)
            have HS : Hid ((2 ^ (k + 1) : Nat) = 2 * 2 ^ k) := by unfold Hid; rw [Nat.pow_succ, Nat.mul_comm]
            generalize (2 ^ k : Nat) = p at *
            go_wp2
            go_round
            case rel => exact ⟨k + 1, by omega, by go_num, by rw [HS.out]; first | rfl | (congr 1)⟩
            case measure => simp [intOf]; omega
          · obtain rfl : k = low := by omega
            have d1 : ((x : Nat) : Int) / ((2 ^ k : Nat) : Int) = ((x / 2 ^ k : Nat) : Int) := (Int.natCast_ediv _ _).symm
            have d2 : ((x : Nat) : Int).tdiv ((2 ^ k : Nat) : Int) = ((x / 2 ^ k : Nat) : Int) := by rw [Int.tdiv_eq_ediv_of_nonneg (by omega)]; exact d1
            have d3 : ¬ ((2 ^ k : Nat) : Int) = 0 := by omega
            have d4 : ((x : Nat) : Int) % ((2 ^ k : Nat) : Int) = ((x % 2 ^ k : Nat) : Int) := (Int.natCast_emod _ _).symm
            have d5 : ((x : Nat) : Int).tmod ((2 ^ k : Nat) : Int) = ((x % 2 ^ k : Nat) : Int) := by rw [Int.tmod_eq_emod_of_nonneg (by omega)]; exact d4
            have hq := Nat.div_le_self x (2 ^ k)
            have hr := Nat.mod_le x (2 ^ k)
            generalize hPP : (2 ^ k : Nat) = P at *
            generalize hqq : x / P = q at *
            generalize hrr : x % P = r at *
            have HPP := hide hPP
            have HRR := hide hrr
            clear hPP hqq hrr
            go_wp2
            go_loopw [5, 10] (fun u i wx => ∃ (d : Nat) (ad : Option Addr) (cp : Nat), d ≤ q ∧ i = .int .i64 ((q - d : Nat) : Int) ∧ u = .slice ad (m + d) cp ∧ Hid (wx.ownsRow w.heap.size 3 1 u (m + d) (encI (L ++ List.replicate d 1))) ∧ Below w.heap.size w wx) (fun _ i _ => (intOf i).toNat)
            case atStart => exact ⟨0, adr, cpr, Nat.zero_le _, by simp, rfl, hide (by simpa using HY.out), HB.out⟩
            case round =>
              obtain ⟨d, ad2, cp2, hd, rfl, rfl, HY2, hb2⟩ := hrel
              have HB2 := hide hb2
              have hsz2 := hb2.size
              clear hb2
              by_cases hdq : d < q
              · have hg : (0 : Int) < ((q - d : Nat) : Int) := by omega
                have hs1 : ((q - d : Nat) : Int) - 1 = ((q - (d + 1) : Nat) : Int) := by omega
                have hs3 : ((q - d : Nat) : Int) ≤ 1000 := by omega
                have HS2 : Hid ((intOf (.int .i64 ((q - (d + 1) : Nat) : Int))).toNat < (intOf (.int .i64 ((q - d : Nat) : Int))).toNat) := by unfold Hid; simp [intOf]; omega
                generalize hA : ((q - d : Nat) : Int) = A at *
                generalize hA2 : ((q - (d + 1) : Nat) : Int) = A2 at *
                have HA2 := hide hA2
                clear hA hA2
                go_wp2_with (at_builtin; refine wpList_append_lies _ rfl _ _ 36 rfl w.heap.size 3 i0 (.int .i64 0) 1 8 Tryd.underlying36 Hi.out Hz0.out Hz1.out Hz2.out rfl (by decide) _ _ _ rfl (HY2.out.alloc _) ⟨wr.heap.size, 0, none⟩ 1 1 [.int .i64 1] rfl rfl (cell_one_new _ _ _) (fun x hx => by simp at hx; subst hx; rfl) (by decide) (by unfold maxLen; omega) (by omega) (by simp; omega) _ rfl ?_; intro g3 cap3 w5 hown3 hgrow3 hat3 hlt3)
                go_roundw
                case rel =>
                  have hB5 : Below w.heap.size wr w5 := ((Below.refl w.heap.size wr).alloc hsz2 _).grown hgrow3 (by simp; omega) (fun q hq => (HY2.out.lt q hq).1)
                  have R : d + 1 ≤ q ∧ Value.int .i64 A2 = .int .i64 ((q - (d + 1) : Nat) : Int) ∧ Value.slice (some ⟨g3, 0, none⟩) (m + d + 1) cap3 = .slice (some ⟨g3, 0, none⟩) (m + (d + 1)) cap3
                      ∧ Hid (w5.ownsRow w.heap.size 3 1 (.slice (some ⟨g3, 0, none⟩) (m + d + 1) cap3) (m + (d + 1)) (encI (L ++ List.replicate (d + 1) 1))) ∧ Below w.heap.size w w5 :=
                    ⟨by omega, by rw [HA2.out], rfl, hide (by rw [List.replicate_succ', ← List.append_assoc, encI_snoc]; exact hown3), HB2.out.trans hB5⟩
                  first
                    | exact ⟨d + 1, some ⟨g3, 0, none⟩, cap3, R⟩
                    | ((repeat apply Exists.intro); exact ⟨⟨d + 1, some ⟨g3, 0, none⟩, cap3, R⟩, rfl⟩)
                case measure => exact HS2.out
              · obtain rfl : d = q := by omega
                have e0 : ((d - d : Nat) : Int) = 0 := by omega
                rw [e0]
                go_wp2_with (at_builtin; refine wpList_append_lies _ rfl _ _ 36 rfl w.heap.size 3 i0 (.int .i64 0) 1 8 Tryd.underlying36 Hi.out Hz0.out Hz1.out Hz2.out rfl (by decide) _ _ _ rfl (HY2.out.alloc _) ⟨wr.heap.size, 0, none⟩ 1 1 [.int .i64 0] rfl rfl (cell_one_new _ _ _) (fun x hx => by simp at hx; subst hx; rfl) (by decide) (by unfold maxLen; omega) (by omega) (by simp; omega) _ rfl ?_; intro g3 cap3 w5 hown3 hgrow3 hat3 hlt3)
                have hB5 : Below w.heap.size wr w5 := ((Below.refl w.heap.size wr).alloc hsz2 _).grown hgrow3 (by simp; omega) (fun q hq => (HY2.out.lt q hq).1)
                have HX5 : Hid (w5.ownsRow w.heap.size 3 1 (.slice (some ⟨g3, 0, none⟩) (m + d + 1) cap3) (m + d + 1) (encI (L ++ (List.replicate d 1 ++ [0])))) := by
                  unfold Hid; rw [← List.append_assoc, encI_snoc]; exact hown3
                have HB5 := hide (HB2.out.trans hB5)
                clear hown3 hgrow3 hat3 hlt3 hB5
                have hsz5 := HB5.out.size
                clear HY2 HB2 hsz2
                rw [← HRR.out, ← HPP.out]
                go_loopw [5, 7, 8] (fun u t p wx => ∃ (i : Nat) (ad : Option Addr) (cp : Nat), i ≤ k ∧ p = .int .i64 (2 ^ (k - i) : Nat) ∧ t = .int .i64 (x % 2 ^ (k - i) : Nat) ∧ u = .slice ad (m + d + 1 + i) cp ∧ Hid (wx.ownsRow w.heap.size 3 1 u (m + d + 1 + i) (encI (L ++ ((List.replicate d 1 ++ [0]) ++ lst (lb k x) i)))) ∧ Below w.heap.size w wx) (fun _ _ p _ => (intOf p).toNat)
                case atStart => exact ⟨0, some ⟨g3, 0, none⟩, cap3, Nat.zero_le _, rfl, rfl, rfl, by rw [lst_zero, List.append_nil]; exact HX5.out, HB5.out⟩
                case round =>
                  obtain ⟨i, ad6, cp6, hi, rfl, rfl, rfl, HY6, hb6⟩ := hrel
                  have HB6 := hide hb6
                  have hsz6 := hb6.size
                  clear hb6
                  by_cases hik : i < k
                  · have eS : k - i = (k - (i + 1)) + 1 := by omega
                    have hlb := lb_step (low := k) (x := x) hik
                    rw [show k - 1 - i = k - (i + 1) by omega] at hlb
                    have hp1 := pow_pos2 (k - (i + 1))
                    have hp2 := HPw.out (k - i) (by omega)
                    have h2p : (2 ^ (k - i) : Nat) = 2 * 2 ^ (k - (i + 1)) := by rw [eS, Nat.pow_succ, Nat.mul_comm]
                    have hmm : x % 2 ^ (k - i) % 2 ^ (k - (i + 1)) = x % 2 ^ (k - (i + 1)) := Nat.mod_mod_of_dvd _ (by rw [h2p]; exact Nat.dvd_mul_left _ _)
                    have HS6 := hide (lst_succ (lb k x) i)
                    have hxr := Nat.mod_le x (2 ^ (k - i))
                    generalize (2 ^ (k - i) : Nat) = P1 at *
                    generalize hPn : (2 ^ (k - (i + 1)) : Nat) = P2 at *
                    have HPn := hide hPn
                    generalize hX1 : x % P1 = X1 at *
                    generalize hX2 : x % P2 = X2 at *
                    have HX2 := hide hX2
                    have q1 : ((P1 : Nat) : Int) / 2 = (P2 : Nat) := by omega
                    have q2 : ((P1 : Nat) : Int).tdiv 2 = (P2 : Nat) := by rw [Int.tdiv_eq_ediv_of_nonneg (by omega)]; exact q1
                    have q3 : ((X1 : Nat) : Int) / ((P2 : Nat) : Int) = lb k x i := by rw [hlb, Int.natCast_ediv]
                    have q4 : ((X1 : Nat) : Int).tdiv ((P2 : Nat) : Int) = lb k x i := by rw [Int.tdiv_eq_ediv_of_nonneg (by omega)]; exact q3
                    have q5 : ((X1 : Nat) : Int) % ((P2 : Nat) : Int) = (X2 : Nat) := by rw [← hmm, Int.natCast_emod]
                    have q6 : ((X1 : Nat) : Int).tmod ((P2 : Nat) : Int) = (X2 : Nat) := by rw [Int.tmod_eq_emod_of_nonneg (by omega)]; exact q5
                    have q7 : ¬ ((P2 : Nat) : Int) = 0 := by omega
                    have hz01 := lb_in k x i
                    have hz0 : 0 ≤ lb k x i := by omega
                    have hz1 : lb k x i ≤ 1 := by omega
                    have HM6 : Hid ((intOf (.int .i64 (P2 : Nat))).toNat < (intOf (.int .i64 (P1 : Nat))).toNat) := by unfold Hid; simp [intOf]; omega
                    have hP1 : P1 ≤ 128 := hp2
                    have hX2l : X2 ≤ 510 := by have := Nat.mod_le x P2; omega
                    generalize lb k x i = z at *
                    clear hPn hX1 hX2 hmm hlb h2p hz01 eS hp2
                    go_wp2_with (at_builtin; refine wpList_append_lies _ rfl _ _ 36 rfl w.heap.size 3 i0 (.int .i64 0) 1 8 Tryd.underlying36 Hi.out Hz0.out Hz1.out Hz2.out rfl (by decide) _ _ _ rfl (HY6.out.alloc _) ⟨wr.heap.size, 0, none⟩ 1 1 [.int .i64 z] rfl rfl (cell_one_new _ _ _) (fun x hx => by simp at hx; subst hx; rfl) (by decide) (by unfold maxLen; omega) (by omega) (by simp; omega) _ rfl ?_; intro g7 cap7 w7 hown7 hgrow7 hat7 hlt7)
                    go_roundw
                    case rel =>
                      have hB7 : Below w.heap.size wr w7 := ((Below.refl w.heap.size wr).alloc hsz6 _).grown hgrow7 (by simp; omega) (fun q hq => (HY6.out.lt q hq).1)
                      have R : i + 1 ≤ k ∧ Value.int .i64 (P2 : Nat) = .int .i64 (2 ^ (k - (i + 1)) : Nat) ∧ Value.int .i64 (X2 : Nat) = .int .i64 (x % 2 ^ (k - (i + 1)) : Nat) ∧ Value.slice (some ⟨g7, 0, none⟩) (m + d + 1 + i + 1) cap7 = .slice (some ⟨g7, 0, none⟩) (m + d + 1 + (i + 1)) cap7
                          ∧ Hid (w7.ownsRow w.heap.size 3 1 (.slice (some ⟨g7, 0, none⟩) (m + d + 1 + i + 1) cap7) (m + d + 1 + (i + 1)) (encI (L ++ ((List.replicate d 1 ++ [0]) ++ lst (lb k x) (i + 1))))) ∧ Below w.heap.size w w7 :=
                        ⟨by omega, by rw [HPn.out], by rw [HPn.out, HX2.out], rfl, hide (by rw [HS6.out, ← List.append_assoc, ← List.append_assoc, encI_snoc, List.append_assoc]; exact hown7), HB6.out.trans hB7⟩
                      first
                        | exact ⟨i + 1, some ⟨g7, 0, none⟩, cap7, R⟩
                        | ((repeat apply Exists.intro); exact ⟨⟨i + 1, some ⟨g7, 0, none⟩, cap7, R⟩, rfl⟩)
                    case measure => exact HM6.out
                  · obtain rfl : i = k := by omega
                    have e1 : i - i = 0 := by omega
                    rw [e1]
                    have e2 : (2 ^ 0 : Nat) = 1 := rfl
                    rw [e2]
                    have e3 : x % 1 = 0 := Nat.mod_one x
                    rw [e3]
                    have HE : Hid (m + d + 1 + i = Ln (j + 1)) := by unfold Hid; rw [HQ2.out]; omega
                    rw [HE.out] at HY6
                    have HW : Hid (encI (L ++ ((List.replicate d 1 ++ [0]) ++ lst (lb i x) i)) = encI (rowB i (lst f (j + 1)))) := by unfold Hid; rw [HQ1.out, HQ3.out]
                    rw [HE.out]
                    go_wp2
                    go_roundw
                    case rel =>
                      have R : j + 1 ≤ n ∧ Value.int .i64 ((j : Int) + 1) = .int .i64 ((j + 1 : Nat) : Int) ∧ Value.slice ad6 (Ln (j + 1)) cp6 = .slice ad6 (Ln (j + 1)) cp6
                          ∧ Hid (wr.ownsRow w.heap.size 3 1 (.slice ad6 (Ln (j + 1)) cp6) (Ln (j + 1)) (encI (rowB i (lst f (j + 1))))) ∧ Below w.heap.size w wr :=
                        ⟨by omega, by simp, rfl, hide (by rw [← HW.out]; exact HY6.out), HB6.out⟩
                      first
                        | exact ⟨j + 1, ad6, cp6, R⟩
                        | ((repeat apply Exists.intro); exact ⟨⟨j + 1, ad6, cp6, R⟩, rfl⟩)
                    case measure => simp [intOf]; omega
    · obtain rfl : j = n := by omega
      go_wp2
      go_ret
      exact ⟨adr, cpr, rfl, HY.out, HB.out⟩
end Go.Proofs.YtjhflcgphejddaaDoor

namespace Go.Proofs.YtjhflcgphejddaaDoor
open Go.RowKit Go.Maps
set_option linter.unusedVariables false
set_option maxRecDepth 100000

theorem octs_lt {L : List Int} {q : Nat} : q < octs L ↔ 8 * q < L.length := by unfold octs; omega

set_option maxHeartbeats 8000000 in
theorem rbytes_ok {w : World} {v : Value} {N : Nat} {C : Nat → Cd} (a b st : Int) (h : CodsIn w v N C) (hx : seeF a b st N C = 0) :
    Calls Tryd.prog 6 #[.int .i64 a, .int .i64 b, .int .i64 st, v] w fun e w' => e = .returned (.tuple #[.string (bytS a b st N C), .int .i64 (bytF a b st N C : Nat)]) ∧ Below w.heap.size w w' := by
  have K := hide (rseen_any a b st h)
  obtain ⟨ad, cap, rfl, _, _, h3⟩ := h
  obtain ⟨A, B, o⟩ := see_ok hx
  have h1N := o.one
  have h6N := o.six
  obtain ⟨bb, og, rfl, hc⟩ := h3 (by omega)
  have HC := hide hc
  have HBb : Hid (bb < w.heap.size) := by obtain ⟨s9, h9⟩ := hc 0 (by omega); exact cell_lt h9.1
  have HO := hide o
  have HX := hide hx
  have ha : 1 ≤ a ∧ a ≤ 6 := by have := o.wide; have := o.w1; have := o.w6; omega
  have hb : 1 ≤ b ∧ b ≤ 6 := by have := o.high; have := o.h1; have := o.h6; omega
  have hs : 1 ≤ st ∧ st ≤ 64 := ⟨o.s1, o.s2⟩
  have HLen := hide (fun i (hi : i ≤ N) => flmB_len (C := C) o.le (N := i) (fun j hj => o.each j (by omega)))
  have HIn := hide (flmB_in o.each)
  have HSt := hide (flmB_step C)
  have HF : Hid (bytF a b st N C = if 116 < octs (flmB C N) then 4 else 0) := by unfold Hid bytF; rw [if_neg (by omega)]
  have HS : Hid (¬ 116 < octs (flmB C N) → bytS a b st N C = bytT a b st N (flmB C N)) := fun hc => by unfold bytS; rw [if_pos (by rw [HF.out, if_neg hc])]
  have HS4 : Hid (116 < octs (flmB C N) → bytS a b st N C = ByteArray.empty) := fun hc => by unfold bytS; rw [if_neg (by rw [HF.out, if_pos hc]; simp)]
  obtain ⟨i0, hi0, hz0, hz1, hz2⟩ := info_parts Tryd.infoInt
  obtain ⟨i1, hi1, hy0, hy1, hy2⟩ := info_parts Tryd.infoU8
  have Hi := hide hi0
  have Hz0 := hide hz0
  have Hz1 := hide hz1
  have Hz2 := hide hz2
  have Hj := hide hi1
  have Hy0 := hide hy0
  have Hy1 := hide hy1
  have Hy2 := hide hy2
  generalize bytF a b st N C = BF at *
  generalize bytS a b st N C = BS at *
  have HL0 : Hid (encI (flmB C 0) = []) := rfl
  have HL00 : Hid ((flmB C 0).length = 0) := rfl
  clear hc h3 hx o hi0 hz0 hz1 hz2 hi1 hy0 hy1 hy2
  go_enter Tryd.func6, Tryd.ntmps6
  go_wp2_with fail
  refine (K.out).mono ?_
  rintro e w1 ⟨h9, hb1⟩
  obtain ⟨_, u9, rfl, _⟩ := h9.resolve_left (fun q => q.1 HX.out)
  have HB1 := hide hb1
  clear hb1 h9 K HX
  go_wp2
  go_loopw [12, 13] (fun u i wr => ∃ (j : Nat) (adu : Option Addr) (cpu : Nat), j ≤ N ∧ i = .int .i64 j ∧ u = .slice adu (flmB C j).length cpu ∧ Hid (wr.ownsRow w1.heap.size 3 1 u (flmB C j).length (encI (flmB C j))) ∧ Hid (Below w1.heap.size w1 wr)) (fun _ i _ => N - (intOf i).toNat)
  case atStart => exact ⟨0, none, 0, Nat.zero_le _, rfl, rfl, by unfold Hid; rw [HL0.out, HL00.out]; exact World.ownsRow_nil _ _ _ _, Below.refl _ _⟩
  case round =>
    obtain ⟨j, adu, cpu, hj, rfl, rfl, HR, HB⟩ := hrel
    have BW := hide (below_two HB1.out HB.out)
    by_cases hlt : j < N
    · obtain ⟨s, hs9⟩ := HC.out j hlt
      obtain ⟨e0, e1, e2, e3, hi⟩ := hs9.below BW.out
      have ok := HO.out.each j hlt
      have hx := ok.x
      have hy := ok.y
      have hle := HO.out.le
      have hn := ok.n
      have hl := HLen.out j (by omega)
      have hl2 : (flmB C j).length ≤ 111918 := by
        have := Nat.mul_le_mul hlt (Nat.le_refl 18653)
        omega
      have HSj := hide (HSt.out j)
      have hhd : Hid (hdB (C j) = if (C j).al = true then [1] else [0, ((C j).x + 1) / 2, ((C j).x + 1) % 2, ((C j).y + 1) / 2, ((C j).y + 1) % 2]) := rfl
      have HCo : Hid (codB (C j) = hdB (C j) ++ rowB 2 (lst (C j).f (C j).n)) := rfl
      have HI := hide hs9.2.2.2.2
      have HE3 := hide hs9.2.2.2.1
      have HRs := hide (fun i (hi : i < (C j).n) => ok.f i (by rw [← hn]; exact hi))
      have hn1 : 1 ≤ (C j).n := by have := HO.out.pos; omega
      have hn36 : (C j).n ≤ 36 := by omega
      have HLr := hide (rowB_len 2 (C j).f (C j).n)
      have HLg := hide (lenN_ge (low := 2) (f := (C j).f) (C j).n)
      have HLl := hide (lenN_le (low := 2) (f := (C j).f) (by omega) (n := (C j).n) HRs.out)
      obtain ⟨ads, cps, rfl⟩ := slice_shape hi
      clear hs9 hi ok hle hn hl
      generalize (C j).al = al at *
      generalize (C j).x = X at *
      generalize (C j).y = Y at *
      generalize (C j).n = n at *
      generalize (C j).f = f at *
      generalize hdB (C j) = H at *
      generalize codB (C j) = D at *
      generalize hL2 : flmB C (j + 1) = L2 at *
      have HL2 := hide hL2
      clear hL2
      generalize flmB C j = L at *
      have hszr := HB.out.size
      go_upto_if 41 with fail
      go_cut [12] (fun u wx => ∃ adx cpx, u = .slice adx (L.length + H.length) cpx ∧ Hid (wx.ownsRow w1.heap.size 3 1 u (L.length + H.length) (encI (L ++ H))) ∧ Hid (Below w1.heap.size wr wx) ∧ Hid (H.length ≤ 5))
      case first =>
        cases al with
        | true =>
          rw [if_pos rfl] at hhd
          obtain rfl := hhd.out
          go_wp2_with (at_builtin; refine wpList_append_lies _ rfl _ _ 36 rfl w1.heap.size 3 i0 (.int .i64 0) 1 8 Tryd.underlying36 Hi.out Hz0.out Hz1.out Hz2.out rfl (by decide) _ _ _ rfl (HR.out.alloc _) ⟨wr.heap.size, 0, none⟩ 1 1 [.int .i64 1] rfl rfl (cell_one_new _ _ _) (fun x hx => by simp at hx; subst hx; rfl) (by decide) (by unfold maxLen; omega) (by omega) (by simp; omega) _ rfl ?_; intro g3 cap3 w5 hown3 hgrow3 hat3 hlt3)
          go_meet
          have hB5 : Below w1.heap.size wr w5 := ((Below.refl w1.heap.size wr).alloc (by omega) _).grown hgrow3 (by simp; omega) (fun q hq => (HR.out.lt q hq).1)
          exact ⟨_, _, rfl, by unfold Hid; rw [encI_snoc]; exact hown3, hB5, by unfold Hid; simp⟩
        | false =>
          rw [if_neg (by simp)] at hhd
          obtain rfl := hhd.out
          have d1 : (X + 1).tdiv 2 = (X + 1) / 2 := Int.tdiv_eq_ediv_of_nonneg (by omega)
          have d2 : (X + 1).tmod 2 = (X + 1) % 2 := Int.tmod_eq_emod_of_nonneg (by omega)
          have d3 : (Y + 1).tdiv 2 = (Y + 1) / 2 := Int.tdiv_eq_ediv_of_nonneg (by omega)
          have d4 : (Y + 1).tmod 2 = (Y + 1) % 2 := Int.tmod_eq_emod_of_nonneg (by omega)
          have x0 : IntKind.i64.wrap (X + 1) = X + 1 := by rw [IntKind.wrap_i64]; omega
          have y0 : IntKind.i64.wrap (Y + 1) = Y + 1 := by rw [IntKind.wrap_i64]; omega
          have w1' : IntKind.i64.wrap ((X + 1) / 2) = (X + 1) / 2 := by rw [IntKind.wrap_i64]; omega
          have w2' : IntKind.i64.wrap ((X + 1) % 2) = (X + 1) % 2 := by rw [IntKind.wrap_i64]; omega
          have w3' : IntKind.i64.wrap ((Y + 1) / 2) = (Y + 1) / 2 := by rw [IntKind.wrap_i64]; omega
          have w4' : IntKind.i64.wrap ((Y + 1) % 2) = (Y + 1) % 2 := by rw [IntKind.wrap_i64]; omega
          generalize (X + 1) / 2 = x1 at *
          generalize (X + 1) % 2 = x2 at *
          generalize (Y + 1) / 2 = y1 at *
          generalize (Y + 1) % 2 = y2 at *
          go_wp2_with (at_builtin; refine wpList_append_lies _ rfl _ _ 36 rfl w1.heap.size 3 i0 (.int .i64 0) 1 8 Tryd.underlying36 Hi.out Hz0.out Hz1.out Hz2.out rfl (by decide) _ _ _ rfl (HR.out.alloc _) ⟨wr.heap.size, 0, none⟩ 5 5 [.int .i64 0, .int .i64 x1, .int .i64 x2, .int .i64 y1, .int .i64 y2] rfl rfl (World.news_of_block (cs := #[.int .i64 0, .int .i64 x1, .int .i64 x2, .int .i64 y1, .int .i64 y2]) (t := 3) (fr := (0, 0)) (heap_alloc_new wr _)) (fun x hx => by simp at hx; rcases hx with rfl | rfl | rfl | rfl | rfl <;> rfl) (by decide) (by unfold maxLen; omega) (by omega) (by simp; omega) _ rfl ?_; intro g3 cap3 w5 hown3 hgrow3 hat3 hlt3)
          go_meet
          have hB5 : Below w1.heap.size wr w5 := ((Below.refl w1.heap.size wr).alloc (by omega) _).grown hgrow3 (by simp; omega) (fun q hq => (HR.out.lt q hq).1)
          have e9 : encI (L ++ [0, x1, x2, y1, y2]) = encI L ++ [.int .i64 0, .int .i64 x1, .int .i64 x2, .int .i64 y1, .int .i64 y2] := by simp [encI]
          exact ⟨_, _, rfl, by unfold Hid; rw [e9]; exact hown3, hB5, by unfold Hid; simp⟩
      case rest =>
        obtain ⟨adx, cpx, rfl, HRx, HBx, hH5⟩ := hcut
        have BX : Hid (Below w1.heap.size w1 wc) := HB.out.trans HBx.out
        have BXw := hide (below_two HB1.out BX.out)
        have c3 := cell_below BXw.out HE3.out
        have hiX := HI.out.below BXw.out
        have K := hide (rrice_ok (low := 2) hiX (by omega) (by omega) HRs.out)
        have hln : lenN 2 f n ≤ 18648 := by have := HLl.out; omega
        have hlg : 1 ≤ lenN 2 f n := by have := HLg.out; omega
        have HDe : Hid (encI L2 = encI (L ++ H) ++ encI (rowB 2 (lst f n))) := by
          unfold Hid; rw [HSj.out, HCo.out, ← List.append_assoc]; simp [encI]
        have HDl : Hid (L2.length = L.length + H.length + lenN 2 f n) := by
          unfold Hid; rw [HSj.out, HCo.out, List.length_append, List.length_append, HLr.out]; omega
        have hel : (encI (rowB 2 (lst f n))).length = lenN 2 f n := by rw [encI_len, HLr.out]
        have HEl := hide hel
        have hszx := HBx.out.size
        have h5 := hH5.out
        clear hiX e0 e1 e2 e3 hel
        generalize rowB 2 (lst f n) = RB at *
        generalize lenN 2 f n = M at *
        go_wp2_with fail
        refine (K.out).mono ?_
        rintro e w2 ⟨ad2, cp2, rfl, ho2, hb2⟩
        obtain ⟨g2, cap2, hge⟩ := Joins.ownsRow_form ho2 (by omega)
        obtain ⟨rfl, rfl⟩ : ad2 = some ⟨g2, 0, none⟩ ∧ cp2 = cap2 := by cases hge; exact ⟨rfl, rfl⟩
        have HO2 := hide ho2
        have HN2 := hide (World.ownsRow.cells ho2 (g := g2) rfl)
        have HRx2 := hide (own_below HRx.out hb2)
        have HB2 : Hid (Below w1.heap.size wr w2) := HBx.out.trans (hb2.mono (by omega))
        have hsz2 := hb2.size
        clear ho2 hb2 hge K c3
        go_wp2_with (at_builtin; refine wpList_append_lies _ rfl _ _ 36 rfl w1.heap.size 3 i0 (.int .i64 0) 1 8 Tryd.underlying36 Hi.out Hz0.out Hz1.out Hz2.out rfl (by decide) _ _ _ rfl HRx2.out ⟨g2, 0, none⟩ M cp2 (encI RB) rfl (by rw [HEl.out]; omega) HN2.out (fun x hx => by simp [encI] at hx; obtain ⟨q, _, rfl⟩ := hx; rfl) (by omega) (by unfold maxLen; omega) (by omega) (by omega) _ rfl ?_; intro g3 cap3 w5 hown3 hgrow3 hat3 hlt3)
        go_roundw
        case rel =>
          have hB5 : Below w1.heap.size w2 w5 := (Below.refl w1.heap.size w2).grown hgrow3 (by omega) (fun q hq => (HRx2.out.lt q hq).1)
          have R : j + 1 ≤ N ∧ Value.int .i64 ((j : Int) + 1) = .int .i64 ((j + 1 : Nat) : Int) ∧ Value.slice (some ⟨g3, 0, none⟩) (L.length + H.length + M) cap3 = .slice (some ⟨g3, 0, none⟩) L2.length cap3 ∧ Hid (w5.ownsRow w1.heap.size 3 1 (.slice (some ⟨g3, 0, none⟩) (L.length + H.length + M) cap3) L2.length (encI L2)) ∧ Hid (Below w1.heap.size w1 w5) :=
            ⟨by omega, by simp, by rw [HDl.out], by unfold Hid; rw [HDl.out, HDe.out]; exact hown3, (HB.out.trans HB2.out).trans hB5⟩
          first
            | (refine ⟨j + 1, some ⟨g3, 0, none⟩, cap3, ?_⟩; rw [HL2.out]; exact R)
            | (refine ⟨_, ⟨j + 1, some ⟨g3, 0, none⟩, cap3, ?_⟩, rfl⟩; rw [HL2.out]; exact R)
        case measure => simp [intOf]; omega
    · obtain rfl : j = N := by omega
      have hl := HLen.out j (Nat.le_refl _)
      have hl2 : (flmB C j).length ≤ 111918 := by
        have := Nat.mul_le_mul h6N (Nat.le_refl 18653)
        omega
      generalize flmB C j = L at *
      have u1 : IntKind.u8.wrap a = a := by rw [IntKind.wrap_u8]; omega
      have u2 : IntKind.u8.wrap b = b := by rw [IntKind.wrap_u8]; omega
      have u3 : IntKind.u8.wrap st = st := by rw [IntKind.wrap_u8]; omega
      have u4 : IntKind.u8.wrap (j : Int) = (j : Int) := by rw [IntKind.wrap_u8]; omega
      have hszr := HB.out.size
      have HG1 : Hid (∀ b ∈ L, b = 0 ∨ b = 1) := HIn.out
      have HGL : Hid (IntsIn wr (.slice adu L.length cpu) L.length (fun k => L.getD k 0)) := rowV_in HR.out rfl
      have HOB : Hid (∀ k, (Value.slice adu L.length cpu).ownBlock = some k → k < wr.heap.size) := fun k e => (HR.out.lt k e).2
      have HO4 : Hid ((wr.alloc (.cells #[.int .u8 a, .int .u8 b, .int .u8 st, .int .u8 (j : Int)] 5)).ownsRow wr.heap.size 5 1 (.slice (some ⟨wr.heap.size, 0, none⟩) (4 + 0) 4) (4 + 0) (encU (4 + 0) (byU a b st j L))) := by
        have h9 := own_lit (e := 5) wr (B := wr.heap.size) #[.int .u8 a, .int .u8 b, .int .u8 st, .int .u8 (j : Int)] (Nat.le_refl _) (by simp [maxLen])
        have q0 : ((byU a b st j L 0).toNat : Int) = a := by show (((UInt8.ofNat a.toNat).toNat : Nat) : Int) = a; rw [u8_of (by omega)]; omega
        have q1 : ((byU a b st j L 1).toNat : Int) = b := by show (((UInt8.ofNat b.toNat).toNat : Nat) : Int) = b; rw [u8_of (by omega)]; omega
        have q2 : ((byU a b st j L 2).toNat : Int) = st := by show (((UInt8.ofNat st.toNat).toNat : Nat) : Int) = st; rw [u8_of (by omega)]; omega
        have q3 : ((byU a b st j L 3).toNat : Int) = (j : Int) := by show (((UInt8.ofNat j).toNat : Nat) : Int) = j; rw [u8_of (by omega)]
        have e4 : encU 4 (byU a b st j L) = [.int .u8 a, .int .u8 b, .int .u8 st, .int .u8 (j : Int)] := by
          rw [encU_snoc, encU_snoc, encU_snoc, encU_snoc, q0, q1, q2, q3]; rfl
        unfold Hid
        rw [Nat.add_zero, e4]
        exact h9
      have hal := (Below.refl wr.heap.size wr).alloc (Nat.le_refl _) (.cells #[.int .u8 a, .int .u8 b, .int .u8 st, .int .u8 (j : Int)] 5)
      have HG4 := hide (HGL.out.below hal)
      have HB4 := hide (below_two BW.out hal)
      have HZ4 : Hid (wr.heap.size ≤ (wr.alloc (.cells #[.int .u8 a, .int .u8 b, .int .u8 st, .int .u8 (j : Int)] 5)).heap.size) := hal.size
      have HWB : Hid (w.heap.size ≤ wr.heap.size) := BW.out.size
      have HUq : Hid (∀ q, ((byU a b st j L (4 + q)).toNat : Int) = (octN L q : Int)) := fun q => by
        unfold byU
        rw [if_neg (by omega), if_neg (by omega), if_neg (by omega), if_neg (by omega), show 4 + q - 4 = q by omega, u8_of (octN_lt HG1.out q)]
      have HO8 := hide (octN_lt HG1.out)
      have HTe : Hid (bytT a b st j L = bytesB (4 + octs L) (byU a b st j L)) := rfl
      clear hal HR BW HB
      go_wp2
      generalize wr.heap.size = B2 at *
      generalize byU a b st j L = U at *
      go_loopw [16, 17] (fun u i wx => ∃ (q : Nat) (adx : Option Addr) (cpx : Nat), q ≤ octs L ∧ i = .int .i64 ((8 * q : Nat) : Int) ∧ u = .slice adx (4 + q) cpx ∧ Hid (wx.ownsRow B2 5 1 u (4 + q) (encU (4 + q) U)) ∧ Hid (IntsIn wx (.slice adu L.length cpu) L.length (fun k => L.getD k 0)) ∧ Hid (B2 ≤ wx.heap.size) ∧ Hid (Below w.heap.size w wx)) (fun _ i _ => L.length + 8 - (intOf i).toNat)
      case atStart => exact ⟨0, _, _, Nat.zero_le _, rfl, rfl, HO4, HG4, HZ4, HB4⟩
      case round =>
        obtain ⟨q, adx, cpx, hq, rfl, rfl, HRo, HGr, HZr, HBr⟩ := hrel
        clear HG4 HZ4 HB4 HO4 HGL
        by_cases hql : q < octs L
        · have hq8 := octs_lt.1 hql
          have h8q : 8 * q ≤ 111918 := by omega
          have hqb : q ≤ 13990 := by omega
          have hsr := HZr.out
          have HV := hide (fun t => valN_succ (fun k => L.getD k 0) (8 * q) 0 t)
          have HVl := hide (fun t (ht : t ≤ 8) => (valN_lt (g := fun k => L.getD k 0) (p := 8 * q) (v := 0) (k := t) (fun i _ => bits_getD HG1.out _)).2)
          have HV8 : Hid (valN (fun k => L.getD k 0) (8 * q) 0 8 = octN L q) := rfl
          have HV0 : Hid (valN (fun k => L.getD k 0) (8 * q) 0 0 = 0) := rfl
          have hbig : ∀ t, t ≤ 8 → 2 ^ t ≤ 256 := fun t ht => Nat.le_trans (Nat.pow_le_pow_right (by omega) ht) (by decide)
          have HBg := hide hbig
          have hUq := HUq.out q
          have hlt8 := HO8.out q
          have HUQ := hide hUq
          clear hbig hUq
          generalize hVV : valN (fun k => L.getD k 0) (8 * q) 0 = VV at *
          clear hVV
          have h8i : IntKind.i64.wrap (((8 * q : Nat) : Int) + 8) = ((8 * q : Nat) : Int) + 8 := by rw [IntKind.wrap_i64]; omega
          generalize h8 : 8 * q = q8 at *
          have H8 := hide h8
          clear h8
          go_wp2
          go_loop [18, 19] (fun n k => ∃ t : Nat, t ≤ 8 ∧ k = .int .i64 ((q8 + t : Nat) : Int) ∧ n = .int .i64 ((VV t : Nat) : Int)) (fun _ k => q8 + 8 - (intOf k).toNat)
          case atStart => exact ⟨0, by omega, by simp, by rw [HV0.out]; rfl⟩
          case round =>
            obtain ⟨t, ht, rfl, rfl⟩ := hrel
            by_cases ht8 : t < 8
            · have hvb := HVl.out t ht
              have hpw := HBg.out t ht
              have hvs := HV.out t
              have hv1 : VV t < 256 := by omega
              have hw1 : IntKind.i64.wrap (2 * ((VV t : Nat) : Int)) = 2 * ((VV t : Nat) : Int) := by rw [IntKind.wrap_i64]; omega
              by_cases hin : q8 + t < L.length
              · obtain ⟨bL, oL, cL, hLe, hLc⟩ : ∃ b o c, Value.slice adu L.length cpu = .slice (some ⟨b, o, none⟩) L.length c ∧ ∀ i, i < L.length → wr.cell? ⟨b, o + i, none⟩ = some (.int .i64 (L.getD i 0)) := by
                  rcases HGr.out with ⟨h, _⟩ | ⟨_, b, o, c, e, hc⟩
                  · omega
                  · exact ⟨_, _, _, e, hc⟩
                obtain ⟨rfl, rfl⟩ : adu = some ⟨bL, oL, none⟩ ∧ cpu = cL := by cases hLe; exact ⟨rfl, rfl⟩
                have hcz := hLc _ hin
                have hz := bits_getD HG1.out (q8 + t)
                obtain ⟨z, hze, hz1⟩ : ∃ z : Nat, L.getD (q8 + t) 0 = (z : Int) ∧ z ≤ 1 := by
                  rcases hz with h | h
                  · exact ⟨0, by rw [h]; rfl, by omega⟩
                  · exact ⟨1, by rw [h]; rfl, by omega⟩
                have hvs2 : VV (t + 1) = 2 * VV t + z := by rw [hvs, hze]; simp
                rw [hze] at hcz
                have HVs := hide hvs2
                clear hvs hvs2 hz hze hLe hLc hvb hpw
                generalize VV t = vt at *
                go_wp2
                go_round
                case rel => exact ⟨t + 1, by omega, by go_num, by rw [HVs.out]; go_num⟩
                case measure => simp [intOf]; omega
              · have hz0 : L.getD (q8 + t) 0 = 0 := by simp [List.getD, List.getElem?_eq_none (Nat.le_of_not_lt hin)]
                have hvs2 : VV (t + 1) = 2 * VV t := by rw [hvs, hz0]; simp
                have HVs := hide hvs2
                clear hvs hvs2 hz0 hvb hpw
                generalize VV t = vt at *
                go_wp2
                go_round
                case rel => exact ⟨t + 1, by omega, by go_num, by rw [HVs.out]; go_num⟩
                case measure => simp [intOf]; omega
            · obtain rfl : t = 8 := by omega
              rw [HV8.out]
              have hwb : IntKind.u8.wrap ((octN L q : Nat) : Int) = ((octN L q : Nat) : Int) := by rw [IntKind.wrap_u8]; omega
              have HUe : Hid (encU (4 + (q + 1)) U = encU (4 + q) U ++ [.int .u8 ((octN L q : Nat) : Int)]) := by
                unfold Hid; rw [← HUQ.out, ← Nat.add_assoc, encU_snoc]
              generalize octN L q = oq at *
              go_wp2_with (at_builtin; refine wpList_append_lies _ rfl _ _ 55 rfl B2 5 i1 (.int .u8 0) 1 1 Tryd.underlying55 Hj.out Hy0.out Hy1.out Hy2.out rfl (by decide) _ _ _ rfl (HRo.out.alloc _) ⟨wr.heap.size, 0, none⟩ 1 1 [.int .u8 ((oq : Nat) : Int)] rfl rfl (cell_one_new _ _ _) (fun x hx => by simp at hx; subst hx; rfl) (by decide) (by unfold maxLen; omega) (by omega) (by simp; omega) _ rfl ?_; intro g3 cap3 w5 hown3 hgrow3 hat3 hlt3)
              go_roundw
              case rel =>
                have hB5 : Below B2 wr w5 := ((Below.refl B2 wr).alloc (by omega) _).grown hgrow3 (by simp; omega) (fun q hq => (HRo.out.lt q hq).1)
                have hI5 : IntsIn w5 (.slice adu L.length cpu) L.length (fun k => L.getD k 0) := ints_mono HGr.out hB5 HOB.out
                have R : q + 1 ≤ octs L ∧ Value.int .i64 ((q8 : Int) + 8) = .int .i64 ((8 * (q + 1) : Nat) : Int) ∧ Value.slice (some ⟨g3, 0, none⟩) (4 + q + 1) cap3 = .slice (some ⟨g3, 0, none⟩) (4 + (q + 1)) cap3 ∧ Hid (w5.ownsRow B2 5 1 (.slice (some ⟨g3, 0, none⟩) (4 + q + 1) cap3) (4 + (q + 1)) (encU (4 + (q + 1)) U)) ∧ Hid (IntsIn w5 (.slice adu L.length cpu) L.length (fun k => L.getD k 0)) ∧ Hid (B2 ≤ w5.heap.size) ∧ Hid (Below w.heap.size w w5) :=
                  ⟨by omega, by rw [← H8.out]; simp; omega, rfl, by unfold Hid; rw [HUe.out]; exact hown3, hI5, Nat.le_trans hsr hB5.size, HBr.out.trans (hB5.mono HWB.out)⟩
                first
                  | exact ⟨q + 1, some ⟨g3, 0, none⟩, cap3, R⟩
                  | ((repeat apply Exists.intro); exact ⟨⟨q + 1, some ⟨g3, 0, none⟩, cap3, R⟩, rfl⟩)
              case measure => simp [intOf]; omega
        · obtain rfl : q = octs L := by omega
          have hge : ¬ 8 * octs L < L.length := fun h => hql (octs_lt.2 h)
          by_cases c : 116 < octs L
          · have e1 := HF.out
            rw [if_pos c] at e1
            have e2 := HS4.out c
            have HE1 := hide e1
            have HE2 := hide e2
            clear e1 e2
            go_wp2
            go_ret2
            exact ⟨by rw [HE1.out, HE2.out]; rfl, HBr.out⟩
          · have e1 := HF.out
            rw [if_neg c] at e1
            have e2 := HS.out c
            have HE1 := hide e1
            have HE2 := hide (e2.trans HTe.out)
            clear e1 e2
            obtain ⟨g6, cap6, hge6⟩ := Joins.ownsRow_form HRo.out (by omega)
            obtain ⟨rfl, rfl⟩ : adx = some ⟨g6, 0, none⟩ ∧ cpx = cap6 := by cases hge6; exact ⟨rfl, rfl⟩
            have hbk := back_row (cap := cpx) (encU_row HRo.out)
            clear hge6
            go_wp2
            go_ret2
            exact ⟨by rw [HE1.out, HE2.out]; rfl, HBr.out⟩
end Go.Proofs.YtjhflcgphejddaaDoor
