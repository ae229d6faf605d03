/-
  Our own contract of dropref2.Rice. Lemmas for the laws above; no statement is proved here.
-/
import Derived.Test.YtjklpcabnppnaaaDoorRcV
import Derived.Test.YtjklpcabnppnaaaDoorRcB
import Derived.Deep.AppendLies
import Derived.Deep.DeepCutAuto
import Derived.Laws.MakeOwn
import Derived.Maps.AppendAt
namespace Go.Proofs.YtjklpcabnppnaaaDoor
open Go.RowKit Go.Maps
set_option linter.unusedVariables false
set_option maxRecDepth 100000

theorem pow_le_128 {b low : Nat} (h : b ≤ low) (hl : low ≤ 7) : 2 ^ b ≤ 128 := Nat.le_trans (Nat.pow_le_pow_right (by omega) (show b ≤ 7 by omega)) (by decide)
theorem pow_pos2 (b : Nat) : 1 ≤ 2 ^ b := Nat.one_le_two_pow

set_option maxHeartbeats 8000000 in
theorem rrice_ok {w : World} {v : Value} {n low : Nat} {f : Nat → Int} (h : IntsIn w v n f) (hn : n ≤ 1048576) (hl : low ≤ 7) (hf : ∀ i, i < n → -255 ≤ f i ∧ f i ≤ 255) :
    Calls Tryd.prog 5 #[v, .int .i64 low] w fun e w' => ∃ ad cp, e = .returned (.slice ad (lenN low f n) cp) ∧ w'.ownsRow w.heap.size 3 1 (.slice ad (lenN low f n) cp) (lenN low f n) (encI (rowB low (lst f n))) ∧ Below w.heap.size w w' := by
  obtain ⟨i0, hi0, hz0, hz1, hz2⟩ := info_parts Tryd.infoInt
  have Hi := hide hi0
  have Hz0 := hide hz0
  have Hz1 := hide hz1
  have Hz2 := hide hz2
  have HI := hide h
  have HF := hide hf
  have HM := hide (fun j (hj : j ≤ n) => Nat.le_trans (lenN_mono (low := low) (f := f) hj) (lenN_le hl hf))
  have HLs := hide (fun j => lenN_succ low f j)
  have HRs := hide (fun j => rowB_succ low f j)
  have HL0 : Hid (lenN low f 0 = 0) := rfl
  generalize hL : lenN low f = Ln at *
  obtain ⟨av, nv, rfl⟩ : ∃ ad cp, v = .slice ad n cp := by
    rcases h with ⟨rfl, a, cap, rfl⟩ | ⟨h0, b, o, cap, rfl, hc⟩
    · exact ⟨_, _, rfl⟩
    · exact ⟨_, _, rfl⟩
  clear h hi0 hz0 hz1 hz2 hf hL
  go_enter Tryd.func5, Tryd.ntmps5
  go_wp2
  go_loopw [5, 6] (fun u i wr => ∃ (j : Nat) (ad : Option Addr) (cp : Nat), j ≤ n ∧ i = .int .i64 j ∧ u = .slice ad (Ln j) cp ∧ Hid (wr.ownsRow w.heap.size 3 1 u (Ln j) (encI (rowB low (lst f j)))) ∧ Below w.heap.size w wr) (fun _ i _ => n - (intOf i).toNat)
  case atStart => exact ⟨0, none, 0, Nat.zero_le _, rfl, by rw [HL0.out], by rw [HL0.out]; exact World.ownsRow_nil _ _ _ _, Below.refl _ _⟩
  case round =>
    obtain ⟨j, adr, cpr, hj, rfl, rfl, HY, hb⟩ := hrel
    have HB := hide hb
    have hsz := hb.size
    clear hb
    by_cases hlt : j < n
    · have HI2 := hide (HI.out.below HB.out)
      have hle := HM.out (j + 1) (by omega)
      have HQ2 := hide (HLs.out j)
      have HQ1 := hide (HRs.out j)
      rw [HLs.out] at hle
      have hr := HF.out j hlt
      have hz := zz_le hr
      obtain ⟨bb, oo, cpv, hv, hcj⟩ : ∃ bb oo cp, Value.slice av n nv = .slice (some ⟨bb, oo, none⟩) n cp ∧ wr.cell? ⟨bb, oo + j, none⟩ = some (.int .i64 (f j)) := by
        rcases HI2.out with ⟨rfl, _⟩ | ⟨h0, b, o, cap, e, hc⟩
        · omega
        · exact ⟨b, o, cap, e, hc j hlt⟩
      obtain ⟨rfl, rfl⟩ : av = some ⟨bb, oo, none⟩ ∧ nv = cpv := by cases hv; exact ⟨rfl, rfl⟩
      clear hv
      generalize rowB low (lst f j) = L at *
      generalize hm : Ln j = m at *
      clear hm
      obtain ⟨hr1, hr2⟩ := hr
      have HZ1 : Hid (f j < 0 → ((zz (f j) : Nat) : Int) = -(2 * f j) - 1) := fun h => by unfold zz; rw [if_pos h]; omega
      have HZ2 : Hid (¬ f j < 0 → ((zz (f j) : Nat) : Int) = 2 * f j) := fun h => by unfold zz; rw [if_neg h]; omega
      generalize zz (f j) = x at *
      generalize f j = y at *
      go_upto_if 26 with fail
      go_cut [7] (fun t wx => t = .int .i64 (x : Nat) ∧ wr = wx)
      case first =>
        by_cases c : y < 0
        · have e := HZ1.out c
          go_wp2
          go_meet
          exact ⟨by rw [e], rfl⟩
        · have e := HZ2.out c
          go_wp2
          go_meet
          exact ⟨by rw [e], rfl⟩
      case rest =>
        obtain ⟨rfl, rfl⟩ := hcut
        have HQ3 : Hid (bitsN low x = (List.replicate (x / 2 ^ low) 1 ++ [0]) ++ lst (lb low x) low) := rfl
        have hP := pow_le_128 (Nat.le_refl low) hl
        have hP0 := pow_pos2 low
        have HPw := hide (fun b (hb : b ≤ low) => pow_le_128 hb hl)
        clear hcj HZ1 HZ2 hr1 hr2 HF
        go_wp2
        go_loop [8, 9] (fun p b => ∃ k : Nat, k ≤ low ∧ b = .int .i64 k ∧ p = .int .i64 (2 ^ k : Nat)) (fun _ b => low - (intOf b).toNat)
        case atStart => exact ⟨0, Nat.zero_le _, rfl, rfl⟩
        case round =>
          obtain ⟨k, hk, rfl, rfl⟩ := hrel
          by_cases hkl : k < low
          · have h1 := HPw.out k (by omega)
            have HS : Hid ((2 ^ (k + 1) : Nat) = 2 * 2 ^ k) := by unfold Hid; rw [Nat.pow_succ, Nat.mul_comm]
            generalize (2 ^ k : Nat) = p at *
            go_wp2
            go_round
            case rel => exact ⟨k + 1, by omega, by go_num, by rw [HS.out]; first | rfl | (congr 1)⟩
            case measure => simp [intOf]; omega
          · obtain rfl : k = low := by omega
            have d1 : ((x : Nat) : Int) / ((2 ^ k : Nat) : Int) = ((x / 2 ^ k : Nat) : Int) := (Int.natCast_ediv _ _).symm
            have d2 : ((x : Nat) : Int).tdiv ((2 ^ k : Nat) : Int) = ((x / 2 ^ k : Nat) : Int) := by rw [Int.tdiv_eq_ediv_of_nonneg (by omega)]; exact d1
            have d3 : ¬ ((2 ^ k : Nat) : Int) = 0 := by omega
            have d4 : ((x : Nat) : Int) % ((2 ^ k : Nat) : Int) = ((x % 2 ^ k : Nat) : Int) := (Int.natCast_emod _ _).symm
            have d5 : ((x : Nat) : Int).tmod ((2 ^ k : Nat) : Int) = ((x % 2 ^ k : Nat) : Int) := by rw [Int.tmod_eq_emod_of_nonneg (by omega)]; exact d4
            have hq := Nat.div_le_self x (2 ^ k)
            have hr := Nat.mod_le x (2 ^ k)
            generalize hPP : (2 ^ k : Nat) = P at *
            generalize hqq : x / P = q at *
            generalize hrr : x % P = r at *
            have HPP := hide hPP
            have HRR := hide hrr
            clear hPP hqq hrr
            go_wp2
            go_loopw [5, 10] (fun u i wx => ∃ (d : Nat) (ad : Option Addr) (cp : Nat), d ≤ q ∧ i = .int .i64 ((q - d : Nat) : Int) ∧ u = .slice ad (m + d) cp ∧ Hid (wx.ownsRow w.heap.size 3 1 u (m + d) (encI (L ++ List.replicate d 1))) ∧ Below w.heap.size w wx) (fun _ i _ => (intOf i).toNat)
            case atStart => exact ⟨0, adr, cpr, Nat.zero_le _, by simp, rfl, hide (by simpa using HY.out), HB.out⟩
            case round =>
              obtain ⟨d, ad2, cp2, hd, rfl, rfl, HY2, hb2⟩ := hrel
              have HB2 := hide hb2
              have hsz2 := hb2.size
              clear hb2
              by_cases hdq : d < q
              · have hg : (0 : Int) < ((q - d : Nat) : Int) := by omega
                have hs1 : ((q - d : Nat) : Int) - 1 = ((q - (d + 1) : Nat) : Int) := by omega
                have hs3 : ((q - d : Nat) : Int) ≤ 1000 := by omega
                have HS2 : Hid ((intOf (.int .i64 ((q - (d + 1) : Nat) : Int))).toNat < (intOf (.int .i64 ((q - d : Nat) : Int))).toNat) := by unfold Hid; simp [intOf]; omega
                generalize hA : ((q - d : Nat) : Int) = A at *
                generalize hA2 : ((q - (d + 1) : Nat) : Int) = A2 at *
                have HA2 := hide hA2
                clear hA hA2
                go_wp2_with (at_builtin; refine wpList_append_lies _ rfl _ _ 22 rfl w.heap.size 3 i0 (.int .i64 0) 1 8 Tryd.underlying22 Hi.out Hz0.out Hz1.out Hz2.out rfl (by decide) _ _ _ rfl (HY2.out.alloc _) ⟨wr.heap.size, 0, none⟩ 1 1 [.int .i64 1] rfl rfl (cell_one_new _ _ _) (fun x hx => by simp at hx; subst hx; rfl) (by decide) (by unfold maxLen; omega) (by omega) (by simp; omega) _ rfl ?_; intro g3 cap3 w5 hown3 hgrow3 hat3 hlt3)
                go_roundw
                case rel =>
                  have hB5 : Below w.heap.size wr w5 := ((Below.refl w.heap.size wr).alloc hsz2 _).grown hgrow3 (by simp; omega) (fun q hq => (HY2.out.lt q hq).1)
                  have R : d + 1 ≤ q ∧ Value.int .i64 A2 = .int .i64 ((q - (d + 1) : Nat) : Int) ∧ Value.slice (some ⟨g3, 0, none⟩) (m + d + 1) cap3 = .slice (some ⟨g3, 0, none⟩) (m + (d + 1)) cap3
                      ∧ Hid (w5.ownsRow w.heap.size 3 1 (.slice (some ⟨g3, 0, none⟩) (m + d + 1) cap3) (m + (d + 1)) (encI (L ++ List.replicate (d + 1) 1))) ∧ Below w.heap.size w w5 :=
                    ⟨by omega, by rw [HA2.out], rfl, hide (by rw [List.replicate_succ', ← List.append_assoc, encI_snoc]; exact hown3), HB2.out.trans hB5⟩
                  first
                    | exact ⟨d + 1, some ⟨g3, 0, none⟩, cap3, R⟩
                    | ((repeat apply Exists.intro); exact ⟨⟨d + 1, some ⟨g3, 0, none⟩, cap3, R⟩, rfl⟩)
                case measure => exact HS2.out
              · obtain rfl : d = q := by omega
                have e0 : ((d - d : Nat) : Int) = 0 := by omega
                rw [e0]
                go_wp2_with (at_builtin; refine wpList_append_lies _ rfl _ _ 22 rfl w.heap.size 3 i0 (.int .i64 0) 1 8 Tryd.underlying22 Hi.out Hz0.out Hz1.out Hz2.out rfl (by decide) _ _ _ rfl (HY2.out.alloc _) ⟨wr.heap.size, 0, none⟩ 1 1 [.int .i64 0] rfl rfl (cell_one_new _ _ _) (fun x hx => by simp at hx; subst hx; rfl) (by decide) (by unfold maxLen; omega) (by omega) (by simp; omega) _ rfl ?_; intro g3 cap3 w5 hown3 hgrow3 hat3 hlt3)
                have hB5 : Below w.heap.size wr w5 := ((Below.refl w.heap.size wr).alloc hsz2 _).grown hgrow3 (by simp; omega) (fun q hq => (HY2.out.lt q hq).1)
                have HX5 : Hid (w5.ownsRow w.heap.size 3 1 (.slice (some ⟨g3, 0, none⟩) (m + d + 1) cap3) (m + d + 1) (encI (L ++ (List.replicate d 1 ++ [0])))) := by
                  unfold Hid; rw [← List.append_assoc, encI_snoc]; exact hown3
                have HB5 := hide (HB2.out.trans hB5)
                clear hown3 hgrow3 hat3 hlt3 hB5
                have hsz5 := HB5.out.size
                clear HY2 HB2 hsz2
                rw [← HRR.out, ← HPP.out]
                go_loopw [5, 7, 8] (fun u t p wx => ∃ (i : Nat) (ad : Option Addr) (cp : Nat), i ≤ k ∧ p = .int .i64 (2 ^ (k - i) : Nat) ∧ t = .int .i64 (x % 2 ^ (k - i) : Nat) ∧ u = .slice ad (m + d + 1 + i) cp ∧ Hid (wx.ownsRow w.heap.size 3 1 u (m + d + 1 + i) (encI (L ++ ((List.replicate d 1 ++ [0]) ++ lst (lb k x) i)))) ∧ Below w.heap.size w wx) (fun _ _ p _ => (intOf p).toNat)
                case atStart => exact ⟨0, some ⟨g3, 0, none⟩, cap3, Nat.zero_le _, rfl, rfl, rfl, by rw [lst_zero, List.append_nil]; exact HX5.out, HB5.out⟩
                case round =>
                  obtain ⟨i, ad6, cp6, hi, rfl, rfl, rfl, HY6, hb6⟩ := hrel
                  have HB6 := hide hb6
                  have hsz6 := hb6.size
                  clear hb6
                  by_cases hik : i < k
                  · have eS : k - i = (k - (i + 1)) + 1 := by omega
                    have hlb := lb_step (low := k) (x := x) hik
                    rw [show k - 1 - i = k - (i + 1) by omega] at hlb
                    have hp1 := pow_pos2 (k - (i + 1))
                    have hp2 := HPw.out (k - i) (by omega)
                    have h2p : (2 ^ (k - i) : Nat) = 2 * 2 ^ (k - (i + 1)) := by rw [eS, Nat.pow_succ, Nat.mul_comm]
                    have hmm : x % 2 ^ (k - i) % 2 ^ (k - (i + 1)) = x % 2 ^ (k - (i + 1)) := Nat.mod_mod_of_dvd _ (by rw [h2p]; exact Nat.dvd_mul_left _ _)
                    have HS6 := hide (lst_succ (lb k x) i)
                    have hxr := Nat.mod_le x (2 ^ (k - i))
                    generalize (2 ^ (k - i) : Nat) = P1 at *
                    generalize hPn : (2 ^ (k - (i + 1)) : Nat) = P2 at *
                    have HPn := hide hPn
                    generalize hX1 : x % P1 = X1 at *
                    generalize hX2 : x % P2 = X2 at *
                    have HX2 := hide hX2
                    have q1 : ((P1 : Nat) : Int) / 2 = (P2 : Nat) := by omega
                    have q2 : ((P1 : Nat) : Int).tdiv 2 = (P2 : Nat) := by rw [Int.tdiv_eq_ediv_of_nonneg (by omega)]; exact q1
                    have q3 : ((X1 : Nat) : Int) / ((P2 : Nat) : Int) = lb k x i := by rw [hlb, Int.natCast_ediv]
                    have q4 : ((X1 : Nat) : Int).tdiv ((P2 : Nat) : Int) = lb k x i := by rw [Int.tdiv_eq_ediv_of_nonneg (by omega)]; exact q3
                    have q5 : ((X1 : Nat) : Int) % ((P2 : Nat) : Int) = (X2 : Nat) := by rw [← hmm, Int.natCast_emod]
                    have q6 : ((X1 : Nat) : Int).tmod ((P2 : Nat) : Int) = (X2 : Nat) := by rw [Int.tmod_eq_emod_of_nonneg (by omega)]; exact q5
                    have q7 : ¬ ((P2 : Nat) : Int) = 0 := by omega
                    have hz01 := lb_in k x i
                    have hz0 : 0 ≤ lb k x i := by omega
                    have hz1 : lb k x i ≤ 1 := by omega
                    have HM6 : Hid ((intOf (.int .i64 (P2 : Nat))).toNat < (intOf (.int .i64 (P1 : Nat))).toNat) := by unfold Hid; simp [intOf]; omega
                    have hP1 : P1 ≤ 128 := hp2
                    have hX2l : X2 ≤ 510 := by have := Nat.mod_le x P2; omega
                    generalize lb k x i = z at *
                    clear hPn hX1 hX2 hmm hlb h2p hz01 eS hp2
                    go_wp2_with (at_builtin; refine wpList_append_lies _ rfl _ _ 22 rfl w.heap.size 3 i0 (.int .i64 0) 1 8 Tryd.underlying22 Hi.out Hz0.out Hz1.out Hz2.out rfl (by decide) _ _ _ rfl (HY6.out.alloc _) ⟨wr.heap.size, 0, none⟩ 1 1 [.int .i64 z] rfl rfl (cell_one_new _ _ _) (fun x hx => by simp at hx; subst hx; rfl) (by decide) (by unfold maxLen; omega) (by omega) (by simp; omega) _ rfl ?_; intro g7 cap7 w7 hown7 hgrow7 hat7 hlt7)
                    go_roundw
                    case rel =>
                      have hB7 : Below w.heap.size wr w7 := ((Below.refl w.heap.size wr).alloc hsz6 _).grown hgrow7 (by simp; omega) (fun q hq => (HY6.out.lt q hq).1)
                      have R : i + 1 ≤ k ∧ Value.int .i64 (P2 : Nat) = .int .i64 (2 ^ (k - (i + 1)) : Nat) ∧ Value.int .i64 (X2 : Nat) = .int .i64 (x % 2 ^ (k - (i + 1)) : Nat) ∧ Value.slice (some ⟨g7, 0, none⟩) (m + d + 1 + i + 1) cap7 = .slice (some ⟨g7, 0, none⟩) (m + d + 1 + (i + 1)) cap7
                          ∧ Hid (w7.ownsRow w.heap.size 3 1 (.slice (some ⟨g7, 0, none⟩) (m + d + 1 + i + 1) cap7) (m + d + 1 + (i + 1)) (encI (L ++ ((List.replicate d 1 ++ [0]) ++ lst (lb k x) (i + 1))))) ∧ Below w.heap.size w w7 :=
                        ⟨by omega, by rw [HPn.out], by rw [HPn.out, HX2.out], rfl, hide (by rw [HS6.out, ← List.append_assoc, ← List.append_assoc, encI_snoc, List.append_assoc]; exact hown7), HB6.out.trans hB7⟩
                      first
                        | exact ⟨i + 1, some ⟨g7, 0, none⟩, cap7, R⟩
                        | ((repeat apply Exists.intro); exact ⟨⟨i + 1, some ⟨g7, 0, none⟩, cap7, R⟩, rfl⟩)
                    case measure => exact HM6.out
                  · obtain rfl : i = k := by omega
                    have e1 : i - i = 0 := by omega
                    rw [e1]
                    have e2 : (2 ^ 0 : Nat) = 1 := rfl
                    rw [e2]
                    have e3 : x % 1 = 0 := Nat.mod_one x
                    rw [e3]
                    have HE : Hid (m + d + 1 + i = Ln (j + 1)) := by unfold Hid; rw [HQ2.out]; omega
                    rw [HE.out] at HY6
                    have HW : Hid (encI (L ++ ((List.replicate d 1 ++ [0]) ++ lst (lb i x) i)) = encI (rowB i (lst f (j + 1)))) := by unfold Hid; rw [HQ1.out, HQ3.out]
                    rw [HE.out]
                    go_wp2
                    go_roundw
                    case rel =>
                      have R : j + 1 ≤ n ∧ Value.int .i64 ((j : Int) + 1) = .int .i64 ((j + 1 : Nat) : Int) ∧ Value.slice ad6 (Ln (j + 1)) cp6 = .slice ad6 (Ln (j + 1)) cp6
                          ∧ Hid (wr.ownsRow w.heap.size 3 1 (.slice ad6 (Ln (j + 1)) cp6) (Ln (j + 1)) (encI (rowB i (lst f (j + 1))))) ∧ Below w.heap.size w wr :=
                        ⟨by omega, by simp, rfl, hide (by rw [← HW.out]; exact HY6.out), HB6.out⟩
                      first
                        | exact ⟨j + 1, ad6, cp6, R⟩
                        | ((repeat apply Exists.intro); exact ⟨⟨j + 1, ad6, cp6, R⟩, rfl⟩)
                    case measure => simp [intOf]; omega
    · obtain rfl : j = n := by omega
      go_wp2
      go_ret
      exact ⟨adr, cpr, rfl, HY.out, HB.out⟩
end Go.Proofs.YtjklpcabnppnaaaDoor
