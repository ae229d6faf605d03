/-
  Lemmas for the law above, joined into one text (RInT, TfN, TopOne). No statement is proved here.
-/
import Derived.Test.YtjhflcgphejddaaGreatDoorZG40
import Derived.Test.YtjhflcgphejddaaGreatDoorZG7
import Derived.Test.YtjhflcgphejddaaGreatDoorZG12
import Derived.Test.YtjhflcgphejddaaGreatDoorZG13
import Derived.Test.YtjhflcgphejddaaGreatDoorZG14
import Derived.Test.YtjhflcgphejddaaGreatDoorZG33
import Derived.Test.YtjhflcgphejddaaGreatDoorZG38
import Derived.Test.YtjhflcgphejddaaGreatDoorZG2
namespace Go.Proofs.YtjhflcgphejddaaGreatDoor
open Go.RowKit Go.Maps
set_option linter.unusedVariables false
set_option maxRecDepth 100000

theorem rin_empty (a : Option Addr) (cap : Nat) (v : Int) (w : World) : Calls Tryz.prog 10 #[.slice a 0 cap, .int .i64 v] w fun e w' => e = .returned (.bool false) ∧ w = w' := by
  go_enter Tryz.func10, Tryz.ntmps10
  go_wp2
  go_loop [5] (fun i => i = .int .i64 0) (fun _ => 0)
  case atStart => rfl
  case round =>
    obtain rfl := hrel
    go_wp2
    go_ret
    exact ⟨rfl, rfl⟩
/-- 'in' the taken ones. -/
theorem rin_T {w : World} {B : Nat} {vT : Value} {T : List Nat} (h : w.ownsRow B 3 1 vT T.length (toV T)) (seed : Int) : ∃ a cap, vT = .slice a T.length cap ∧ T.length ≤ cap ∧ cap ≤ maxLen ∧
    ∃ r : Bool, (r = true ↔ ∃ n : Nat, seed = n ∧ n ∈ T) ∧ ∀ w', Below w.heap.size w w' → Calls Tryz.prog 10 #[vT, .int .i64 seed] w' fun e w'' => e = .returned (.bool r) ∧ w' = w'' := by
  obtain ⟨a, cap, hv, h1, h2, h3⟩ := own_lsh h
  refine ⟨a, cap, hv, h1, h2, ?_⟩
  rcases Nat.eq_zero_or_pos T.length with e | h0
  · refine ⟨false, ⟨(fun h => by cases h), (fun ⟨n, _, hn⟩ => ?_)⟩, fun w' hb => ?_⟩
    · rw [List.eq_nil_of_length_eq_zero e] at hn; cases hn
    · rw [hv, e]; exact rin_empty a cap seed w'
  · obtain ⟨g, cap', hv', q1, q2, q3⟩ := h3 h0
    by_cases hm : ∃ n : Nat, seed = n ∧ n ∈ T
    · obtain ⟨n, rfl, hn⟩ := hm
      obtain ⟨q, hq, he⟩ := List.getElem_of_mem hn
      refine ⟨true, ⟨fun _ => ⟨n, rfl, hn⟩, fun _ => rfl⟩, fun w' hb => ?_⟩
      rw [hv']
      exact rin_yes g 0 _ cap' _ _ w' (by omega) (fun i hi => cell_below hb (q3 i hi)) q hq (by simp [List.getD, hq, he])
    · refine ⟨false, ⟨(fun h => by cases h), (fun h => absurd h hm)⟩, fun w' hb => ?_⟩
      rw [hv']
      exact rin_no g 0 _ cap' _ _ w' (by omega) (fun i hi => cell_below hb (q3 i hi)) (fun i hi e => hm ⟨T.getD i 0, e.symm, by rw [show T.getD i 0 = T[i] by simp [List.getD, hi]]; exact List.getElem_mem hi⟩)
end Go.Proofs.YtjhflcgphejddaaGreatDoor

namespace Go.Proofs.YtjhflcgphejddaaGreatDoor
open Go.RowKit Go.Maps
set_option linter.unusedVariables false
set_option maxRecDepth 100000

theorem see_filF {N : Nat} {P : Nat → Pc} {ev st : Int} {A B : Nat} (ok : FilOk N P ev st A B) : seeF (P 0).a (P 0).b st N (filC A B (P 0).n ev.toNat st fun i => (P i).f) = 0 := by
  have h1 := ok.one
  have h6 := ok.six
  have o0 := ok.pic 0 (by omega)
  have hs : sidF (P 0).a (P 0).b st = 0 := by
    unfold sidF
    have := o0.wide; have := o0.high; have := o0.w1; have := o0.w6; have := o0.h1; have := o0.h6; have := ok.s1; have := ok.s2
    rw [if_pos (by omega)]
  have hal : (filC A B (P 0).n ev.toNat st (fun i => (P i).f) 0).al = true := rfl
  unfold seeF
  rw [if_neg (by omega), if_neg (by omega), if_neg (by omega), if_neg (by rw [hal]; simp)]
  obtain ⟨p, rfl⟩ : ∃ p, N = p + 1 := ⟨N - 1, by omega⟩
  rw [see_fil ok p (by omega)]
/-- The fault of the bytes of such a film: too long, or none. -/
theorem byt_fil {N : Nat} {P : Nat → Pc} {ev st : Int} {A B : Nat} (ok : FilOk N P ev st A B) (h : bytF (P 0).a (P 0).b st N (filC A B (P 0).n ev.toNat st fun i => (P i).f) ≠ 0) : bytF (P 0).a (P 0).b st N (filC A B (P 0).n ev.toNat st fun i => (P i).f) = 4 := by
  have h1 := see_filF ok
  unfold bytF at h ⊢
  rw [if_neg (by omega)] at h ⊢
  split at h
  · rename_i c; rw [if_pos c]
  · exact absurd rfl h
/-- Is a number among these. -/
theorem rin_at {w : World} {v : Value} {n : Nat} {f : Nat → Int} (h : IntsAt w v n f) (s : Int) : ∃ r : Bool, ∀ W, Below w.heap.size w W → Calls Tryz.prog 10 #[v, .int .i64 s] W fun e w' => e = .returned (.bool r) ∧ W = w' := by
  rcases h with ⟨rfl, a, cap, rfl⟩ | ⟨h0, b, o, cap, rfl, h1, h2, h3, _⟩
  · exact ⟨false, fun W _ => rin_empty a cap s W⟩
  · by_cases c : ∃ q, q < n ∧ f q = s
    · obtain ⟨q, hq, he⟩ := c
      exact ⟨true, fun W hb => rin_yes b o n cap s f W (Nat.le_trans h1 h2) (fun i hi => cell_below hb (h3 i hi)) q hq he⟩
    · exact ⟨false, fun W hb => rin_no b o n cap s f W (Nat.le_trans h1 h2) (fun i hi => cell_below hb (h3 i hi)) (fun i hi he => c ⟨i, hi, he⟩)⟩
/-- Bytes that are few are cut into blocks of eight. -/
theorem split_eight {t : ByteArray} {k : Nat} {g : Nat → ByteArray} (h : t.size ≤ 120) (hk : cntN t.size 8 = k) (hg : blkB t.data.toList 8 = g) (w : World) :
    Calls Tryz.prog 8 #[.string t, .int .i64 8] w fun e w' => e = .returned (.tuple #[.slice (some ⟨w.heap.size, 0, none⟩) k k, .nilIface]) ∧ Blks w' w.heap.size 0 k g ∧ Below w.heap.size w w' := by
  subst hk hg
  have hk16 : cntN t.size 8 ≤ 16 := by unfold cntN; omega
  refine (split_ok t 8 w h (by omega) (by omega) hk16).mono fun e w' ⟨he, hr, hb⟩ => ⟨he, ⟨by unfold cntN; omega, by omega, fun i hi => ?_, by rw [blkB_size]; omega, by rw [blkB_size]; omega, fun i hi => by rw [blkB_size, blkB_size]⟩, hb⟩
  rw [Nat.zero_add]; exact hr.cell hi
/-- How far it is at most from what is told. -/
theorem film_near {N : Nat} {P : Nat → Pc} {ev st : Int} {A B : Nat} (ok : FilOk N P ev st A B) (i : Nat) (hi : i < N) : mostN (filT A B (P 0).n ev.toNat st (fun i => (P i).f) i) (P i).f (P 0).n ≤ (st / 2).toNat := mostN_le fun k hk => by
  have h9 := filT_near (A := A) (B := B) (n := (P 0).n) (ev := ev.toNat) (s := st) (g := fun i => (P i).f) (ok.pic 0 (by have := ok.one; omega)).w1 ok.s1 i (k := k) ((ok.like hi).1.pix k hk)
  have h8 : (P i).f k - filT A B (P 0).n ev.toNat st (fun i => (P i).f) i k = -(filT A B (P 0).n ev.toNat st (fun i => (P i).f) i k - (P i).f k) := by omega
  rw [h8, Int.natAbs_neg] at h9
  omega
end Go.Proofs.YtjhflcgphejddaaGreatDoor

namespace Go.Proofs.YtjhflcgphejddaaGreatDoor
open Go.RowKit Go.Maps
set_option linter.unusedVariables false
set_option maxRecDepth 100000

theorem o_new (w : World) : Calls Tryz.prog 9 #[.int .i64 1, .int .i64 1, .int .i64 1] w fun e w' => ∃ a M, e = .returned (.tuple #[.pointer a, .nilIface]) ∧ ESt peelI0 w' (.pointer a) 1 1 1 0 [] M ∧ (∀ i, M i → w.heap.size ≤ i) ∧ Below w.heap.size w w' :=
  (enew_ok 1 1 1 w (by decide) (by decide) (by decide)).mono fun e w' ⟨v, M, he, hE, hM, hb⟩ => by
    obtain ⟨a, rfl⟩ := hE.ptr
    exact ⟨a, M, he, hE, hM, hb⟩
theorem o_hear {w0 w : World} {a : Option Addr} {M : Nat → Prop} (h : ESt peelI0 w (.pointer a) 1 1 1 0 [] M) (hb : Below w0.heap.size w0 w) (hM : ∀ i, M i → w0.heap.size ≤ i) :
    Calls Tryz.prog 12 #[.pointer a, .agg #[.int .i64 1, .string ⟨#[122]⟩]] w fun e w' => ∃ M', e = .returned (.tuple #[.agg #[.int .i64 1, .int .i64 1, .int .i64 1], .nilIface]) ∧ ESt peelI0 w' (.pointer a) 1 1 1 1 [(1, ⟨#[122]⟩)] M' ∧ Below w0.heap.size w0 w' := by
  refine (hear_from peel_ptr h hb hM 1 ⟨#[122]⟩ (eF_made h.ok (by decide) (by rfl) (by decide)) (by decide)).mono fun e w' ⟨q, M', hT, he, hE, hM', hb', _, _⟩ => ?_
  rw [eAdd_out _ (by simp [sds]), List.nil_append] at hT he hE
  have hw : wrap64 ((0 : Int) + 1) = 1 := by unfold wrap64; omega
  rw [hw] at he hE
  rw [knows_one hT] at he
  exact ⟨M', he, hE, hb'⟩
theorem o_data {w : World} {a : Option Addr} {M : Nat → Prop} (h : ESt peelI0 w (.pointer a) 1 1 1 1 [(1, ⟨#[122]⟩)] M) :
    Calls Tryz.prog 14 #[.pointer a] w fun e w' => e = .returned (.tuple #[.string ⟨#[122]⟩, .nilIface]) ∧ Below w.heap.size w w' :=
  (data_ok h).mono fun e w' ⟨x, s, he, hd, hb⟩ => by
    obtain ⟨rfl, rfl⟩ := one_fact (t := ⟨#[122]⟩) h.ok rfl hd
    exact ⟨he, hb⟩
theorem o_done {w : World} {a : Option Addr} {M : Nat → Prop} (h : ESt peelI0 w (.pointer a) 1 1 1 1 [(1, ⟨#[122]⟩)] M) :
    Calls Tryz.prog 18 #[.pointer a] w fun e w' => e = .returned (.bool true) ∧ Below w.heap.size w w' :=
  (done_ok h).mono fun e w' ⟨he, hb⟩ => by
    have hr : rkL (mS 1 (sds [(1, ByteArray.mk #[122])])) = 1 := rk_one (mask_some ⟨by omega, by omega⟩ ⟨by omega, by omega⟩)
    rw [hr] at he
    exact ⟨he, hb⟩
set_option maxHeartbeats 2000000 in
theorem one_true (w : World) : Calls Tryz.prog 4 #[] w fun e w' => e = .returned (.bool true) ∧ Below w.heap.size w w' := by
  have N := hide (o_new w)
  have HH := hide (fun w1 a M h hb hM => o_hear (w0 := w) (w := w1) (a := a) (M := M) h hb hM)
  have HDT := hide (fun w1 a M h => o_data (w := w1) (a := a) (M := M) h)
  have HDN := hide (fun w1 a M h => o_done (w := w1) (a := a) (M := M) h)
  go_enter Tryz.func4, Tryz.ntmps4
  go_wp2_with fail
  refine (N.out).mono ?_
  rintro e w1 ⟨a1, M1, rfl, hE1, hM1, hb1⟩
  have H1 := hide (HH.out w1 a1 M1 hE1 hb1 hM1)
  clear hE1 hM1 hb1 N HH
  go_wp2_with fail
  refine (H1.out).mono ?_
  rintro e w2 ⟨M2, rfl, hE2, hb2⟩
  have HE2 := hide (hE2.below ((Below.refl _ w2).alloc (Nat.le_refl _) (.cells #[.int .i64 1, .int .i64 1, .int .i64 1] 47)))
  have HB2 := hide (hb2.alloc hb2.size (.cells #[.int .i64 1, .int .i64 1, .int .i64 1] 47))
  have D2 := hide (HDT.out _ a1 M2 HE2.out)
  clear hE2 hb2 H1
  go_wp2_with fail
  refine (D2.out).mono ?_
  rintro e w3 ⟨rfl, hb3⟩
  have HB3 := hide (below_two HB2.out hb3)
  have N3 := hide (HDN.out w3 a1 M2 (HE2.out.below hb3))
  clear hb3 D2 HE2 HDT HDN
  go_wp2_with fail
  refine (N3.out).mono ?_
  rintro e w4 ⟨rfl, hb4⟩
  have HB4 := hide (below_two HB3.out hb4)
  clear hb4
  go_wp2
  go_ret
  exact ⟨by first | rfl | simp, HB4.out⟩
end Go.Proofs.YtjhflcgphejddaaGreatDoor
