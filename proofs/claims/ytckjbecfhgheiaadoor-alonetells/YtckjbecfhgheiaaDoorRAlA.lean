/-
  Our own contract of dropref2.Alone. Lemmas for the laws above; no statement is proved here.
-/
import Derived.Test.YtckjbecfhgheiaaDoorRAlS
import Derived.Test.YtckjbecfhgheiaaDoorInOwn
import Derived.Test.YtckjbecfhgheiaaDoorOwn
import Derived.Test.YtckjbecfhgheiaaDoorLstN
import Derived.Maps.AppendAt
import Derived.Deep.DeepCutAuto
namespace Go.Proofs.YtckjbecfhgheiaaDoor
open Go.RowKit Go.Maps
set_option linter.unusedVariables false
set_option maxRecDepth 100000

set_option maxHeartbeats 4000000 in
theorem ralone_ok {w : World} {v : Value} {n : Nat} {f : Nat → Int} {a b s : Int} {A B : Nat} (h : IntsIn w v n f) (o : PicOk a b n f A B) (s1 : 1 ≤ s) (s2 : s ≤ 64) :
    Calls Tryd.prog 5 #[.agg #[.int .i64 a, .int .i64 b, v], .int .i64 s] w fun e w' => ∃ u u2, e = .returned (.tuple #[u, u2]) ∧ IntsIn w' u n (restF A s (byPix s f)) ∧ IntsIn w' u2 n (tellF A s (byPix s f)) ∧ Below w.heap.size w w' := by
  obtain ⟨w2, hw2⟩ : ∃ w2, w2 = w.alloc (.cells #[.int .i64 a, .int .i64 b, v] 24) := ⟨_, rfl⟩
  have b2 : Below w.heap.size w w2 := hw2 ▸ (Below.refl _ _).alloc (Nat.le_refl _) _
  have P2 : Hid (PicIn w2 w.heap.size a b v) := hide (hw2 ▸ picIn_new w _ _ _)
  have B2 := hide b2
  have hs2 : w2.heap.size = w.heap.size + 1 := by rw [hw2]; simp
  have hl := o.le
  have h0 := o.pos
  have HR := hide (fun i (hi : i < n) => restF_in (f := f) o.w1 s1 (o.pix i hi))
  have HP := hide o.pix
  have HT := hide (fun i => tellF_eq o.w1 s (byPix s f) i)
  have HF : Hid (∀ i, restF A s (byPix s f) i = rnd (f i - gsN A (tellF A s (byPix s f)) i) s) := fun i => rfl
  have HF2 : Hid (∀ i, byPix s f i (gsN A (tellF A s (byPix s f)) i) = restF A s (byPix s f) i) := fun i => rfl
  have HG := hide (fun i => gsN_in (A := A) (tellF_in o.w1 s (byPix s f)) i)
  have a1 := o.w1
  have a6 := o.w6
  have ea := o.wide
  obtain ⟨i0, hi0, hz0, hz1, hz2⟩ := info_parts Tryd.infoInt
  have Hi := hide hi0
  have Hz0 := hide hz0
  have Hz1 := hide hz1
  have Hz2 := hide hz2
  obtain ⟨bb, oo, cap, rfl, hc⟩ : ∃ bb oo cap, v = .slice (some ⟨bb, oo, none⟩) n cap ∧ ∀ i, i < n → w.cell? ⟨bb, oo + i, none⟩ = some (.int .i64 (f i)) := by
    rcases h with ⟨h, _⟩ | ⟨_, b', o', c', e, hc⟩
    · omega
    · exact ⟨_, _, _, e, hc⟩
  have HC := hide hc
  subst ea
  generalize hTT : tellF A s (byPix s f) = T at *
  generalize hRR : restF A s (byPix s f) = R at *
  clear h o b2 hc hi0 hz0 hz1 hz2 hTT hRR
  have Hs2 := hide hs2
  clear hs2
  go_enter Tryd.func5, Tryd.ntmps5
  go_upto_region 1 with fail
  rw [← hw2]
  clear hw2
  go_wp2
  go_loopw [6, 7, 8] (fun x y i wr => ∃ (j : Nat) (ax : Option Addr) (cx : Nat) (ay : Option Addr) (cy : Nat), j ≤ n ∧ i = .int .i64 j ∧ x = .slice ax j cx ∧ y = .slice ay j cy ∧ Hid (wr.ownsRow w2.heap.size 3 1 (.slice ax j cx) j ((List.range j).map fun k : Nat => .int .i64 (R k))) ∧ Hid (wr.ownsRow w2.heap.size 3 1 (.slice ay j cy) j ((List.range j).map fun k : Nat => .int .i64 (T k))) ∧ Hid (Apart (.slice ax j cx) (.slice ay j cy)) ∧ Hid (Below w2.heap.size w2 wr)) (fun _ _ i _ => n - (intOf i).toNat)
  case atStart => exact ⟨0, none, 0, none, 0, Nat.zero_le _, rfl, rfl, rfl, World.ownsRow_nil _ _ _ _, World.ownsRow_nil _ _ _ _, Or.inl rfl, Below.refl _ _⟩
  case round =>
    obtain ⟨j, ax, cx, ay, cy, hj, rfl, rfl, rfl, HX, HY, HA, HB⟩ := hrel
    have HP4 := hide (P2.out.below HB.out)
    obtain ⟨⟨c0, _⟩, ⟨c1, _⟩, c2, _⟩ := HP4.out
    by_cases hlt : j < n
    · have hcj := cell_below (below_two B2.out HB.out) (HC.out j hlt)
      have hr := HR.out j hlt
      have hf := HP.out j hlt
      have hg := HG.out j
      have K1 := hide (rguess_ok (w := wr) (own_in HY.out) a1 a6 (by omega))
      have K2 := hide (rround_ok (f j - gsN A T j) s wr (by omega) (by omega) s1 s2)
      rw [← HF.out j] at K2
      have K3 := hide (fun w => rclamp_ok (gsN A T j + R j * s) w)
      have hTj := HT.out j
      rw [HF2.out j] at hTj
      rw [← hTj] at K3
      have p0 : -255 * s ≤ R j * s := Int.mul_le_mul_of_nonneg_right hr.1 (by omega)
      have p1 : R j * s ≤ 255 * s := Int.mul_le_mul_of_nonneg_right hr.2 (by omega)
      have p2 : -16320 ≤ R j * s := by omega
      have p3 : R j * s ≤ 16320 := by omega
      have HM : Hid ((List.range (j + 1)).map (fun k : Nat => Value.int .i64 (R k)) = (List.range j).map (fun k : Nat => Value.int .i64 (R k)) ++ [.int .i64 (R j)]) := by
        unfold Hid; rw [List.range_succ, List.map_append]; rfl
      have HN : Hid ((List.range (j + 1)).map (fun k : Nat => Value.int .i64 (T k)) = (List.range j).map (fun k : Nat => Value.int .i64 (T k)) ++ [.int .i64 (T j)]) := by
        unfold Hid; rw [List.range_succ, List.map_append]; rfl
      clear hTj p0 p1
      generalize gsN A T j = g at *
      generalize f j = x at *
      generalize T j = z at *
      generalize R j = q at *
      have hsz := HB.out.size
      obtain ⟨g1, g2⟩ := hg
      obtain ⟨f1, f2⟩ := hf
      obtain ⟨r1, r2⟩ := hr
      go_wp2_with fail
      refine (K1.out).mono ?_
      rintro e w3 ⟨rfl, rfl⟩
      go_wp2_with fail
      refine (K2.out).mono ?_
      rintro e w3 ⟨rfl, rfl⟩
      have hz1' := Hz1.out
      go_wp2_with (at_builtin; refine wpList_append_lies _ rfl _ _ 22 rfl w2.heap.size 3 i0 (.int .i64 0) 1 8 Tryd.underlying22 Hi.out Hz0.out Hz1.out Hz2.out rfl (by decide) _ _ _ rfl (HX.out.alloc _) ⟨wr.heap.size, 0, none⟩ 1 1 [.int .i64 q] rfl rfl (cell_one_new _ _ _) (fun x hx => by simp at hx; subst hx; rfl) (by decide) (by unfold maxLen; omega) (by omega) (by simp; omega) _ rfl ?_; intro g3 cap3 w5 hown3 hgrow3 hat3 hlt3)
      have HX5 := hide hown3
      have HY5 := hide ((HY.out.alloc _).kept hgrow3 HA.out.kept)
      have HA5 := hide (apart_new (n := j + 1) (c := cap3) HY.out HA.out (by simp) hat3)
      have HB5 := hide ((HB.out.alloc hsz _).grown hgrow3 (by simp; omega) (fun q hq => (HX.out.lt q hq).1))
      have hsz5 := HB5.out.size
      clear hown3 hgrow3 hat3 hlt3
      go_wp2_with fail
      refine (K3.out _).mono ?_
      rintro e w6 ⟨rfl, rfl⟩
      go_wp2_with (at_builtin; refine wpList_append_lies _ rfl _ _ 22 rfl w2.heap.size 3 i0 (.int .i64 0) 1 8 Tryd.underlying22 Hi.out Hz0.out Hz1.out Hz2.out rfl (by decide) _ _ _ rfl (HY5.out.alloc _) ⟨w5.heap.size, 0, none⟩ 1 1 [.int .i64 z] rfl rfl (cell_one_new _ _ _) (fun x hx => by simp at hx; subst hx; rfl) (by decide) (by unfold maxLen; omega) (by omega) (by simp; omega) _ rfl ?_; intro g4 cap4 w7 hown4 hgrow4 hat4 hlt4)
      have HY7 := hide hown4
      have HX7 := hide ((HX5.out.alloc _).kept hgrow4 HA5.out.symm.kept)
      have HA7 := hide (apart_new (n := j + 1) (c := cap4) HX5.out HA5.out.symm (by simp) hat4).symm
      have HB7 := hide ((HB5.out.alloc hsz5 _).grown hgrow4 (by simp; omega) (fun q hq => (HY5.out.lt q hq).1))
      go_roundw
      case rel =>
        have RR : j + 1 ≤ n ∧ Value.int .i64 ((j : Int) + 1) = .int .i64 ((j + 1 : Nat) : Int) ∧ Value.slice (some ⟨g3, 0, none⟩) (j + 1) cap3 = .slice (some ⟨g3, 0, none⟩) (j + 1) cap3 ∧ Value.slice (some ⟨g4, 0, none⟩) (j + 1) cap4 = .slice (some ⟨g4, 0, none⟩) (j + 1) cap4
            ∧ Hid (w7.ownsRow w2.heap.size 3 1 (.slice (some ⟨g3, 0, none⟩) (j + 1) cap3) (j + 1) ((List.range (j + 1)).map fun k : Nat => .int .i64 (R k))) ∧ Hid (w7.ownsRow w2.heap.size 3 1 (.slice (some ⟨g4, 0, none⟩) (j + 1) cap4) (j + 1) ((List.range (j + 1)).map fun k : Nat => .int .i64 (T k))) ∧ Hid (Apart (.slice (some ⟨g3, 0, none⟩) (j + 1) cap3) (.slice (some ⟨g4, 0, none⟩) (j + 1) cap4)) ∧ Hid (Below w2.heap.size w2 w7) :=
          ⟨by omega, by simp, rfl, rfl, by unfold Hid; rw [HM.out]; exact HX7.out, by unfold Hid; rw [HN.out]; exact HY7.out, HA7, HB7⟩
        first
          | exact ⟨j + 1, some ⟨g3, 0, none⟩, cap3, some ⟨g4, 0, none⟩, cap4, RR⟩
          | ((repeat apply Exists.intro); exact ⟨⟨j + 1, some ⟨g3, 0, none⟩, cap3, some ⟨g4, 0, none⟩, cap4, RR⟩, rfl⟩)
      case measure => simp [intOf]; omega
    · obtain rfl : j = n := by omega
      go_wp2
      go_ret2
      exact ⟨_, _, rfl, own_in HX.out, own_in HY.out, below_two B2.out HB.out⟩
end Go.Proofs.YtckjbecfhgheiaaDoor
