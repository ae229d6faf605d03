/-
  Lemmas for the law above, joined into one text (MvA, MvO, MvB, MvC, FlD, FlG, FlDf). No statement is proved here.
-/
import Derived.Test.YtjhflcgphejddaaGreatDoorZG1
import Derived.Test.YtjhflcgphejddaaGreatDoorZG5
import Derived.Laws.Cover1
import Derived.Deep.DeepCutAuto
import Derived.Deep.QuietTactic
import Derived.BigQuiet
import Derived.Test.YtjhflcgphejddaaGreatDoorZG4
import Derived.Test.YtjhflcgphejddaaGreatDoorZG8
import Derived.Test.YtjhflcgphejddaaGreatDoorZG6
import Derived.Test.YtjhflcgphejddaaGreatDoorZG12
import Derived.Test.YtjhflcgphejddaaGreatDoorZG9
namespace Go.Proofs.YtjhflcgphejddaaGreatDoor
open Go.RowKit
set_option linter.unusedVariables false
set_option maxRecDepth 100000

set_option maxHeartbeats 1000000 in
theorem mapart_ok {w : World} {s s' : Value} {n : Nat} {f f' : Nat → Int} (h : IntsIn w s n f) (h' : IntsIn w s' n f') (h0 : 0 < n) (hn : n ≤ 36)
    (hf : ∀ i, i < n → 0 ≤ f i ∧ f i ≤ 255) (hf' : ∀ i, i < n → 0 ≤ f' i ∧ f' i ≤ 255) :
    Calls Tryz.prog 132 #[s, s'] w fun e w' => e = .returned (.int .i64 (sumN f f' n : Nat)) ∧ Below w.heap.size w w' := by
  obtain ⟨ad, oo, cap, rfl, hc⟩ : ∃ ad oo cap, s = .slice (some ⟨ad, oo, none⟩) n cap ∧ ∀ i, i < n → w.cell? ⟨ad, oo + i, none⟩ = some (.int .i64 (f i)) := by
    rcases h with ⟨h, _⟩ | ⟨_, b, o, c, rfl, hc⟩
    · omega
    · exact ⟨_, _, _, rfl, hc⟩
  obtain ⟨ad', oo', cap', rfl, hc'⟩ : ∃ ad oo cap, s' = .slice (some ⟨ad, oo, none⟩) n cap ∧ ∀ i, i < n → w.cell? ⟨ad, oo + i, none⟩ = some (.int .i64 (f' i)) := by
    rcases h' with ⟨h, _⟩ | ⟨_, b, o, c, rfl, hc⟩
    · omega
    · exact ⟨_, _, _, rfl, hc⟩
  have HC := hide hc
  have HC' := hide hc'
  have HP := hide hf
  have HP' := hide hf'
  have HB := hide (fun j (hj : j ≤ n) => sumN_le (f := f) (g := f') (n := j) (fun i hi => hf i (by omega)) (fun i hi => hf' i (by omega)))
  clear h h' hc hc' hf hf'
  go_enter Tryz.func132, Tryz.ntmps132
  go_wp2
  go_loopw [5, 9] (fun m i wr => ∃ j : Nat, j ≤ n ∧ i = .int .i64 j ∧ m = .int .i64 (sumN f f' j : Nat) ∧ Below w.heap.size w wr) (fun _ i _ => n - (intOf i).toNat)
  case atStart => exact ⟨0, Nat.zero_le _, rfl, rfl, Below.refl _ _⟩
  case round =>
    obtain ⟨j, hj, rfl, rfl, hb⟩ := hrel
    by_cases hlt : j < n
    · have l1 := cell_below hb (HC.out j hlt)
      have l2 := cell_below hb (HC'.out j hlt)
      obtain ⟨x0, x1⟩ := HP.out j hlt
      obtain ⟨y0, y1⟩ := HP'.out j hlt
      have hm := HB.out j hj
      have HM : Hid (sumN f f' (j + 1) = sumN f f' j + (f j - f' j).natAbs) := rfl
      generalize f j = x at *
      generalize f' j = y at *
      generalize sumN f f' j = m at *
      have hm2 : m ≤ 9180 := by omega
      clear hm
      go_wp2_with fail
      go_quiet (fail)
      go_wp2
      all_goals
        go_roundw
        case rel =>
          refine ⟨j + 1, by omega, by go_num, ?_, below_drewN hb _⟩
          rw [HM.out]
          congr 1
          have e : ((m + (x - y).natAbs : Nat) : Int) = (m : Int) + max (x - y) (y - x) := by omega
          rw [e]
          first | omega | ((repeat' split) <;> omega)
        case measure => simp [intOf]; omega
    · obtain rfl : j = n := by omega
      go_wp2
      go_ret
      exact ⟨rfl, hb⟩
end Go.Proofs.YtjhflcgphejddaaGreatDoor

namespace Go.Proofs.YtjhflcgphejddaaGreatDoor
open Go.RowKit
set_option linter.unusedVariables false
set_option maxRecDepth 100000

/-- A block that holds a Move, none of it frozen. -/
structure MvIn (w : World) (b : Nat) (x y : Int) : Prop where
  c0 : w.cell? ⟨b, 0, none⟩ = some (.int .i64 x)
  c1 : w.cell? ⟨b, 1, none⟩ = some (.int .i64 y)
  g0 : w.frozen? ⟨b, 0, none⟩ = false
  g1 : w.frozen? ⟨b, 1, none⟩ = false
theorem mvIn_new (w : World) (x y : Int) : MvIn (w.alloc (.cells #[.int .i64 x, .int .i64 y] 64)) w.heap.size x y :=
  ⟨by simp, by simp, by simp only [World.frozen?, (MapKept.heap_alloc w _).1]; simp, by simp only [World.frozen?, (MapKept.heap_alloc w _).1]; simp⟩
theorem MvIn.lt {w : World} {b : Nat} {x y : Int} (h : MvIn w b x y) : b < w.heap.size := cell_lt h.c0
theorem MvIn.mono {w w' : World} {B b : Nat} {x y : Int} (h : MvIn w b x y) (hb : Below B w w') (hlt : b < B) : MvIn w' b x y :=
  ⟨(hb.cell hlt).trans h.c0, (hb.cell hlt).trans h.c1, (hb.frozen hlt).trans h.g0, (hb.frozen hlt).trans h.g1⟩
theorem MvIn.below {w w' : World} {b : Nat} {x y : Int} (h : MvIn w b x y) (hb : Below w.heap.size w w') : MvIn w' b x y := h.mono hb h.lt
theorem MvIn.setOther {w : World} {b b2 o : Nat} {x y : Int} (h : MvIn w b x y) (hne : b ≠ b2) (u : Value) : MvIn (w.setCell ⟨b2, o, none⟩ u) b x y := by
  refine ⟨?_, ?_, by rw [World.frozen?_setCell]; exact h.g0, by rw [World.frozen?_setCell]; exact h.g1⟩
  · rw [World.cell?_setCell_other _ _ _ _ (fun e => hne (by cases e; rfl))]; exact h.c0
  · rw [World.cell?_setCell_other _ _ _ _ (fun e => hne (by cases e; rfl))]; exact h.c1
theorem MvIn.put {w : World} {b : Nat} {x y : Int} (h : MvIn w b x y) (x' y' : Int) : MvIn ((w.setCell ⟨b, 0, none⟩ (.int .i64 x')).setCell ⟨b, 1, none⟩ (.int .i64 y')) b x' y' := by
  have n01 : (⟨b, 0, none⟩ : Addr) ≠ ⟨b, 1, none⟩ := fun e => by cases e
  refine ⟨?_, ?_, by rw [World.frozen?_setCell, World.frozen?_setCell]; exact h.g0, by rw [World.frozen?_setCell, World.frozen?_setCell]; exact h.g1⟩
  · rw [World.cell?_setCell_other _ _ _ _ (by first | exact n01 | exact n01.symm), World.cell?_setCell_same _ _ _ h.c0]
  · have e1 : (w.setCell ⟨b, 0, none⟩ (.int .i64 x')).cell? ⟨b, 1, none⟩ = some (.int .i64 y) := by
      rw [World.cell?_setCell_other _ _ _ _ (by first | exact n01 | exact n01.symm)]; exact h.c1
    exact World.cell?_setCell_same _ _ _ e1
end Go.Proofs.YtjhflcgphejddaaGreatDoor

namespace Go.Proofs.YtjhflcgphejddaaGreatDoor
open Go.RowKit Go.Maps
set_option linter.unusedVariables false
set_option maxRecDepth 100000

/-- The best of the first moves, as the program has it: none yet is none, and as far as may be. -/
def mbX (D : Nat → Nat) (j : Nat) : Int := if j = 0 then 0 else mvX (bestI D j)
def mbY (D : Nat → Nat) (j : Nat) : Int := if j = 0 then 0 else mvY (bestI D j)
def mbL (D : Nat → Nat) (j : Nat) : Int := if j = 0 then 9223372036854775807 else (D (bestI D j) : Nat)
theorem mb_take {D : Nat → Nat} {j : Nat} (h : (D j : Int) < mbL D j) : mbX D (j + 1) = mvX j ∧ mbY D (j + 1) = mvY j ∧ mbL D (j + 1) = (D j : Nat) := by
  have e : bestI D (j + 1) = j := by
    rw [bestI_step]
    unfold mbL at h
    by_cases c : j = 0
    · subst c; split <;> rfl
    · rw [if_neg c] at h
      rw [if_pos (by omega)]
  unfold mbX mbY mbL
  rw [if_neg (by omega), if_neg (by omega), if_neg (by omega), e]
  exact ⟨rfl, rfl, rfl⟩
theorem mb_keep {D : Nat → Nat} {j : Nat} (h : ¬ (D j : Int) < mbL D j) (hD : D j ≤ 9180) : mbX D (j + 1) = mbX D j ∧ mbY D (j + 1) = mbY D j ∧ mbL D (j + 1) = mbL D j := by
  unfold mbL at h
  have hj : ¬ j = 0 := by
    intro c
    rw [if_pos c] at h
    omega
  rw [if_neg hj] at h
  have e : bestI D (j + 1) = bestI D j := by rw [bestI_step, if_neg (by omega)]
  unfold mbX mbY mbL
  rw [e]
  simp [hj]
theorem mbL_in {D : Nat → Nat} (h : ∀ i, D i ≤ 9180) (j : Nat) : 0 ≤ mbL D j ∧ mbL D j ≤ 9223372036854775807 := by
  unfold mbL
  split
  · omega
  · have := h (bestI D j); omega
theorem mv_at {r c : Nat} (hc : c < 3) : mvX (3 * r + c) = (c : Int) - 1 ∧ mvY (3 * r + c) = (r : Int) - 1 := by
  unfold mvX mvY; omega

/-- The blocks that Best works over. -/
structure Bs (w wr : World) (a b : Int) (s : Value) (a' b' : Int) (s' : Value) (kb : Nat) (X Y : Int) : Prop where
  p : PicIn wr w.heap.size a b s
  q : PicIn wr (w.heap.size + 1) a' b' s'
  r : MvIn wr (w.heap.size + 1 + 1) 0 0
  m : MvIn wr kb X Y
  hk : w.heap.size + 1 + 1 < kb
  b : Below w.heap.size w wr
theorem Bs.below {w wr w' : World} {a b : Int} {s : Value} {a' b' : Int} {s' : Value} {kb : Nat} {X Y : Int} (h : Bs w wr a b s a' b' s' kb X Y) (hb : Below wr.heap.size wr w') : Bs w w' a b s a' b' s' kb X Y :=
  ⟨h.p.below hb, h.q.below hb, h.r.below hb, h.m.below hb, h.hk, below_two h.b hb⟩
theorem Bs.put {w wr : World} {a b : Int} {s : Value} {a' b' : Int} {s' : Value} {kb : Nat} {X Y : Int} (h : Bs w wr a b s a' b' s' kb X Y) (X' Y' : Int) :
    Bs w ((wr.setCell ⟨kb, 0, none⟩ (.int .i64 X')).setCell ⟨kb, 1, none⟩ (.int .i64 Y')) a b s a' b' s' kb X' Y' := by
  have hk := h.hk
  refine ⟨(h.p.setOther (by omega) _).setOther (by omega) _, (h.q.setOther (by omega) _).setOther (by omega) _, (h.r.setOther (by omega) _).setOther (by omega) _, h.m.put _ _, h.hk, (h.b.setCell ?_ _).setCell ?_ _⟩
  · show w.heap.size ≤ kb; omega
  · show w.heap.size ≤ kb; omega

set_option maxHeartbeats 1000000 in
theorem mbest_bad {w : World} {s s' : Value} {n n' : Nat} {f f' : Nat → Int} (a b a' b' : Int) (h : IntsIn w s n f) (h' : IntsIn w s' n' f') (hx : twoF a b n f a' b' n' f' ≠ 0) :
    Calls Tryz.prog 90 #[.agg #[.int .i64 a, .int .i64 b, s], .agg #[.int .i64 a', .int .i64 b', s']] w fun e w' => e = .returned (.tuple #[.agg #[.int .i64 0, .int .i64 0], errN (twoF a b n f a' b' n' f')]) ∧ Below w.heap.size w w' := by
  obtain ⟨W1, hW1⟩ : ∃ W1, W1 = w.alloc (.cells #[.int .i64 a, .int .i64 b, s] 33) := ⟨_, rfl⟩
  obtain ⟨W2, hW2⟩ : ∃ W2, W2 = W1.alloc (.cells #[.int .i64 a', .int .i64 b', s'] 33) := ⟨_, rfl⟩
  obtain ⟨W3, hW3⟩ : ∃ W3, W3 = W2.alloc (.cells #[.int .i64 0, .int .i64 0] 64) := ⟨_, rfl⟩
  have b1 : Below w.heap.size w W1 := hW1 ▸ (Below.refl _ _).alloc (Nat.le_refl _) _
  have b12 : Below W1.heap.size W1 W2 := hW2 ▸ (Below.refl _ _).alloc (Nat.le_refl _) _
  have b23 : Below W2.heap.size W2 W3 := hW3 ▸ (Below.refl _ _).alloc (Nat.le_refl _) _
  have b3 := below_two (below_two b1 b12) b23
  have z1 : W1.heap.size = w.heap.size + 1 := by rw [hW1]; simp
  have z2 : W2.heap.size = w.heap.size + 1 + 1 := by rw [hW2]; simp [z1]
  have p3 : MvIn W3 (w.heap.size + 1 + 1) 0 0 := by
    have := mvIn_new W2 0 0
    rw [← hW3, z2] at this
    exact this
  have C := hide (punlike_bad a b a' b' (h.below b3) (h'.below b3) hx)
  have B3 := hide b3
  have P3 := hide p3
  rw [errN_pos hx] at *
  subst hW3
  subst hW2
  subst hW1
  clear h h' b1 b12 b23 b3 p3 z1 z2 hx
  generalize twoF a b n f a' b' n' f' = k at *
  go_enter Tryz.func90, Tryz.ntmps90
  go_wp2_with fail
  refine (C.out).mono ?_
  rintro e w1 ⟨rfl, hb1⟩
  obtain ⟨c0, c1, g0, g1⟩ := P3.out.below hb1
  have B1 := hide (below_two B3.out hb1)
  clear hb1
  go_wp2
  refine bodyPost_ret (v := .tuple #[.agg #[.int .i64 0, .int .i64 0], .iface 61 (.int .i64 k)]) (by simp [results, Tryz.results90, go_sem, c0, c1]) rfl ⟨rfl, ?_⟩
  exact ((B1.out.setCell (by show w.heap.size ≤ w.heap.size + 1 + 1; omega) _).setCell (by show w.heap.size ≤ w.heap.size + 1 + 1; omega) _)

set_option maxHeartbeats 4000000 in
theorem mbest_ok {w : World} {s s' : Value} {n : Nat} {f f' : Nat → Int} {a b a' b' : Int} {A B : Nat} (h : IntsIn w s n f) (h' : IntsIn w s' n f') (o : PicOk a b n f A B) (o' : PicOk a' b' n f' A B) :
    Calls Tryz.prog 90 #[.agg #[.int .i64 a, .int .i64 b, s], .agg #[.int .i64 a', .int .i64 b', s']] w fun e w' => e = .returned (.tuple #[.agg #[.int .i64 (bsX A B f f' n), .int .i64 (bsY A B f f' n)], .nilIface]) ∧ Below w.heap.size w w' := by
  obtain ⟨W1, hW1⟩ : ∃ W1, W1 = w.alloc (.cells #[.int .i64 a, .int .i64 b, s] 33) := ⟨_, rfl⟩
  obtain ⟨W2, hW2⟩ : ∃ W2, W2 = W1.alloc (.cells #[.int .i64 a', .int .i64 b', s'] 33) := ⟨_, rfl⟩
  obtain ⟨W3, hW3⟩ : ∃ W3, W3 = W2.alloc (.cells #[.int .i64 0, .int .i64 0] 64) := ⟨_, rfl⟩
  have b1 : Below w.heap.size w W1 := hW1 ▸ (Below.refl _ _).alloc (Nat.le_refl _) _
  have b12 : Below W1.heap.size W1 W2 := hW2 ▸ (Below.refl _ _).alloc (Nat.le_refl _) _
  have b23 : Below W2.heap.size W2 W3 := hW3 ▸ (Below.refl _ _).alloc (Nat.le_refl _) _
  have b3 := below_two (below_two b1 b12) b23
  have z1 : W1.heap.size = w.heap.size + 1 := by rw [hW1]; simp
  have z2 : W2.heap.size = w.heap.size + 1 + 1 := by rw [hW2]; simp [z1]
  have z3 : W3.heap.size = w.heap.size + 1 + 1 + 1 := by rw [hW3]; simp [z2]
  have p1 : PicIn W3 w.heap.size a b s := PicIn.below (hW1 ▸ picIn_new w a b s) (below_two b12 b23)
  have p2 : PicIn W3 (w.heap.size + 1) a' b' s' := by
    have := picIn_new W1 a' b' s'
    rw [← hW2, z1] at this
    exact this.below b23
  have p3 : MvIn W3 (w.heap.size + 1 + 1) 0 0 := by
    have := mvIn_new W2 0 0
    rw [← hW3, z2] at this
    exact this
  have C := hide (punlike_ok (h.below b3) (h'.below b3) o o')
  have B3 := hide b3
  have P1 := hide p1
  have P2 := hide p2
  have P3 := hide p3
  have HS := hide h
  have HS' := hide h'
  have hl := o.le
  have h0 := o.pos
  have KS := hide (fun (wc : World) (x y : Int) (hw : IntsIn wc s n f) (hm : farF x y = 0) => pshift_ok x y hw o hm)
  have KA := hide (fun (wc : World) (u : Value) (x y : Int) (hu : IntsIn wc u n (shiftN A B x y f)) (hw : IntsIn wc s' n f') => mapart_ok hu hw h0 hl (o.shift x y).pix o'.pix)
  have HD := hide (apN_le o o'.pix)
  have HA : Hid (∀ i, apN A B f f' n i = sumN (shiftN A B (mvX i) (mvY i) f) f' n) := fun i => rfl
  have HX : Hid (mbX (apN A B f f' n) 9 = bsX A B f f' n) := rfl
  have HY : Hid (mbY (apN A B f f' n) 9 = bsY A B f f' n) := rfl
  generalize bsX A B f f' n = bx at *
  generalize bsY A B f f' n = by_ at *
  generalize apN A B f f' n = D at *
  generalize mostN f f' n = mm at *
  obtain ⟨ads, caps, rfl⟩ := slice_shape h
  obtain ⟨ads', caps', rfl⟩ := slice_shape h'
  clear h h' b1 b12 b23 b3 p1 p2 p3 z1 z2 o o'
  have z3' := hide z3
  rw [hW3, hW2, hW1] at z3'
  clear z3
  subst hW3
  subst hW2
  subst hW1
  go_enter Tryz.func90, Tryz.ntmps90
  go_wp2_with fail
  refine (C.out).mono ?_
  rintro e w1 ⟨rfl, hb1⟩
  obtain ⟨W4, hW4⟩ : ∃ W4, W4 = w1.alloc (.cells #[.int .i64 0, .int .i64 0] 64) := ⟨_, rfl⟩
  have b14 : Below w1.heap.size w1 W4 := hW4 ▸ (Below.refl _ _).alloc (Nat.le_refl _) _
  have HB0 : Hid (Bs w W4 a b (.slice ads n caps) a' b' (.slice ads' n caps') w1.heap.size 0 0) := by
    refine ⟨(P1.out.below hb1).below b14, (P2.out.below hb1).below b14, (P3.out.below hb1).below b14, hW4 ▸ mvIn_new w1 0 0, ?_, below_two (below_two B3.out hb1) b14⟩
    have := hb1.size
    rw [z3'.out] at this
    omega
  subst hW4
  clear hb1 b14 P1 P2 P3 B3 C z3'
  go_wp2
  go_loopw [9, 10] (fun l y wr => ∃ (r : Nat) (yi : Int), r ≤ 3 ∧ Hid (yi = (r : Int) - 1) ∧ y = .int .i64 yi ∧ l = .int .i64 (mbL D (3 * r)) ∧ Hid (Bs w wr a b (.slice ads n caps) a' b' (.slice ads' n caps') w1.heap.size (mbX D (3 * r)) (mbY D (3 * r)))) (fun _ y _ => 3 - (intOf y + 1).toNat)
  case atStart => exact ⟨0, -1, by omega, by unfold Hid; rfl, rfl, rfl, HB0⟩
  case round =>
    obtain ⟨r, yi, hr, hyi, rfl, rfl, HR⟩ := hrel
    have y0 : -1 ≤ yi := by have := hyi.out; omega
    by_cases hlt : r < 3
    · have y1 : yi ≤ 1 := by have := hyi.out; omega
      have y2 : decide (yi ≤ 1) = true := decide_eq_true y1
      go_wp2
      go_loopw [9, 11] (fun l x wr => ∃ (c : Nat) (xi : Int), c ≤ 3 ∧ Hid (xi = (c : Int) - 1) ∧ x = .int .i64 xi ∧ l = .int .i64 (mbL D (3 * r + c)) ∧ Hid (Bs w wr a b (.slice ads n caps) a' b' (.slice ads' n caps') w1.heap.size (mbX D (3 * r + c)) (mbY D (3 * r + c)))) (fun _ x _ => 3 - (intOf x + 1).toNat)
      case atStart => exact ⟨0, -1, by omega, by unfold Hid; rfl, rfl, rfl, HR⟩
      case round =>
        obtain ⟨c, xi, hc, hxi, rfl, rfl, HC⟩ := hrel
        have x0 : -1 ≤ xi := by have := hxi.out; omega
        by_cases hlc : c < 3
        · have x1 : xi ≤ 1 := by have := hxi.out; omega
          obtain ⟨ex, ey⟩ := mv_at (r := r) hlc
          rw [← hxi.out] at ex
          rw [← hyi.out] at ey
          have hj9 : 3 * r + c < 9 := by omega
          have hfar := mv_far hj9
          have hDj := HD.out (3 * r + c)
          have hLj := mbL_in HD.out (3 * r + c)
          have HT := hide (@mb_take D (3 * r + c))
          have HK := hide (@mb_keep D (3 * r + c))
          have HAj := hide (HA.out (3 * r + c))
          rw [ex, ey] at hfar HAj HT
          generalize hj : 3 * r + c = j at *
          have HJ := hide hj
          clear hj ex ey
          generalize mbX D j = X at *
          generalize mbY D j = Y at *
          generalize mbL D j = L at *
          obtain ⟨l0, l1⟩ := hLj
          obtain ⟨W5, hW5⟩ : ∃ W5, W5 = wr.alloc (.cells #[.int .i64 xi, .int .i64 yi] 64) := ⟨_, rfl⟩
          have b5 : Below wr.heap.size wr W5 := hW5 ▸ (Below.refl _ _).alloc (Nat.le_refl _) _
          have H5 := hide (HC.out.below b5)
          have M5 : Hid (MvIn W5 wr.heap.size xi yi) := hide (hW5 ▸ mvIn_new wr _ _)
          have K5 := hide (KS.out W5 _ _ (HS.out.below H5.out.b) hfar)
          obtain ⟨⟨c0, _⟩, ⟨c1, _⟩, c2, _⟩ := H5.out.p
          obtain ⟨c3, c4, _, _⟩ := M5.out
          subst hW5
          clear b5 HC hfar
          go_wp2_with fail
          refine (K5.out).mono ?_
          rintro e w6 ⟨v, rfl, hv, hb6⟩
          obtain ⟨adv, capv, rfl⟩ := slice_shape hv
          obtain ⟨W7, hW7⟩ : ∃ W7, W7 = w6.alloc (.cells #[.int .i64 a, .int .i64 b, .slice adv n capv] 33) := ⟨_, rfl⟩
          have b7 : Below w6.heap.size w6 W7 := hW7 ▸ (Below.refl _ _).alloc (Nat.le_refl _) _
          have H7 := hide ((H5.out.below hb6).below b7)
          have M7 := hide ((M5.out.below hb6).below b7)
          have Q7 : Hid (PicIn W7 w6.heap.size a b (.slice adv n capv)) := hide (hW7 ▸ picIn_new w6 _ _ _)
          have K7 := hide (KA.out W7 _ _ _ (hv.below b7) (HS'.out.below H7.out.b))
          rw [← HAj.out] at K7
          subst hW7
          clear hv hb6 b7 K5 H5 M5 c0 c1 c2 c3 c4
          obtain ⟨⟨c0, _⟩, ⟨c1, _⟩, c2, _⟩ := Q7.out
          obtain ⟨⟨c3, _⟩, ⟨c4, _⟩, c5, _⟩ := H7.out.q
          generalize D j = d at *
          go_wp2_with fail
          refine (K7.out).mono ?_
          rintro e w8 ⟨rfl, hb8⟩
          have H8 := hide (H7.out.below hb8)
          have M8 := hide (M7.out.below hb8)
          clear hb8 K7 H7 M7 Q7 c0 c1 c2 c3 c4 c5
          obtain ⟨c0, c1, _, _⟩ := M8.out
          obtain ⟨d0, d1, f0, f1⟩ := H8.out.m
          by_cases hd : (d : Int) < L
          · have HT' := hide (HT.out hd)
            have HP := hide (H8.out.put xi yi)
            clear HT HK
            go_wp2
            go_roundw
            case rel =>
              obtain ⟨t0, t1, t2⟩ := HT'.out
              have e4 : Hid (xi + 1 = ((c + 1 : Nat) : Int) - 1) := by have := hxi.out; unfold Hid; omega
              have e : 3 * r + (c + 1) = j + 1 := by have := HJ.out; omega
              have e2 : Value.int .i64 (d : Nat) = .int .i64 (mbL D (3 * r + (c + 1))) := by rw [e, t2]
              have e3 : Hid (Bs w ((w8.setCell ⟨w1.heap.size, 0, none⟩ (.int .i64 xi)).setCell ⟨w1.heap.size, 1, none⟩ (.int .i64 yi)) a b (.slice ads n caps) a' b' (.slice ads' n caps') w1.heap.size (mbX D (3 * r + (c + 1))) (mbY D (3 * r + (c + 1)))) := by
                rw [e, t0, t1]; exact HP
              first
                | exact ⟨c + 1, xi + 1, by omega, e4, rfl, e2, e3⟩
                | ((repeat apply Exists.intro); exact ⟨⟨c + 1, xi + 1, by omega, e4, rfl, e2, e3⟩, rfl⟩)
            case measure => simp [intOf]; omega
          · have HK' := hide (HK.out (by omega) hDj)
            clear HT HK
            go_wp2
            go_roundw
            case rel =>
              obtain ⟨t0, t1, t2⟩ := HK'.out
              have e4 : Hid (xi + 1 = ((c + 1 : Nat) : Int) - 1) := by have := hxi.out; unfold Hid; omega
              have e : 3 * r + (c + 1) = j + 1 := by have := HJ.out; omega
              have e2 : Value.int .i64 L = .int .i64 (mbL D (3 * r + (c + 1))) := by rw [e, t2]
              have e3 : Hid (Bs w w8 a b (.slice ads n caps) a' b' (.slice ads' n caps') w1.heap.size (mbX D (3 * r + (c + 1))) (mbY D (3 * r + (c + 1)))) := by
                rw [e, t0, t1]; exact H8
              first
                | exact ⟨c + 1, xi + 1, by omega, e4, rfl, e2, e3⟩
                | ((repeat apply Exists.intro); exact ⟨⟨c + 1, xi + 1, by omega, e4, rfl, e2, e3⟩, rfl⟩)
            case measure => simp [intOf]; omega
        · obtain rfl : c = 3 := by omega
          have x1 : 1 < xi := by have := hxi.out; omega
          have x2 : xi ≤ 2 := by have := hxi.out; omega
          go_wp2
          go_roundw
          case rel =>
            have e4 : Hid (yi + 1 = ((r + 1 : Nat) : Int) - 1) := by have := hyi.out; unfold Hid; omega
            first
              | exact ⟨r + 1, yi + 1, by omega, e4, rfl, rfl, HC⟩
              | ((repeat apply Exists.intro); exact ⟨⟨r + 1, yi + 1, by omega, e4, rfl, rfl, HC⟩, rfl⟩)
          case measure => simp [intOf]; omega
    · obtain rfl : r = 3 := by omega
      have y1 : 1 < yi := by have := hyi.out; omega
      have y2 : yi ≤ 2 := by have := hyi.out; omega
      have HX' : mbX D (3 * 3) = bx := HX.out
      have HY' : mbY D (3 * 3) = by_ := HY.out
      rw [HX', HY'] at HR
      clear HX' HY' HX HY
      obtain ⟨d0, d1, _, _⟩ := HR.out.m
      obtain ⟨e0, e1, g0, g1⟩ := HR.out.r
      go_wp2
      refine bodyPost_ret (v := .tuple #[.agg #[.int .i64 bx, .int .i64 by_], .nilIface]) (by simp [results, Tryz.results90, go_sem, e0, e1]) rfl ⟨rfl, ?_⟩
      exact ((HR.out.b.setCell (by show w.heap.size ≤ w.heap.size + 1 + 1; omega) _).setCell (by show w.heap.size ≤ w.heap.size + 1 + 1; omega) _)
end Go.Proofs.YtjhflcgphejddaaGreatDoor

namespace Go.Proofs.YtjhflcgphejddaaGreatDoor
open Go.RowKit Go.Maps
set_option linter.unusedVariables false
set_option maxRecDepth 100000

/-- What Encode answers, where the step may be and where not. -/
def MEnc (B0 : Nat) (st : Int) (n : Nat) (F : Nat → Int) (X Y : Int) (e : Ending) (w' : World) : Prop :=
  (stepOk st = true → ∃ u, e = .returned (.tuple #[.agg #[.bool false, .int .i64 X, .int .i64 Y, u], .nilIface]) ∧ IntsIn w' u n F ∧ ∀ g, u.ownBlock = some g → B0 ≤ g) ∧
  (stepOk st = false → e = .returned (.tuple #[.agg #[.bool false, .int .i64 0, .int .i64 0, .slice none 0 0], errN 1]))

/-- The blocks that Encode works over, behind so many pixels. -/
structure En (w wr : World) (a b : Int) (s : Value) (a' b' : Int) (s' : Value) (mb gb base : Nat) (X Y : Int) (v : Value) (n : Nat) (G : Nat → Int) : Prop where
  q : PicIn wr (w.heap.size + 1) a' b' s'
  r : CodIn wr (w.heap.size + 1 + 1) false 0 0 (.slice none 0 0)
  m : MvIn wr mb X Y
  g : PicIn wr gb a b v
  c : IntsIn wr v n G
  hr : w.heap.size + 1 + 1 < base
  hm : mb < base
  hg : gb < base
  hv : ∀ k, v.ownBlock = some k → k < base
  big : base ≤ wr.heap.size
  b : Below w.heap.size w wr
theorem En.mono {w wr w' : World} {a b : Int} {s : Value} {a' b' : Int} {s' : Value} {mb gb base : Nat} {X Y : Int} {v : Value} {n : Nat} {G : Nat → Int} (h : En w wr a b s a' b' s' mb gb base X Y v n G) (hb : Below base wr w') : En w w' a b s a' b' s' mb gb base X Y v n G := by
  have hr := h.hr
  exact ⟨h.q.mono hb (by omega), h.r.mono hb h.hr, h.m.mono hb h.hm, h.g.mono hb h.hg, ints_mono h.c hb h.hv, h.hr, h.hm, h.hg, h.hv, Nat.le_trans h.big hb.size, h.b.trans (hb.mono (by omega))⟩

set_option maxHeartbeats 1000000 in
theorem menc_bad {w : World} {s s' : Value} {n n' : Nat} {f f' : Nat → Int} (a b a' b' st : Int) (h : IntsIn w s n f) (h' : IntsIn w s' n' f') (hx : twoF a b n f a' b' n' f' ≠ 0) :
    Calls Tryz.prog 49 #[.agg #[.int .i64 a, .int .i64 b, s], .agg #[.int .i64 a', .int .i64 b', s'], .int .i64 st] w fun e w' => e = .returned (.tuple #[.agg #[.bool false, .int .i64 0, .int .i64 0, .slice none 0 0], errN (twoF a b n f a' b' n' f')]) ∧ Below w.heap.size w w' := by
  obtain ⟨W1, hW1⟩ : ∃ W1, W1 = w.alloc (.cells #[.int .i64 a, .int .i64 b, s] 33) := ⟨_, rfl⟩
  obtain ⟨W2, hW2⟩ : ∃ W2, W2 = W1.alloc (.cells #[.int .i64 a', .int .i64 b', s'] 33) := ⟨_, rfl⟩
  obtain ⟨W3, hW3⟩ : ∃ W3, W3 = W2.alloc (.cells #[.bool false, .int .i64 0, .int .i64 0, .slice none 0 0] 66) := ⟨_, rfl⟩
  have b1 : Below w.heap.size w W1 := hW1 ▸ (Below.refl _ _).alloc (Nat.le_refl _) _
  have b12 : Below W1.heap.size W1 W2 := hW2 ▸ (Below.refl _ _).alloc (Nat.le_refl _) _
  have b23 : Below W2.heap.size W2 W3 := hW3 ▸ (Below.refl _ _).alloc (Nat.le_refl _) _
  have b3 := below_two (below_two b1 b12) b23
  have z1 : W1.heap.size = w.heap.size + 1 := by rw [hW1]; simp
  have z2 : W2.heap.size = w.heap.size + 1 + 1 := by rw [hW2]; simp [z1]
  have p1 : PicIn W3 w.heap.size a b s := PicIn.below (hW1 ▸ picIn_new w a b s) (below_two b12 b23)
  have p2 : PicIn W3 (w.heap.size + 1) a' b' s' := by
    have := picIn_new W1 a' b' s'
    rw [← hW2, z1] at this
    exact this.below b23
  have p3 : CodIn W3 (w.heap.size + 1 + 1) false 0 0 (.slice none 0 0) := by
    have := codIn_new W2 false 0 0 (.slice none 0 0)
    rw [← hW3, z2] at this
    exact this
  have C := hide (mbest_bad a b a' b' (h.below b3) (h'.below b3) hx)
  have B3 := hide b3
  have P3 := hide p3
  obtain ⟨⟨c0, _⟩, ⟨c1, _⟩, c2, _⟩ := p1
  obtain ⟨⟨c3, _⟩, ⟨c4, _⟩, c5, _⟩ := p2
  rw [errN_pos hx] at *
  subst hW3
  subst hW2
  subst hW1
  clear h h' b1 b12 b23 b3 p3 z1 z2 hx
  generalize twoF a b n f a' b' n' f' = k at *
  go_enter Tryz.func49, Tryz.ntmps49
  go_wp2_with fail
  refine (C.out).mono ?_
  rintro e w1 ⟨rfl, hb1⟩
  have b4 : Below w1.heap.size w1 (w1.alloc (.cells #[.int .i64 0, .int .i64 0] 64)) := (Below.refl _ _).alloc (Nat.le_refl _) _
  obtain ⟨d0, d1, d2, d3, g0, g1, g2, g3⟩ := (P3.out.below hb1).below b4
  have B1 := hide (below_two (below_two B3.out hb1) b4)
  clear hb1 b4
  go_wp2
  refine bodyPost_ret (v := .tuple #[.agg #[.bool false, .int .i64 0, .int .i64 0, .slice none 0 0], .iface 61 (.int .i64 k)]) (by simp [results, Tryz.results49, go_sem, d0, d1, d2, d3]) rfl ⟨rfl, ?_⟩
  exact ((((B1.out.setCell (by show w.heap.size ≤ w.heap.size + 1 + 1; omega) _).setCell (by show w.heap.size ≤ w.heap.size + 1 + 1; omega) _).setCell (by show w.heap.size ≤ w.heap.size + 1 + 1; omega) _).setCell (by show w.heap.size ≤ w.heap.size + 1 + 1; omega) _)

set_option maxHeartbeats 4000000 in
theorem menc_walk {w : World} {s s' : Value} {n : Nat} {f f' : Nat → Int} {a b a' b' : Int} {A B : Nat} (st : Int) (h : IntsIn w s n f) (h' : IntsIn w s' n f') (o : PicOk a b n f A B) (o' : PicOk a' b' n f' A B) :
    Calls Tryz.prog 49 #[.agg #[.int .i64 a, .int .i64 b, s], .agg #[.int .i64 a', .int .i64 b', s'], .int .i64 st] w fun e w' => MEnc w.heap.size st n (mrF A B f f' n st) (bsX A B f f' n) (bsY A B f f' n) e w' ∧ Below w.heap.size w w' := by
  obtain ⟨W1, hW1⟩ : ∃ W1, W1 = w.alloc (.cells #[.int .i64 a, .int .i64 b, s] 33) := ⟨_, rfl⟩
  obtain ⟨W2, hW2⟩ : ∃ W2, W2 = W1.alloc (.cells #[.int .i64 a', .int .i64 b', s'] 33) := ⟨_, rfl⟩
  obtain ⟨W3, hW3⟩ : ∃ W3, W3 = W2.alloc (.cells #[.bool false, .int .i64 0, .int .i64 0, .slice none 0 0] 66) := ⟨_, rfl⟩
  have b1 : Below w.heap.size w W1 := hW1 ▸ (Below.refl _ _).alloc (Nat.le_refl _) _
  have b12 : Below W1.heap.size W1 W2 := hW2 ▸ (Below.refl _ _).alloc (Nat.le_refl _) _
  have b23 : Below W2.heap.size W2 W3 := hW3 ▸ (Below.refl _ _).alloc (Nat.le_refl _) _
  have b3 := below_two (below_two b1 b12) b23
  have z1 : W1.heap.size = w.heap.size + 1 := by rw [hW1]; simp
  have z2 : W2.heap.size = w.heap.size + 1 + 1 := by rw [hW2]; simp [z1]
  have z3 : W3.heap.size = w.heap.size + 1 + 1 + 1 := by rw [hW3]; simp [z2]
  have p1 : PicIn W3 w.heap.size a b s := PicIn.below (hW1 ▸ picIn_new w a b s) (below_two b12 b23)
  have p2 : PicIn W3 (w.heap.size + 1) a' b' s' := by
    have := picIn_new W1 a' b' s'
    rw [← hW2, z1] at this
    exact this.below b23
  have p3 : CodIn W3 (w.heap.size + 1 + 1) false 0 0 (.slice none 0 0) := by
    have := codIn_new W2 false 0 0 (.slice none 0 0)
    rw [← hW3, z2] at this
    exact this
  have C := hide (mbest_ok (h.below b3) (h'.below b3) o o')
  have B3 := hide b3
  have P1 := hide p1
  have P2 := hide p2
  have P3 := hide p3
  have HS := hide h
  have HS' := hide h'
  have hl := o.le
  have h0 := o.pos
  have hbs := bs_in A B f f' n
  have KS := hide (fun (wc : World) (hw : IntsIn wc s n f) => pshift_ok (bsX A B f f' n) (bsY A B f f' n) hw o (farF_zero.2 (by omega)))
  have HF : Hid (∀ i, mrF A B f f' n st i = rnd (f' i - bgN A B f f' n i) st) := fun i => rfl
  have HGI := hide (bgN_in o f')
  have HPI := hide o'.pix
  have HGE : Hid (shiftN A B (bsX A B f f' n) (bsY A B f f' n) f = bgN A B f f' n) := rfl
  rw [HGE.out] at KS
  generalize bsX A B f f' n = bx at *
  generalize bsY A B f f' n = by_ at *
  generalize bgN A B f f' n = G at *
  generalize hFF : mrF A B f f' n st = F at *
  obtain ⟨ads, caps, rfl⟩ := slice_shape h
  obtain ⟨bb', oo', caps', rfl, hcb⟩ : ∃ ad oo cap, s' = .slice (some ⟨ad, oo, none⟩) n cap ∧ ∀ i, i < n → w.cell? ⟨ad, oo + i, none⟩ = some (.int .i64 (f' i)) := by
    rcases h' with ⟨h, _⟩ | ⟨_, b, o, c, rfl, hc⟩
    · omega
    · exact ⟨_, _, _, rfl, hc⟩
  have HCB := hide hcb
  obtain ⟨i0, hi0, hz0, hz1, hz2⟩ := info_parts Tryz.infoInt
  have Hi := hide hi0
  have Hz0 := hide hz0
  have Hz1 := hide hz1
  have Hz2 := hide hz2
  have z3' := hide z3
  rw [hW3, hW2, hW1] at z3'
  obtain ⟨⟨c0, _⟩, ⟨c1, _⟩, c2, _⟩ := p1
  obtain ⟨⟨c3, _⟩, ⟨c4, _⟩, c5, _⟩ := p2
  subst hW3
  subst hW2
  subst hW1
  clear h h' b1 b12 b23 b3 p3 z1 z2 z3 o o' hcb hi0 hz0 hz1 hz2 HGE hbs hFF
  go_enter Tryz.func49, Tryz.ntmps49
  go_wp2_with fail
  refine (C.out).mono ?_
  rintro e w1 ⟨rfl, hb1⟩
  obtain ⟨W4, hW4⟩ : ∃ W4, W4 = w1.alloc (.cells #[.int .i64 bx, .int .i64 by_] 64) := ⟨_, rfl⟩
  have b4 : Below w1.heap.size w1 W4 := hW4 ▸ (Below.refl _ _).alloc (Nat.le_refl _) _
  have P14 := hide ((P1.out.below hb1).below b4)
  have P24 := hide ((P2.out.below hb1).below b4)
  have P34 := hide ((P3.out.below hb1).below b4)
  have M4 : Hid (MvIn W4 w1.heap.size bx by_) := hide (hW4 ▸ mvIn_new w1 _ _)
  have B4 := hide (below_two (below_two B3.out hb1) b4)
  have K4 := hide (KS.out W4 (HS.out.below B4.out))
  have hs1 : w.heap.size + 1 + 1 < w1.heap.size := by have := hb1.size; rw [z3'.out] at this; omega
  clear c0 c1 c2 c3 c4 c5
  obtain ⟨⟨c0, _⟩, ⟨c1, _⟩, c2, _⟩ := P14.out
  obtain ⟨c3, c4, _, _⟩ := M4.out
  subst hW4
  clear hb1 b4 P1 P2 P3 B3 C z3' KS
  go_wp2_with fail
  refine (K4.out).mono ?_
  rintro e w5 ⟨v, rfl, hv, hb5⟩
  obtain ⟨adv, capv, rfl⟩ := slice_shape hv
  obtain ⟨W6, hW6⟩ : ∃ W6, W6 = w5.alloc (.cells #[.int .i64 a, .int .i64 b, .slice adv n capv] 33) := ⟨_, rfl⟩
  have b6 : Below w5.heap.size w5 W6 := hW6 ▸ (Below.refl _ _).alloc (Nat.le_refl _) _
  have z6 : W6.heap.size = w5.heap.size + 1 := by rw [hW6]; simp
  have E6 : Hid (En w W6 a b (.slice ads n caps) a' b' (.slice (some ⟨bb', oo', none⟩) n caps') w1.heap.size w5.heap.size W6.heap.size bx by_ (.slice adv n capv) n G) := by
    have hs5 := hb5.size
    have e1 := M4.out.lt
    refine ⟨(P24.out.below hb5).below b6, (P34.out.below hb5).below b6, (M4.out.below hb5).below b6, hW6 ▸ picIn_new w5 _ _ _, hv.below b6, by omega, by omega, by omega, fun k hk => ?_, Nat.le_refl _, below_two (below_two B4.out hb5) b6⟩
    have := ints_lt hv h0 k hk
    omega
  obtain ⟨w7, hmk, hown, hgrow⟩ := run_make_own (P := Tryz.prog) W6 W6.heap.size 23 3 i0 (.int .i64 0) 1 Tryz.underlying23 Hi.out Hz0.out (by have := Hz1.out; simpa using this) .i64 .i64 n (by rw [Hz2.out]; omega) (by unfold maxLen; omega) (Nat.le_refl _)
  have bg : Below W6.heap.size W6 w7 := (Below.refl _ _).grown hgrow (Nat.le_refl _) (fun k hk => by cases hk)
  have E7 := hide (E6.out.mono bg)
  have HOWN := hide hown
  clear c0 c1 c2 c3 c4
  obtain ⟨⟨c0, _⟩, ⟨c1, _⟩, c2, _⟩ := E6.out.q
  obtain ⟨⟨d0, _⟩, ⟨d1, _⟩, d2, _⟩ := E7.out.q
  rw [z6] at hmk HOWN E7
  subst hW6
  clear hv hb5 b6 z6 K4 P14 P24 P34 M4 B4 bg hown hgrow E6 hs1
  go_wp2
  clear c0 c1 c2 d0 d1 d2
  go_loopw [11, 42] (fun u i wr => ∃ (j : Nat) (ad : Option Addr) (cp : Nat), j ≤ n ∧ i = .int .i64 j ∧ u = .slice ad j cp ∧ wr.ownsRow (w5.heap.size + 1) 3 1 u j ((List.range j).map fun k : Nat => .int .i64 (F k)) ∧ Hid (j = 0 ∨ stepOk st = true) ∧ Hid (En w wr a b (.slice ads n caps) a' b' (.slice (some ⟨bb', oo', none⟩) n caps') w1.heap.size w5.heap.size (w5.heap.size + 1) bx by_ (.slice adv n capv) n G)) (fun _ i _ => n - (intOf i).toNat)
  case atStart => exact ⟨0, _, n, Nat.zero_le _, rfl, rfl, HOWN.out, hide (Or.inl rfl), E7⟩
  case round =>
    obtain ⟨j, adr, cpr, hj, rfl, rfl, hX, HQ, ER⟩ := hrel
    have HX := hide hX
    have hbig := ER.out.big
    clear hX
    by_cases hlt : j < n
    · obtain ⟨⟨c0, _⟩, ⟨c1, _⟩, c2, _⟩ := ER.out.q
      obtain ⟨⟨c3, _⟩, ⟨c4, _⟩, c5, _⟩ := ER.out.g
      have hcb := cell_below ER.out.b (HCB.out j hlt)
      obtain ⟨gg, go, gcp, hge, hgc⟩ : ∃ g o c, Value.slice adv n capv = .slice (some ⟨g, o, none⟩) n c ∧ ∀ i, i < n → wr.cell? ⟨g, o + i, none⟩ = some (.int .i64 (G i)) := by
        rcases ER.out.c with ⟨h, _⟩ | ⟨_, b, o, c, e, hc⟩
        · omega
        · exact ⟨_, _, _, e, hc⟩
      obtain ⟨rfl, rfl⟩ : adv = some ⟨gg, go, none⟩ ∧ capv = gcp := by cases hge; exact ⟨rfl, rfl⟩
      have hga := hgc j hlt
      have HRF := HF.out j
      obtain ⟨x0, x1⟩ := HPI.out j hlt
      obtain ⟨y0, y1⟩ := HGI.out j hlt
      have HM : Hid ((List.range (j + 1)).map (fun k : Nat => Value.int .i64 (F k)) = (List.range j).map (fun k : Nat => Value.int .i64 (F k)) ++ [.int .i64 (F j)]) := by
        unfold Hid; rw [List.range_succ, List.map_append]; rfl
      clear hgc hge
      generalize f' j = x at *
      generalize G j = y at *
      generalize hz : F j = z at *
      clear hz
      have K := hide (fun wx => around_any (x - y) st wx)
      cases hst : stepOk st with
      | true =>
        have hs := stepOk_iff.1 hst
        have HV : rndV (x - y) st = z := by
          unfold rndV
          rw [if_pos (rndF_zero.2 ⟨hs, by omega⟩), HRF]
        rw [HV, rndF_zero.2 ⟨hs, by omega⟩, errN_zero] at K
        have HST := hide hst
        clear HV HRF hs hst
        go_wp2_with fail
        go_quiet ((go_at_call 92; exact Calls.quiet_of_same ((K.out _).mono fun e w' ⟨h1, h2⟩ => ⟨h1, h2.symm⟩)))
        have bd : Below wr.heap.size wr (wr.drewN nq) := below_drewN (Below.refl _ wr) nq
        have HX1 := hide (own_under' HX.out bd)
        have ER1 := hide (ER.out.mono (bd.mono hbig))
        have hbig1 := ER1.out.big
        clear bd HX ER c0 c1 c2 c3 c4 c5 hcb hga
        generalize wr.drewN nq = v1 at *
        have hz1' := Hz1.out
        go_wp2_with (at_builtin; refine wpList_append_lies _ rfl _ _ 23 rfl (w5.heap.size + 1) 3 i0 (.int .i64 0) 1 8 Tryz.underlying23 Hi.out Hz0.out Hz1.out Hz2.out rfl (by decide) _ _ _ rfl (HX1.out.alloc _) ⟨v1.heap.size, 0, none⟩ 1 1 [.int .i64 z] rfl rfl (cell_one_new _ _ _) (fun x hx => by simp at hx; subst hx; rfl) (by decide) (by unfold maxLen; omega) (by omega) (by simp; omega) _ rfl ?_; intro g3 cap3 w9 hown3 hgrow3 hat3 hlt3)
        go_roundw
        case rel =>
          have hB5 : Below (w5.heap.size + 1) v1 w9 := ((Below.refl (w5.heap.size + 1) v1).alloc (by omega) _).grown hgrow3 (by simp; omega) (fun q hq => (HX1.out.lt q hq).1)
          have e1 : Value.slice (some ⟨g3, 0, none⟩) (j + 1) cap3 = .slice (some ⟨g3, 0, none⟩) (j + 1) cap3 := rfl
          have e2 : w9.ownsRow (w5.heap.size + 1) 3 1 (.slice (some ⟨g3, 0, none⟩) (j + 1) cap3) (j + 1) ((List.range (j + 1)).map fun k : Nat => .int .i64 (F k)) := by rw [HM.out]; exact hown3
          have e3 := hide (ER1.out.mono hB5)
          have e4 : Hid (j + 1 = 0 ∨ stepOk st = true) := Or.inr HST.out
          exact ⟨j + 1, some ⟨g3, 0, none⟩, cap3, by omega, by go_num, rfl, e2, (by first | exact e4 | exact hide (Or.inr trivial)), e3⟩
        case measure => simp [intOf]; omega
      | false =>
        have HV : rndF (x - y) st = 1 := by
          unfold rndF
          rw [hst, if_neg (by simp)]
        have HV2 : rndV (x - y) st = 0 := by unfold rndV; rw [HV, if_neg (by decide)]
        rw [HV, HV2, errN_one] at K
        have HST := hide hst
        clear HV HV2 HRF hst
        go_wp2_with fail
        go_quiet ((go_at_call 92; exact Calls.quiet_of_same ((K.out _).mono fun e w' ⟨h1, h2⟩ => ⟨h1, h2.symm⟩)))
        have bd : Below wr.heap.size wr (wr.drewN nq) := below_drewN (Below.refl _ wr) nq
        have ER1 := hide (ER.out.mono (bd.mono hbig))
        clear bd HX ER c0 c1 c2 c3 c4 c5 hcb hga
        generalize wr.drewN nq = v1 at *
        obtain ⟨d0, d1, d2, d3, g0, g1, g2, g3⟩ := ER1.out.r
        go_wp2
        refine bodyPost_ret (v := .tuple #[.agg #[.bool false, .int .i64 0, .int .i64 0, .slice none 0 0], .iface 61 (.int .i64 1)]) (by simp [results, Tryz.results49, go_sem, d0, d1, d2, d3]) rfl ⟨⟨fun h => ?_, fun _ => rfl⟩, ?_⟩
        · rw [HST.out] at h; cases h
        · exact ((((ER1.out.b.setCell (by show w.heap.size ≤ w.heap.size + 1 + 1; omega) _).setCell (by show w.heap.size ≤ w.heap.size + 1 + 1; omega) _).setCell (by show w.heap.size ≤ w.heap.size + 1 + 1; omega) _).setCell (by show w.heap.size ≤ w.heap.size + 1 + 1; omega) _)
    · obtain rfl : j = n := by omega
      have HST : Hid (stepOk st = true) := by rcases HQ.out with h | h; · omega
                                              · exact h
      obtain ⟨c0, c1, _, _⟩ := ER.out.m
      obtain ⟨d0, d1, d2, d3, g0, g1, g2, g3⟩ := ER.out.r
      go_wp2
      refine bodyPost_ret (v := .tuple #[.agg #[.bool false, .int .i64 bx, .int .i64 by_, .slice adr j cpr], .nilIface]) (by simp [results, Tryz.results49, go_sem, d0, d1, d2, d3]) rfl ⟨⟨fun _ => ⟨_, rfl, ?_, fun g hg => by have := (HX.out.lt g hg).1; have := ER.out.hr; omega⟩, fun h => ?_⟩, ?_⟩
      · have hlt9 : w.heap.size + 1 + 1 < w5.heap.size + 1 := ER.out.hr
        exact own_in (ownsRow_setCell_below (ownsRow_setCell_below (ownsRow_setCell_below (ownsRow_setCell_below HX.out hlt9 _) hlt9 _) hlt9 _) hlt9 _)
      · rw [HST.out] at h; cases h
      · exact ((((ER.out.b.setCell (by show w.heap.size ≤ w.heap.size + 1 + 1; omega) _).setCell (by show w.heap.size ≤ w.heap.size + 1 + 1; omega) _).setCell (by show w.heap.size ≤ w.heap.size + 1 + 1; omega) _).setCell (by show w.heap.size ≤ w.heap.size + 1 + 1; omega) _)
end Go.Proofs.YtjhflcgphejddaaGreatDoor

namespace Go.Proofs.YtjhflcgphejddaaGreatDoor
open Go.RowKit Go.Maps
set_option linter.unusedVariables false
set_option maxRecDepth 100000

set_option maxHeartbeats 4000000 in
theorem fcode_al {w : World} {s : Value} {n : Nat} {f : Nat → Int} {a b : Int} {A B : Nat} (qa qb : Int) (qd : Option Addr) (qn qc : Nat) (st : Int) (h : IntsIn w s n f) (o : PicOk a b n f A B) (s1 : 1 ≤ st) (s2 : st ≤ 64) :
    Calls Tryz.prog 22 #[.agg #[.int .i64 qa, .int .i64 qb, .slice qd qn qc], .agg #[.int .i64 a, .int .i64 b, s], .bool true, .int .i64 st] w fun e w' => ∃ ad cp, e = .returned (.tuple #[.agg #[.bool true, .int .i64 0, .int .i64 0, .slice ad n cp], .nilIface]) ∧ IntsIn w' (.slice ad n cp) n (restF A st (byPix st f)) ∧ Below w.heap.size w w' ∧ ∀ k, (Value.slice ad n cp).ownBlock = some k → w.heap.size ≤ k := by
  obtain ⟨W1, hW1⟩ : ∃ W1, W1 = w.alloc (.cells #[.int .i64 qa, .int .i64 qb, .slice qd qn qc] 33) := ⟨_, rfl⟩
  obtain ⟨W2, hW2⟩ : ∃ W2, W2 = W1.alloc (.cells #[.int .i64 a, .int .i64 b, s] 33) := ⟨_, rfl⟩
  obtain ⟨W3, hW3⟩ : ∃ W3, W3 = W2.alloc (.cells #[.bool false, .int .i64 0, .int .i64 0, .slice none 0 0] 66) := ⟨_, rfl⟩
  have b1 : Below w.heap.size w W1 := hW1 ▸ (Below.refl _ _).alloc (Nat.le_refl _) _
  have b12 : Below W1.heap.size W1 W2 := hW2 ▸ (Below.refl _ _).alloc (Nat.le_refl _) _
  have b23 : Below W2.heap.size W2 W3 := hW3 ▸ (Below.refl _ _).alloc (Nat.le_refl _) _
  have b3 := below_two (below_two b1 b12) b23
  have z1 : W1.heap.size = w.heap.size + 1 := by rw [hW1]; simp
  have z2 : W2.heap.size = w.heap.size + 1 + 1 := by rw [hW2]; simp [z1]
  have z3 : W3.heap.size = w.heap.size + 1 + 1 + 1 := by rw [hW3]; simp [z2]
  have p2 : PicIn W3 (w.heap.size + 1) a b s := by
    have := picIn_new W1 a b s
    rw [← hW2, z1] at this
    exact this.below b23
  have p3 : CodIn W3 (w.heap.size + 1 + 1) false 0 0 (.slice none 0 0) := by
    have := codIn_new W2 false 0 0 (.slice none 0 0)
    rw [← hW3, z2] at this
    exact this
  have B3 := hide b3
  have P3 := hide p3
  have Z3 := hide z3
  have K := hide (aenc_ok (h.below b3) o s1 s2)
  obtain ⟨ads, caps, rfl⟩ := slice_shape h
  obtain ⟨⟨c0, _⟩, ⟨c1, _⟩, c2, _⟩ := p2
  generalize restF A st (byPix st f) = R at *
  clear h b1 b12 b23 b3 z1 z2 z3 p3 o
  subst hW3
  subst hW2
  subst hW1
  go_enter Tryz.func22, Tryz.ntmps22
  go_wp2_with fail
  refine (K.out).mono ?_
  rintro e w2 ⟨u, rfl, hi, hb, hn⟩
  obtain ⟨ad, cp, rfl⟩ := slice_shape hi
  have hp := P3.out.below hb
  have HP := hide (hp.put true 0 0 (.slice ad n cp))
  obtain ⟨k0, k1, k2, k3, g0, g1, g2, g3⟩ := hp
  have hz := Z3.out
  have hne : ∀ k, (Value.slice ad n cp).ownBlock = some k → k ≠ w.heap.size + 1 + 1 := fun k e => by have := hn k e; omega
  have HI := hide (ints_set (o := 3) (ints_set (o := 2) (ints_set (o := 1) (ints_set (o := 0) hi hne (.bool true)) hne (.int .i64 0)) hne (.int .i64 0)) hne (.slice ad n cp))
  have HB := hide (((((below_two B3.out hb).setCell (p := ⟨w.heap.size + 1 + 1, 0, none⟩) (by show w.heap.size ≤ w.heap.size + 1 + 1; omega) (.bool true)).setCell (p := ⟨w.heap.size + 1 + 1, 1, none⟩) (by show w.heap.size ≤ w.heap.size + 1 + 1; omega) (.int .i64 0)).setCell (p := ⟨w.heap.size + 1 + 1, 2, none⟩) (by show w.heap.size ≤ w.heap.size + 1 + 1; omega) (.int .i64 0)).setCell (p := ⟨w.heap.size + 1 + 1, 3, none⟩) (by show w.heap.size ≤ w.heap.size + 1 + 1; omega) (.slice ad n cp))
  have HN : Hid (∀ k, (Value.slice ad n cp).ownBlock = some k → w.heap.size ≤ k) := fun k e => by have := hn k e; omega
  clear hi hb hn hne hz K c0 c1 c2
  go_wp2
  obtain ⟨q0, q1, q2, q3, _, _, _, _⟩ := HP.out
  refine bodyPost_ret (v := .tuple #[.agg #[.bool true, .int .i64 0, .int .i64 0, .slice ad n cp], .nilIface]) (by simp [results, Tryz.results22, go_sem, q0, q1, q2, q3]) rfl ⟨ad, cp, rfl, HI.out, HB.out, HN.out⟩

set_option maxHeartbeats 4000000 in
theorem fcode_mv {w : World} {s s' : Value} {n : Nat} {f f' : Nat → Int} {a b a' b' : Int} {A B : Nat} (st : Int) (h : IntsIn w s n f) (h' : IntsIn w s' n f') (o : PicOk a b n f A B) (o' : PicOk a' b' n f' A B) (s1 : 1 ≤ st) (s2 : st ≤ 64) :
    Calls Tryz.prog 22 #[.agg #[.int .i64 a, .int .i64 b, s], .agg #[.int .i64 a', .int .i64 b', s'], .bool false, .int .i64 st] w fun e w' => ∃ ad cp, e = .returned (.tuple #[.agg #[.bool false, .int .i64 (bsX A B f f' n), .int .i64 (bsY A B f f' n), .slice ad n cp], .nilIface]) ∧ IntsIn w' (.slice ad n cp) n (mrF A B f f' n st) ∧ Below w.heap.size w w' ∧ ∀ k, (Value.slice ad n cp).ownBlock = some k → w.heap.size ≤ k := by
  obtain ⟨W1, hW1⟩ : ∃ W1, W1 = w.alloc (.cells #[.int .i64 a, .int .i64 b, s] 33) := ⟨_, rfl⟩
  obtain ⟨W2, hW2⟩ : ∃ W2, W2 = W1.alloc (.cells #[.int .i64 a', .int .i64 b', s'] 33) := ⟨_, rfl⟩
  obtain ⟨W3, hW3⟩ : ∃ W3, W3 = W2.alloc (.cells #[.bool false, .int .i64 0, .int .i64 0, .slice none 0 0] 66) := ⟨_, rfl⟩
  have b1 : Below w.heap.size w W1 := hW1 ▸ (Below.refl _ _).alloc (Nat.le_refl _) _
  have b12 : Below W1.heap.size W1 W2 := hW2 ▸ (Below.refl _ _).alloc (Nat.le_refl _) _
  have b23 : Below W2.heap.size W2 W3 := hW3 ▸ (Below.refl _ _).alloc (Nat.le_refl _) _
  have b3 := below_two (below_two b1 b12) b23
  have z1 : W1.heap.size = w.heap.size + 1 := by rw [hW1]; simp
  have z2 : W2.heap.size = w.heap.size + 1 + 1 := by rw [hW2]; simp [z1]
  have z3 : W3.heap.size = w.heap.size + 1 + 1 + 1 := by rw [hW3]; simp [z2]
  have p1 : PicIn W3 w.heap.size a b s := PicIn.below (hW1 ▸ picIn_new w a b s) (below_two b12 b23)
  have p2 : PicIn W3 (w.heap.size + 1) a' b' s' := by
    have := picIn_new W1 a' b' s'
    rw [← hW2, z1] at this
    exact this.below b23
  have p3 : CodIn W3 (w.heap.size + 1 + 1) false 0 0 (.slice none 0 0) := by
    have := codIn_new W2 false 0 0 (.slice none 0 0)
    rw [← hW3, z2] at this
    exact this
  have B3 := hide b3
  have P3 := hide p3
  have Z3 := hide z3
  have K := hide (menc_walk st (h.below b3) (h'.below b3) o o')
  have HS := hide (stepOk_iff.2 ⟨s1, s2⟩)
  obtain ⟨ads, caps, rfl⟩ := slice_shape h
  obtain ⟨ads', caps', rfl⟩ := slice_shape h'
  obtain ⟨⟨c0, _⟩, ⟨c1, _⟩, c2, _⟩ := p1
  obtain ⟨⟨d0, _⟩, ⟨d1, _⟩, d2, _⟩ := p2
  generalize mrF A B f f' n st = R at *
  generalize bsX A B f f' n = X at *
  generalize bsY A B f f' n = Y at *
  clear h h' b1 b12 b23 b3 z1 z2 z3 p3 o o'
  subst hW3
  subst hW2
  subst hW1
  go_enter Tryz.func22, Tryz.ntmps22
  go_wp2_with fail
  refine (K.out).mono ?_
  rintro e w2 ⟨⟨hgood, _⟩, hb⟩
  obtain ⟨u, rfl, hi, hn⟩ := hgood HS.out
  obtain ⟨ad, cp, rfl⟩ := slice_shape hi
  have hp := P3.out.below hb
  have HP := hide (hp.put false X Y (.slice ad n cp))
  obtain ⟨k0, k1, k2, k3, g0, g1, g2, g3⟩ := hp
  have hz := Z3.out
  have hne : ∀ k, (Value.slice ad n cp).ownBlock = some k → k ≠ w.heap.size + 1 + 1 := fun k e => by have := hn k e; omega
  have HI := hide (ints_set (o := 3) (ints_set (o := 2) (ints_set (o := 1) (ints_set (o := 0) hi hne (.bool false)) hne (.int .i64 X)) hne (.int .i64 Y)) hne (.slice ad n cp))
  have HB := hide (((((below_two B3.out hb).setCell (p := ⟨w.heap.size + 1 + 1, 0, none⟩) (by show w.heap.size ≤ w.heap.size + 1 + 1; omega) (.bool false)).setCell (p := ⟨w.heap.size + 1 + 1, 1, none⟩) (by show w.heap.size ≤ w.heap.size + 1 + 1; omega) (.int .i64 X)).setCell (p := ⟨w.heap.size + 1 + 1, 2, none⟩) (by show w.heap.size ≤ w.heap.size + 1 + 1; omega) (.int .i64 Y)).setCell (p := ⟨w.heap.size + 1 + 1, 3, none⟩) (by show w.heap.size ≤ w.heap.size + 1 + 1; omega) (.slice ad n cp))
  have HN : Hid (∀ k, (Value.slice ad n cp).ownBlock = some k → w.heap.size ≤ k) := fun k e => by have := hn k e; omega
  clear hi hb hn hne hz K c0 c1 c2 d0 d1 d2 hgood
  go_wp2
  obtain ⟨q0, q1, q2, q3, _, _, _, _⟩ := HP.out
  refine bodyPost_ret (v := .tuple #[.agg #[.bool false, .int .i64 X, .int .i64 Y, .slice ad n cp], .nilIface]) (by simp [results, Tryz.results22, go_sem, q0, q1, q2, q3]) rfl ⟨ad, cp, rfl, HI.out, HB.out, HN.out⟩
end Go.Proofs.YtjhflcgphejddaaGreatDoor

namespace Go.Proofs.YtjhflcgphejddaaGreatDoor
open Go.RowKit
set_option linter.unusedVariables false
set_option maxRecDepth 100000

theorem FilOk.like {N : Nat} {P : Nat → Pc} {ev st : Int} {A B : Nat} (o : FilOk N P ev st A B) {j : Nat} (hj : j < N) : PicOk (P 0).a (P 0).b (P 0).n (P j).f A B ∧ (P j).a = (P 0).a ∧ (P j).b = (P 0).b ∧ (P j).n = (P 0).n := by
  have o0 := o.pic 0 (by have := o.one; omega)
  have oj := o.pic j hj
  have ea : (P j).a = (P 0).a := oj.wide.trans o0.wide.symm
  have eb : (P j).b = (P 0).b := oj.high.trans o0.high.symm
  have en : (P j).n = (P 0).n := oj.many.trans o0.many.symm
  rw [ea, eb, en] at oj
  exact ⟨oj, ea, eb, en⟩
theorem stpK_fil {N : Nat} {P : Nat → Pc} {E : Nat} {st : Int} {A B : Nat} (o : FilOk N P E st A B) {j : Nat} (hj : j < N) {sn : Nat} {f0 : Nat → Int} (ha : 0 < j → sn = (P 0).n ∧ f0 = filT A B (P 0).n E st (fun i => (P i).f) (j - 1)) :
    stpK st (filC A B (P 0).n E st (fun i => (P i).f) j) ⟨(P 0).a, (P 0).b, sn, f0⟩ = (0, ⟨(P 0).a, (P 0).b, (P 0).n, filT A B (P 0).n E st (fun i => (P i).f) j⟩) := by
  obtain ⟨oj, _⟩ := o.like hj
  unfold stpK
  by_cases c : j % E = 0
  · rw [filC_al c, filT_al c]
    exact stpC_al oj o.s1 o.s2 (g := fun _ => 0)
  · obtain ⟨p, rfl⟩ : ∃ p, j = p + 1 := ⟨j - 1, by
      have : j ≠ 0 := fun e => c (by rw [e]; exact Nat.zero_mod _)
      omega⟩
    obtain ⟨rfl, rfl⟩ := ha (by omega)
    rw [Nat.add_sub_cancel, filC_mv c, filT_mv c]
    exact stpC_mv (filT_ok (o.like (j := 0) (by omega)).1 _ _ _ p) oj o.s1 o.s2

theorem fcode_fil {N : Nat} {P : Nat → Pc} {E : Nat} {st : Int} {A B : Nat} (o : FilOk N P E st A B) {j : Nat} (hj : j < N) {W : World} {s : Value} {sd : Option Addr} {sn sc : Nat} {f0 : Nat → Int} (h : IntsIn W s (P j).n (P j).f) (hi : IntsIn W (.slice sd sn sc) sn f0) (ha : 0 < j → sn = (P 0).n ∧ f0 = filT A B (P 0).n E st (fun i => (P i).f) (j - 1)) :
    Calls Tryz.prog 22 #[.agg #[.int .i64 (P 0).a, .int .i64 (P 0).b, .slice sd sn sc], .agg #[.int .i64 (P j).a, .int .i64 (P j).b, s], .bool (filC A B (P 0).n E st (fun i => (P i).f) j).al, .int .i64 st] W fun e w' => ∃ ad cp, e = .returned (.tuple #[.agg #[.bool (filC A B (P 0).n E st (fun i => (P i).f) j).al, .int .i64 (filC A B (P 0).n E st (fun i => (P i).f) j).x, .int .i64 (filC A B (P 0).n E st (fun i => (P i).f) j).y, .slice ad (P 0).n cp], .nilIface]) ∧ IntsIn w' (.slice ad (P 0).n cp) (P 0).n (filC A B (P 0).n E st (fun i => (P i).f) j).f ∧ Below W.heap.size W w' ∧ ∀ k, (Value.slice ad (P 0).n cp).ownBlock = some k → W.heap.size ≤ k := by
  obtain ⟨oj, ea, eb, en⟩ := o.like hj
  rw [en] at h
  rw [ea, eb]
  by_cases c : j % E = 0
  · rw [filC_al c]
    exact fcode_al (P 0).a (P 0).b sd sn sc st h oj o.s1 o.s2
  · obtain ⟨p, rfl⟩ : ∃ p, j = p + 1 := ⟨j - 1, by
      have : j ≠ 0 := fun e => c (by rw [e]; exact Nat.zero_mod _)
      omega⟩
    obtain ⟨rfl, rfl⟩ := ha (by omega)
    rw [Nat.add_sub_cancel] at hi
    rw [filC_mv c]
    exact fcode_mv st hi h (filT_ok (o.like (j := 0) (by omega)).1 _ _ _ p) oj o.s1 o.s2
theorem ftell_fil {N : Nat} {P : Nat → Pc} {E : Nat} {st : Int} {A B : Nat} (o : FilOk N P E st A B) {j : Nat} (hj : j < N) {W : World} {s : Value} {sd : Option Addr} {sn sc : Nat} {f0 : Nat → Int} (h : IntsIn W s (P 0).n (filC A B (P 0).n E st (fun i => (P i).f) j).f) (hi : IntsIn W (.slice sd sn sc) sn f0) (ha : 0 < j → sn = (P 0).n ∧ f0 = filT A B (P 0).n E st (fun i => (P i).f) (j - 1)) :
    Calls Tryz.prog 23 #[.agg #[.int .i64 (P 0).a, .int .i64 (P 0).b, .slice sd sn sc], .agg #[.bool (filC A B (P 0).n E st (fun i => (P i).f) j).al, .int .i64 (filC A B (P 0).n E st (fun i => (P i).f) j).x, .int .i64 (filC A B (P 0).n E st (fun i => (P i).f) j).y, s], .int .i64 st] W fun e w' => ∃ ad cp, e = .returned (.tuple #[.agg #[.int .i64 (P 0).a, .int .i64 (P 0).b, .slice ad (P 0).n cp], .nilIface]) ∧ IntsIn w' (.slice ad (P 0).n cp) (P 0).n (filT A B (P 0).n E st (fun i => (P i).f) j) ∧ Below W.heap.size W w' ∧ ∀ k, (Value.slice ad (P 0).n cp).ownBlock = some k → W.heap.size ≤ k := by
  have hE := stpK_fil o hj ha
  have hn : (filC A B (P 0).n E st (fun i => (P i).f) j).n = (P 0).n := filC_n
  have h' : IntsIn W s (filC A B (P 0).n E st (fun i => (P i).f) j).n (filC A B (P 0).n E st (fun i => (P i).f) j).f := by rw [hn]; exact h
  exact ftell_any (E := (0, ⟨(P 0).a, (P 0).b, (P 0).n, filT A B (P 0).n E st (fun i => (P i).f) j⟩)) (P 0).a (P 0).b _ _ _ st hi h' hE
end Go.Proofs.YtjhflcgphejddaaGreatDoor

namespace Go.Proofs.YtjhflcgphejddaaGreatDoor
open Go.RowKit
set_option linter.unusedVariables false
set_option maxRecDepth 100000

theorem fdec_fil {w : World} {v : Value} {N : Nat} {P : Nat → Pc} {ev st : Int} {A B : Nat} (ok : FilOk N P ev st A B) {k : Nat} (hk1 : 1 ≤ k) (hk : k ≤ N) (h : CodsIn w v k (filC A B (P 0).n ev.toNat st fun i => (P i).f)) :
    Calls Tryz.prog 16 #[.int .i64 (P 0).a, .int .i64 (P 0).b, .int .i64 st, v] w fun e w' => ∃ u, e = .returned (.tuple #[u, .nilIface]) ∧ PicsIn w' u k (fun i => ⟨(P 0).a, (P 0).b, (P 0).n, filT A B (P 0).n ev.toNat st (fun i => (P i).f) i⟩) ∧ Below w.heap.size w w' := by
  have o0 := ok.pic 0 (by omega)
  have h6 := ok.six
  have hc : cntF k = 0 := cntF_zero.2 ⟨hk1, by omega⟩
  have hs : sidF (P 0).a (P 0).b st = 0 := by
    unfold sidF
    have h1 := o0.wide
    have h2 := o0.high
    have h3 := o0.w1
    have h4 := o0.w6
    have h5 := o0.h1
    have h7 := o0.h6
    have h8 := ok.s1
    have h9 := ok.s2
    rw [if_pos (by omega)]
  refine (fdec_walk (P 0).a (P 0).b st h hc hs rfl).mono ?_
  rintro e w' ⟨h9, hb⟩
  have hz : ∀ i, i < N → seeS (P 0).a (P 0).b st (filC A B (P 0).n ev.toNat st fun i => (P i).f) (i + 1) = (0, ⟨(P 0).a, (P 0).b, (P 0).n, filT A B (P 0).n ev.toNat st (fun i => (P i).f) i⟩) := see_fil ok
  have hk0 : (seeS (P 0).a (P 0).b st (filC A B (P 0).n ev.toNat st fun i => (P i).f) k).1 = 0 := by
    obtain ⟨p, rfl⟩ : ∃ p, k = p + 1 := ⟨k - 1, by omega⟩
    rw [hz p (by omega)]
  rcases h9 with ⟨h0, _⟩ | ⟨_, u, he, hu⟩
  · exact absurd hk0 h0
  · refine ⟨u, he, hu.congr fun i hi => ?_, hb⟩
    unfold seeP
    rw [hz i (by omega)]
/-- The fact that the law on films begins with: a flat film of two by steps of one. -/
theorem fact_ok : FilOk 2 (fun _ => ⟨1, 1, 1, fun _ => 9⟩) 2 1 1 1 :=
  ⟨by omega, by omega, fun i hi => ⟨rfl, rfl, by omega, by omega, by omega, by omega, rfl, fun _ _ => by simp⟩, by omega, by omega, by omega, by omega⟩
theorem fact_first : restF 1 1 (byPix 1 fun _ => 9) 0 = -119 := by decide
end Go.Proofs.YtjhflcgphejddaaGreatDoor
