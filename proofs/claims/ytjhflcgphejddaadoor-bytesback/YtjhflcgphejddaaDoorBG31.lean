/-
  Lemmas for the law above, joined into one text (RAlS, RAlT, RPicO). No statement is proved here.
-/
import Derived.Test.YtjhflcgphejddaaDoorBG30
import Derived.Test.YtjhflcgphejddaaDoorBG7
import Derived.Test.YtjhflcgphejddaaDoorBG16
import Derived.Laws.MakeOwn
import Derived.Maps.AppendAt
import Derived.Test.YtjhflcgphejddaaDoorBG13
import Derived.Test.YtjhflcgphejddaaDoorBG8
namespace Go.Proofs.YtjhflcgphejddaaDoor
open Go.RowKit
set_option linter.unusedVariables false
set_option maxRecDepth 100000

set_option maxHeartbeats 1000000 in
theorem rguess_ok {w : World} {v : Value} {i : Nat} {T : Nat → Int} {A : Nat} (h : IntsIn w v i T) (hA : 1 ≤ A) (hA6 : A ≤ 6) (hi : i ≤ 1000) :
    Calls Tryd.prog 53 #[v, .int .i64 A] w fun e w' => e = .returned (.int .i64 (gsN A T i)) ∧ w = w' := by
  have HG : Hid (gsN A T i = if i = 0 then 128 else if i % A = 0 then T (i - A) else T (i - 1)) := rfl
  rcases h with ⟨rfl, a, cap, rfl⟩ | ⟨h0, b, o, cap, rfl, hc⟩
  · go_enter Tryd.func53, Tryd.ntmps53
    go_wp2
    go_ret
    exact ⟨rfl, rfl⟩
  · have hA0 : ¬ A = 0 := by omega
    have e2 : (i : Int) % (A : Int) = ((i % A : Nat) : Int) := (Int.natCast_emod i A).symm
    have e4 : (i : Int).tmod (A : Int) = ((i % A : Nat) : Int) := by rw [Int.tmod_eq_emod_of_nonneg (by omega)]; exact e2
    have hz : ((i : Int) == 0) = false := by rw [beq_eq_false_iff_ne]; omega
    by_cases hm : i % A = 0
    · have hle : A ≤ i := Nat.le_of_dvd h0 (Nat.dvd_of_mod_eq_zero hm)
      have hcj := hc (i - A) (by omega)
      have e5 : ((i - A : Nat) : Int) = (i : Int) - (A : Int) := by omega
      have hE : Hid (gsN A T i = T (i - A)) := by unfold Hid; rw [HG.out, if_neg (by omega), if_pos hm]
      rw [hm] at e2 e4
      generalize hx : T (i - A) = x at *
      clear hx hm HG hc
      go_enter Tryd.func53, Tryd.ntmps53
      go_wp2
      go_ret
      exact ⟨ret_int hE.out.symm, rfl⟩
    · have hcj := hc (i - 1) (by omega)
      have hE : Hid (gsN A T i = T (i - 1)) := by unfold Hid; rw [HG.out, if_neg (by omega), if_neg hm]
      have hm1 : (((i % A : Nat) : Int) == 0) = false := by rw [beq_eq_false_iff_ne]; omega
      have hlt : i % A < A := Nat.mod_lt _ (by omega)
      generalize i % A = m at *
      generalize hx : T (i - 1) = x at *
      clear hx HG hc
      go_enter Tryd.func53, Tryd.ntmps53
      go_wp2
      go_ret
      exact ⟨ret_int hE.out.symm, rfl⟩
end Go.Proofs.YtjhflcgphejddaaDoor

namespace Go.Proofs.YtjhflcgphejddaaDoor
open Go.RowKit Go.Maps
set_option linter.unusedVariables false
set_option maxRecDepth 100000

set_option maxHeartbeats 1000000 in
theorem rtold_bad {w : World} {v : Value} {n : Nat} {f : Nat → Int} (a b s : Int) (h : IntsIn w v n f) (hx : decF a b s n f ≠ 0) :
    Calls Tryd.prog 35 #[.int .i64 a, .int .i64 b, .int .i64 s, v] w fun e w' => e = .returned (.tuple #[.agg #[.int .i64 0, .int .i64 0, .slice none 0 0], .int .i64 (decF a b s n f : Nat)]) ∧ Below w.heap.size w w' := by
  have p1 := picIn_new w 0 0 (.slice none 0 0)
  have b1 : Below w.heap.size w (w.alloc (.cells #[.int .i64 0, .int .i64 0, .slice none 0 0] 46)) := (Below.refl _ _).alloc (Nat.le_refl _) _
  obtain ⟨⟨c0, g0⟩, ⟨c1, g1⟩, c2, g2⟩ := p1
  have HB := hide b1
  have HI := hide (h.below b1)
  obtain ⟨ad, cap, rfl⟩ := slice_shape h
  have HD : Hid (decF a b s n f = if (sidesOk a b && stepOk s) = false then 1 else restsF n f (a * b)) := rfl
  clear h b1
  by_cases hs : 1 ≤ a ∧ a ≤ 6 ∧ 1 ≤ b ∧ b ≤ 6 ∧ 1 ≤ s ∧ s ≤ 64
  · have hq : (sidesOk a b && stepOk s) = true := by rw [sidesOk_iff.2 (by omega), stepOk_iff.2 (by omega)]; rfl
    rw [hq, if_neg (by simp)] at HD
    obtain ⟨a1, a6, q1, q6, s1, s2⟩ := hs
    have hp0 : 0 ≤ a * b := Int.mul_nonneg (by omega) (by omega)
    have hp1 : a * b ≤ 36 := by
      have e1 : a * b ≤ 6 * b := Int.mul_le_mul_of_nonneg_right (by omega) (by omega)
      omega
    have C := hide (rrests_ok (a * b) HI.out (by omega))
    rw [← HD.out] at C
    have hne : ((decF a b s n f : Int) == 0) = false := by rw [beq_eq_false_iff_ne]; omega
    have hne2 : ((decF a b s n f : Int) != 0) = true := by simp [bne, hne]
    clear hq HD hx
    generalize decF a b s n f = k at *
    go_enter Tryd.func35, Tryd.ntmps35
    go_wp2_with fail
    refine (C.out).mono ?_
    rintro e w2 ⟨rfl, rfl⟩
    go_wp2
    refine bodyPost_ret (v := .tuple #[.agg #[.int .i64 0, .int .i64 0, .slice none 0 0], .int .i64 (k : Nat)]) (by simp [results, Tryd.results35, go_sem, c0, c1, c2]) rfl ⟨rfl, ?_⟩
    first
      | exact HB.out
      | exact (((HB.out.setCell (Nat.le_refl _) _).setCell (Nat.le_refl _) _).setCell (Nat.le_refl _) _)
  · have HE : Hid (decF a b s n f = 1) := by
      unfold Hid
      rw [HD.out, if_pos]
      rw [← Bool.not_eq_true, Bool.and_eq_true, sidesOk_iff, stepOk_iff]
      omega
    have hw : a < 1 ∨ (1 ≤ a ∧ 6 < a) ∨ (1 ≤ a ∧ a ≤ 6 ∧ b < 1) ∨ (1 ≤ a ∧ a ≤ 6 ∧ 1 ≤ b ∧ 6 < b) ∨ (1 ≤ a ∧ a ≤ 6 ∧ 1 ≤ b ∧ b ≤ 6 ∧ s < 1) ∨ (1 ≤ a ∧ a ≤ 6 ∧ 1 ≤ b ∧ b ≤ 6 ∧ 1 ≤ s ∧ 64 < s) := by omega
    clear hs HD hx
    rcases hw with h | ⟨h1, h⟩ | ⟨h1, h2, h⟩ | ⟨h1, h2, h3, h⟩ | ⟨h1, h2, h3, h4, h⟩ | ⟨h1, h2, h3, h4, h5, h⟩ <;>
    · go_enter Tryd.func35, Tryd.ntmps35
      go_wp2
      refine bodyPost_ret (v := .tuple #[.agg #[.int .i64 0, .int .i64 0, .slice none 0 0], .int .i64 1]) (by simp [results, Tryd.results35, go_sem, c0, c1, c2]) rfl ⟨by rw [HE.out]; rfl, ?_⟩
      first
        | exact HB.out
        | exact (((HB.out.setCell (Nat.le_refl _) _).setCell (Nat.le_refl _) _).setCell (Nat.le_refl _) _)

set_option maxHeartbeats 4000000 in
theorem rtold_new {w : World} {v : Value} {n : Nat} {f : Nat → Int} {a b s : Int} {A B : Nat} (h : IntsIn w v n f) (o : DecOk a b s n f A B) :
    Calls Tryd.prog 35 #[.int .i64 a, .int .i64 b, .int .i64 s, v] w fun e w' => ∃ u, e = .returned (.tuple #[.agg #[.int .i64 a, .int .i64 b, u], .int .i64 0]) ∧ IntsIn w' u n (tellF A s fun i _ => f i) ∧ Below w.heap.size w w' ∧ ∀ k, u.ownBlock = some k → w.heap.size ≤ k := by
  obtain ⟨w1, hw1⟩ : ∃ w1, w1 = w.alloc (.cells #[.int .i64 0, .int .i64 0, .slice none 0 0] 46) := ⟨_, rfl⟩
  have b1 : Below w.heap.size w w1 := hw1 ▸ (Below.refl _ _).alloc (Nat.le_refl _) _
  have P2 : Hid (PicIn w1 w.heap.size 0 0 (.slice none 0 0)) := hide (hw1 ▸ picIn_new w _ _ _)
  have B2 := hide b1
  have HI := hide (h.below b1)
  have hl := o.le
  have h0 := o.pos
  have hn : (n : Int) = a * b := by rw [o.wide, o.high, o.many, Int.natCast_mul]
  have hp0 : 0 ≤ a * b := by omega
  have hp1 : a * b ≤ 36 := by omega
  have C := hide (rrests_ok (a * b) HI.out (by omega))
  rw [show restsF n f (a * b) = 0 by unfold restsF; rw [if_neg (by simp [hn]), restsOk_iff.2 o.rest, if_neg (by simp)]] at C
  have HR := hide o.rest
  have HT := hide (fun i => tellF_eq o.w1 s (fun j _ => f j) i)
  have HG := hide (fun i => gsN_in (A := A) (tellF_in o.w1 s (fun j _ => f j)) i)
  have a1 := o.w1
  have a6 := o.w6
  have s1 := o.s1
  have s2 := o.s2
  have ea := o.wide
  have q1 : 1 ≤ b := by have := o.high; have := o.h1; omega
  have q6 : b ≤ 6 := by have := o.high; have := o.h6; omega
  obtain ⟨i0, hi0, hz0, hz1, hz2⟩ := info_parts Tryd.infoInt
  have Hi := hide hi0
  have Hz0 := hide hz0
  have Hz1 := hide hz1
  have Hz2 := hide hz2
  obtain ⟨bb, oo, cap, rfl, hc⟩ : ∃ bb oo cap, v = .slice (some ⟨bb, oo, none⟩) n cap ∧ ∀ i, i < n → w.cell? ⟨bb, oo + i, none⟩ = some (.int .i64 (f i)) := by
    rcases h with ⟨h, _⟩ | ⟨_, b', o', c', e, hc⟩
    · omega
    · exact ⟨_, _, _, e, hc⟩
  have HC := hide hc
  subst ea
  generalize hTT : tellF A s (fun j _ => f j) = T at *
  clear h o b1 hc hn hi0 hz0 hz1 hz2 hTT
  subst hw1
  go_enter Tryd.func35, Tryd.ntmps35
  go_wp2_with fail
  refine (C.out).mono ?_
  rintro e w3 ⟨rfl, rfl⟩
  go_wp2
  go_loopw [11, 12, 13] (fun u i _ wr => ∃ (j : Nat) (ad : Option Addr) (cp : Nat), j ≤ n ∧ i = .int .i64 j ∧ u = .slice ad j cp ∧ wr.ownsRow (w.heap.size + 1) 3 1 u j ((List.range j).map fun k : Nat => .int .i64 (T k)) ∧ Hid (PicIn wr w.heap.size 0 0 (.slice none 0 0)) ∧ Below w.heap.size w wr) (fun _ i _ _ => n - (intOf i).toNat)
  case atStart => exact ⟨0, none, 0, Nat.zero_le _, rfl, rfl, World.ownsRow_nil _ _ _ _, P2, B2.out⟩
  case round =>
    obtain ⟨j, adr, cpr, hj, rfl, rfl, hX, PR, hb⟩ := hrel
    have HX := hide hX
    have HB := hide hb
    have hbig := PR.out.lt
    clear hX hb
    by_cases hlt : j < n
    · have hcj := cell_below HB.out (HC.out j hlt)
      have hr := HR.out j hlt
      have hg := HG.out j
      have K1 := hide (rguess_ok (w := wr) (own_in HX.out) a1 a6 (by omega))
      have K2 := hide (rclamp_ok (gsN A T j + f j * s) wr)
      rw [← HT.out j] at K2
      have p0 : -255 * s ≤ f j * s := Int.mul_le_mul_of_nonneg_right hr.1 (by omega)
      have p1 : f j * s ≤ 255 * s := Int.mul_le_mul_of_nonneg_right hr.2 (by omega)
      have p2 : -16320 ≤ f j * s := by omega
      have p3 : f j * s ≤ 16320 := by omega
      have HM : Hid ((List.range (j + 1)).map (fun k : Nat => Value.int .i64 (T k)) = (List.range j).map (fun k : Nat => Value.int .i64 (T k)) ++ [.int .i64 (T j)]) := by
        unfold Hid; rw [List.range_succ, List.map_append]; rfl
      clear p0 p1
      generalize gsN A T j = g at *
      generalize f j = x at *
      generalize T j = z at *
      obtain ⟨g1, g2⟩ := hg
      obtain ⟨r1, r2⟩ := hr
      go_wp2_with fail
      refine (K1.out).mono ?_
      rintro e w3 ⟨rfl, rfl⟩
      go_wp2_with fail
      refine (K2.out).mono ?_
      rintro e w3 ⟨rfl, rfl⟩
      have hz1' := Hz1.out
      go_wp2_with (at_builtin; refine wpList_append_lies _ rfl _ _ 36 rfl (w.heap.size + 1) 3 i0 (.int .i64 0) 1 8 Tryd.underlying36 Hi.out Hz0.out Hz1.out Hz2.out rfl (by decide) _ _ _ rfl (HX.out.alloc _) ⟨wr.heap.size, 0, none⟩ 1 1 [.int .i64 z] rfl rfl (cell_one_new _ _ _) (fun x hx => by simp at hx; subst hx; rfl) (by decide) (by unfold maxLen; omega) (by omega) (by simp; omega) _ rfl ?_; intro g3 cap3 w5 hown3 hgrow3 hat3 hlt3)
      go_roundw
      case rel =>
        have hB5 : Below (w.heap.size + 1) wr w5 := ((Below.refl (w.heap.size + 1) wr).alloc (by omega) _).grown hgrow3 (by simp; omega) (fun q hq => (HX.out.lt q hq).1)
        have R : j + 1 ≤ n ∧ Value.int .i64 ((j : Int) + 1) = .int .i64 ((j + 1 : Nat) : Int) ∧ Value.slice (some ⟨g3, 0, none⟩) (j + 1) cap3 = .slice (some ⟨g3, 0, none⟩) (j + 1) cap3
            ∧ w5.ownsRow (w.heap.size + 1) 3 1 (.slice (some ⟨g3, 0, none⟩) (j + 1) cap3) (j + 1) ((List.range (j + 1)).map fun k : Nat => .int .i64 (T k)) ∧ Hid (PicIn w5 w.heap.size 0 0 (.slice none 0 0)) ∧ Below w.heap.size w w5 :=
          ⟨by omega, by simp, rfl, by rw [HM.out]; exact hown3, PR.out.mono hB5 (by omega), HB.out.trans (hB5.mono (by omega))⟩
        first
          | exact ⟨j + 1, some ⟨g3, 0, none⟩, cap3, R⟩
          | ((repeat apply Exists.intro); exact ⟨⟨j + 1, some ⟨g3, 0, none⟩, cap3, R⟩, rfl⟩)
      case measure => simp [intOf]; omega
    · obtain rfl : j = n := by omega
      obtain ⟨⟨u0, g0⟩, ⟨u1, g1⟩, u2, g2⟩ := PR.out
      go_wp2
      refine bodyPost_ret (v := .tuple #[.agg #[.int .i64 A, .int .i64 b, .slice adr j cpr], .int .i64 0]) (by simp [results, Tryd.results35, go_sem, u0, u1, u2]) rfl ⟨_, rfl, ?_, ?_, fun k e => by have := (HX.out.lt k e).1; omega⟩
      · have hlt9 : w.heap.size < w.heap.size + 1 := by omega
        exact own_in (ownsRow_setCell_below (ownsRow_setCell_below (ownsRow_setCell_below HX.out hlt9 _) hlt9 _) hlt9 _)
      · exact ((HB.out.setCell (Nat.le_refl _) _).setCell (Nat.le_refl _) _).setCell (Nat.le_refl _) _
theorem rtold_ok {w : World} {v : Value} {n : Nat} {f : Nat → Int} {a b s : Int} {A B : Nat} (h : IntsIn w v n f) (o : DecOk a b s n f A B) :
    Calls Tryd.prog 35 #[.int .i64 a, .int .i64 b, .int .i64 s, v] w fun e w' => ∃ u, e = .returned (.tuple #[.agg #[.int .i64 a, .int .i64 b, u], .int .i64 0]) ∧ IntsIn w' u n (tellF A s fun i _ => f i) ∧ Below w.heap.size w w' :=
  (rtold_new h o).mono fun e w' ⟨u, he, h1, hb, _⟩ => ⟨u, he, h1, hb⟩
end Go.Proofs.YtjhflcgphejddaaDoor

namespace Go.Proofs.YtjhflcgphejddaaDoor
open Go.RowKit
set_option linter.unusedVariables false
set_option maxRecDepth 100000

set_option maxHeartbeats 1000000 in
theorem rpic_ok {w : World} {s : Value} {n : Nat} {f : Nat → Int} (a b : Int) (h : IntsIn w s n f) :
    Calls Tryd.prog 55 #[.agg #[.int .i64 a, .int .i64 b, s]] w fun e w' => e = .returned (.int .i64 (picF a b n f : Nat)) ∧ Below w.heap.size w w' := by
  have hb0 : Below w.heap.size w (w.alloc (.cells #[.int .i64 a, .int .i64 b, s] 46)) := (Below.refl _ _).alloc (Nat.le_refl _) _
  have HB := hide hb0
  have H0 := hide (h.below hb0)
  obtain ⟨⟨c0, _⟩, ⟨c1, _⟩, c2, _⟩ := picIn_new w a b s
  obtain ⟨ad, cap, rfl⟩ : ∃ ad cap, s = .slice ad n cap := by
    rcases h with ⟨rfl, a, c, rfl⟩ | ⟨_, b, o, c, rfl, _⟩
    · exact ⟨_, _, rfl⟩
    · exact ⟨_, _, rfl⟩
  have HP : Hid (picF a b n f = if sidesOk a b = false then 1 else if (n : Int) ≠ a * b then 3 else if pixOk n f = false then 1 else 0) := rfl
  clear hb0 h
  by_cases hs : 1 ≤ a ∧ a ≤ 6 ∧ 1 ≤ b ∧ b ≤ 6
  · have hsid := sidesOk_iff.2 hs
    obtain ⟨s1, s2, s3, s4⟩ := hs
    have hp0 : 0 ≤ a * b := Int.mul_nonneg (by omega) (by omega)
    have hp1 : a * b ≤ 36 := by
      have e1 : a * b ≤ 6 * b := Int.mul_le_mul_of_nonneg_right (by omega) (by omega)
      omega
    rw [hsid, if_neg (by simp)] at HP
    clear hsid
    by_cases hn : (n : Int) = a * b
    · have hn1 : ((n : Int) == a * b) = true := by rw [beq_iff_eq]; exact hn
      have hn3 : ((n : Int) != a * b) = false := by simp [bne, hn1]
      have hn2 : n ≤ 36 := by omega
      have hn0 : 0 < n := by
        have e1 : 1 * b ≤ a * b := Int.mul_le_mul_of_nonneg_right (by omega) (by omega)
        omega
      rw [if_neg (by simp [hn])] at HP
      clear hn
      obtain ⟨bb, oo, rfl, hc⟩ : ∃ bb oo, ad = some ⟨bb, oo, none⟩ ∧ ∀ i, i < n → (w.alloc (.cells #[.int .i64 a, .int .i64 b, .slice ad n cap] 46)).cell? ⟨bb, oo + i, none⟩ = some (.int .i64 (f i)) := by
        rcases H0.out with ⟨h, _⟩ | ⟨_, b', o', c', e, hc⟩
        · omega
        · cases e
          exact ⟨_, _, rfl, hc⟩
      have HC := hide hc
      clear H0 hc
      go_enter Tryd.func55, Tryd.ntmps55
      go_wp2
      go_loop [3] (fun i => ∃ j : Nat, j ≤ n ∧ i = .int .i64 j ∧ ∀ q, q < j → 0 ≤ f q ∧ f q ≤ 255) (fun i => n - (intOf i).toNat)
      case atStart => exact ⟨0, Nat.zero_le _, rfl, fun q hq => absurd hq (Nat.not_lt_zero _)⟩
      case round =>
        obtain ⟨j, hj, rfl, hno⟩ := hrel
        have HN := hide hno
        clear hno
        by_cases hlt : j < n
        · have hcj := HC.out j hlt
          by_cases hx : 0 ≤ f j ∧ f j ≤ 255
          · have HX := hide hx
            obtain ⟨x0, x1⟩ := hx
            generalize hz : f j = z at *
            have HZ := hide hz
            clear hz
            go_wp2
            go_round
            case rel =>
              refine ⟨j + 1, by omega, by go_num, fun q hq => ?_⟩
              by_cases c : q = j
              · rw [c, HZ.out]; exact HX.out
              · exact HN.out q (by omega)
            case measure => simp [intOf]; omega
          · have HE : Hid (picF a b n f = 1) := by
              unfold Hid
              rw [HP.out, if_pos]
              rw [← Bool.not_eq_true, pixOk_iff]
              exact fun h => hx (h j hlt)
            have hx' : f j < 0 ∨ (0 ≤ f j ∧ 255 < f j) := by omega
            clear hx
            generalize f j = z at *
            rcases hx' with x0 | ⟨x0, x1⟩
            · go_wp2
              go_ret
              exact ⟨by rw [HE.out]; rfl, HB.out⟩
            · go_wp2
              go_ret
              exact ⟨by rw [HE.out]; rfl, HB.out⟩
        · obtain rfl : j = n := by omega
          have HE : Hid (picF a b j f = 0) := by
            unfold Hid
            rw [HP.out, if_neg]
            rw [pixOk_iff.2 HN.out]; simp
          go_wp2
          go_ret
          exact ⟨by rw [HE.out]; rfl, HB.out⟩
    · have hn1 : ((n : Int) == a * b) = false := by rw [beq_eq_false_iff_ne]; exact hn
      have hn3 : ((n : Int) != a * b) = true := by simp [bne, hn1]
      have HE : Hid (picF a b n f = 3) := by unfold Hid; rw [HP.out, if_pos hn]
      clear hn HP H0
      go_enter Tryd.func55, Tryd.ntmps55
      go_wp2
      go_ret
      exact ⟨by rw [HE.out]; rfl, HB.out⟩
  · have HE : Hid (picF a b n f = 1) := by
      unfold Hid
      rw [HP.out, if_pos]
      rw [← Bool.not_eq_true, sidesOk_iff]; exact hs
    have h' : a < 1 ∨ (1 ≤ a ∧ 6 < a) ∨ (1 ≤ a ∧ a ≤ 6 ∧ b < 1) ∨ (1 ≤ a ∧ a ≤ 6 ∧ 1 ≤ b ∧ 6 < b) := by omega
    clear hs HP H0
    rcases h' with h | ⟨h1, h⟩ | ⟨h1, h2, h⟩ | ⟨h1, h2, h3, h⟩ <;>
    · go_enter Tryd.func55, Tryd.ntmps55
      go_wp2
      go_ret
      exact ⟨by rw [HE.out]; rfl, HB.out⟩

end Go.Proofs.YtjhflcgphejddaaDoor
