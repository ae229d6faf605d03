/-
  Lemmas for the law above, joined into one text (FlTa, FlT, FlG). No statement is proved here.
-/
import Derived.Test.YtfgcngjggdjcjaaTG2
import Derived.Test.YtfgcngjggdjcjaaTG4
import Derived.Test.YtfgcngjggdjcjaaTG12
import Derived.Test.YtfgcngjggdjcjaaTG17
import Derived.Test.YtfgcngjggdjcjaaTG5
import Derived.Deep.DeepCutAuto
import Derived.Test.YtfgcngjggdjcjaaTG16
namespace Go.Proofs.Ytfgcngjggdjcjaa
open Go.RowKit Go.Maps
set_option linter.unusedVariables false
set_option maxRecDepth 100000

theorem adec_all {w : World} {v : Value} {n : Nat} {f : Nat → Int} (a b s : Int) (h : IntsIn w v n f) :
    Calls Try.prog 24 #[.int .i64 a, .int .i64 b, .int .i64 s, v] w fun e w' => ∃ ad cp, e = .returned (.tuple #[.agg #[.int .i64 (deX a b s n f), .int .i64 (deY a b s n f), .slice ad (deM a b s n f) cp], errN (decF a b s n f)]) ∧ IntsIn w' (.slice ad (deM a b s n f) cp) (deM a b s n f) (deG a s f) ∧ Below w.heap.size w w' ∧ ∀ k, (Value.slice ad (deM a b s n f) cp).ownBlock = some k → w.heap.size ≤ k := by
  by_cases hx : decF a b s n f = 0
  · obtain ⟨A, B, o⟩ := decF_zero.1 hx
    refine (adec_ok h o).mono ?_
    rintro e w' ⟨u, rfl, hu, hb, hn⟩
    obtain ⟨ad, cp, rfl⟩ := slice_shape hu
    have e1 : deX a b s n f = a := if_pos hx
    have e2 : deY a b s n f = b := if_pos hx
    have e3 : deM a b s n f = n := if_pos hx
    have e4 : deG a s f = tellF A s fun i _ => f i := by unfold deG; rw [o.wide]; rfl
    rw [e1, e2, e3, e4, hx]
    exact ⟨ad, cp, rfl, hu, hb, hn⟩
  · refine (adec_bad a b s h hx).mono ?_
    rintro e w' ⟨rfl, hb⟩
    have e1 : deX a b s n f = 0 := if_neg hx
    have e2 : deY a b s n f = 0 := if_neg hx
    have e3 : deM a b s n f = 0 := if_neg hx
    rw [e1, e2, e3]
    exact ⟨none, 0, rfl, Or.inl ⟨rfl, _, _, rfl⟩, hb, fun k h => by cases h⟩
theorem mdec_all {w : World} {s s' : Value} {n n' : Nat} {f f' : Nat → Int} (a b : Int) (al : Bool) (x y st : Int) (h : IntsIn w s n f) (h' : IntsIn w s' n' f') :
    Calls Try.prog 23 #[.agg #[.int .i64 a, .int .i64 b, s], .agg #[.bool al, .int .i64 x, .int .i64 y, s'], .int .i64 st] w fun e w' => ∃ ad cp, e = .returned (.tuple #[.agg #[.int .i64 (mdX a b n f al x y n' f' st), .int .i64 (mdY a b n f al x y n' f' st), .slice ad (mdM a b n f al x y n' f' st) cp], errN (mdeF a b n f al x y n' f' st)]) ∧ IntsIn w' (.slice ad (mdM a b n f al x y n' f' st) cp) (mdM a b n f al x y n' f' st) (mdG a b f x y f' st) ∧ Below w.heap.size w w' ∧ ∀ k, (Value.slice ad (mdM a b n f al x y n' f' st) cp).ownBlock = some k → w.heap.size ≤ k := by
  by_cases hx : mdeF a b n f al x y n' f' st = 0
  · obtain ⟨hp, ⟨s1, s2⟩, hc⟩ := mdeF_zero.1 hx
    obtain ⟨A, B, o⟩ := picF_zero.1 hp
    obtain ⟨rfl, hm, hn, hr⟩ := chkF_zero.1 hc
    obtain rfl : n' = n := by omega
    refine (mdec_new x y st h h' o s1 s2 hm hr).mono ?_
    rintro e w' ⟨u, rfl, hu, hb, hn⟩
    obtain ⟨ad, cp, rfl⟩ := slice_shape hu
    have e1 : mdX a b n' f false x y n' f' st = a := if_pos hx
    have e2 : mdY a b n' f false x y n' f' st = b := if_pos hx
    have e3 : mdM a b n' f false x y n' f' st = n' := if_pos hx
    have e4 : mdG a b f x y f' st = toldF (shiftN A B x y f) f' st := by unfold mdG; rw [o.wide, o.high]; rfl
    rw [e1, e2, e3, e4, hx]
    exact ⟨ad, cp, rfl, hu, hb, hn⟩
  · refine (mdec_bad a b al x y st h h' hx).mono ?_
    rintro e w' ⟨rfl, hb⟩
    have e1 : mdX a b n f al x y n' f' st = 0 := if_neg hx
    have e2 : mdY a b n f al x y n' f' st = 0 := if_neg hx
    have e3 : mdM a b n f al x y n' f' st = 0 := if_neg hx
    rw [e1, e2, e3]
    exact ⟨none, 0, rfl, Or.inl ⟨rfl, _, _, rfl⟩, hb, fun k h => by cases h⟩
end Go.Proofs.Ytfgcngjggdjcjaa

namespace Go.Proofs.Ytfgcngjggdjcjaa
open Go.RowKit Go.Maps
set_option linter.unusedVariables false
set_option maxRecDepth 100000

set_option maxHeartbeats 4000000 in
theorem ftell_any {w : World} {s s' : Value} {n n' : Nat} {f f' : Nat → Int} {E : Nat × Pc} (a b : Int) (al : Bool) (x y st : Int) (h : IntsIn w s n f) (h' : IntsIn w s' n' f') (hE : stpK st ⟨al, x, y, n', f'⟩ ⟨a, b, n, f⟩ = E) :
    Calls Try.prog 16 #[.agg #[.int .i64 a, .int .i64 b, s], .agg #[.bool al, .int .i64 x, .int .i64 y, s'], .int .i64 st] w fun e w' => ∃ ad cp, e = .returned (.tuple #[.agg #[.int .i64 E.2.a, .int .i64 E.2.b, .slice ad E.2.n cp], errN E.1]) ∧ IntsIn w' (.slice ad E.2.n cp) E.2.n E.2.f ∧ Below w.heap.size w w' ∧ ∀ k, (Value.slice ad E.2.n cp).ownBlock = some k → w.heap.size ≤ k := by
  obtain ⟨W1, hW1⟩ : ∃ W1, W1 = w.alloc (.cells #[.int .i64 a, .int .i64 b, s] 25) := ⟨_, rfl⟩
  obtain ⟨W2, hW2⟩ : ∃ W2, W2 = W1.alloc (.cells #[.bool al, .int .i64 x, .int .i64 y, s'] 36) := ⟨_, rfl⟩
  obtain ⟨W3, hW3⟩ : ∃ W3, W3 = W2.alloc (.cells #[.int .i64 0, .int .i64 0, .slice none 0 0] 25) := ⟨_, rfl⟩
  have b1 : Below w.heap.size w W1 := hW1 ▸ (Below.refl _ _).alloc (Nat.le_refl _) _
  have b12 : Below W1.heap.size W1 W2 := hW2 ▸ (Below.refl _ _).alloc (Nat.le_refl _) _
  have b23 : Below W2.heap.size W2 W3 := hW3 ▸ (Below.refl _ _).alloc (Nat.le_refl _) _
  have b3 := below_two (below_two b1 b12) b23
  have z1 : W1.heap.size = w.heap.size + 1 := by rw [hW1]; simp
  have z2 : W2.heap.size = w.heap.size + 1 + 1 := by rw [hW2]; simp [z1]
  have z3 : W3.heap.size = w.heap.size + 1 + 1 + 1 := by rw [hW3]; simp [z2]
  have p1 : PicIn W3 w.heap.size a b s := PicIn.below (hW1 ▸ picIn_new w a b s) (below_two b12 b23)
  have p2 : CodIn W3 (w.heap.size + 1) al x y s' := by
    have := codIn_new W1 al x y s'
    rw [← hW2, z1] at this
    exact this.below b23
  have p3 : PicIn W3 (w.heap.size + 1 + 1) 0 0 (.slice none 0 0) := by
    have := picIn_new W2 0 0 (.slice none 0 0)
    rw [← hW3, z2] at this
    exact this
  have B3 := hide b3
  have P3 := hide p3
  have Z3 := hide z3
  have HI := hide (h.below b3)
  have HJ := hide (h'.below b3)
  obtain ⟨ads, caps, rfl⟩ := slice_shape h
  obtain ⟨ads', caps', rfl⟩ := slice_shape h'
  obtain ⟨⟨c0, _⟩, ⟨c1, _⟩, c2, _⟩ := p1
  have P2 := hide p2
  obtain ⟨d0, d1, d2, d3, _, _, _, _⟩ := p2
  clear h h' b1 b12 b23 b3 z1 z2 z3 p3
  -- what is left, once the picture told lies there
  have HR : Hid (∀ (w2 : World) (X Y : Int) (M : Nat) (ad : Option Addr) (cp : Nat) (G : Nat → Int), IntsIn w2 (.slice ad M cp) M G → Below W3.heap.size W3 w2 → (∀ k, (Value.slice ad M cp).ownBlock = some k → W3.heap.size ≤ k) →
      PicIn (((w2.setCell ⟨w.heap.size + 1 + 1, 0, none⟩ (.int .i64 X)).setCell ⟨w.heap.size + 1 + 1, 1, none⟩ (.int .i64 Y)).setCell ⟨w.heap.size + 1 + 1, 2, none⟩ (.slice ad M cp)) (w.heap.size + 1 + 1) X Y (.slice ad M cp)
      ∧ IntsIn (((w2.setCell ⟨w.heap.size + 1 + 1, 0, none⟩ (.int .i64 X)).setCell ⟨w.heap.size + 1 + 1, 1, none⟩ (.int .i64 Y)).setCell ⟨w.heap.size + 1 + 1, 2, none⟩ (.slice ad M cp)) (.slice ad M cp) M G
      ∧ Below w.heap.size w (((w2.setCell ⟨w.heap.size + 1 + 1, 0, none⟩ (.int .i64 X)).setCell ⟨w.heap.size + 1 + 1, 1, none⟩ (.int .i64 Y)).setCell ⟨w.heap.size + 1 + 1, 2, none⟩ (.slice ad M cp))
      ∧ (∀ k, (Value.slice ad M cp).ownBlock = some k → w.heap.size ≤ k)) := fun w2 X Y M ad cp G hi hb hn => by
    have hz := Z3.out
    have hne : ∀ k, (Value.slice ad M cp).ownBlock = some k → k ≠ w.heap.size + 1 + 1 := fun k e => by have := hn k e; omega
    exact ⟨(P3.out.below hb).put X Y _, ints_set (o := 2) (ints_set (o := 1) (ints_set (o := 0) hi hne (.int .i64 X)) hne (.int .i64 Y)) hne (.slice ad M cp),
      ((((below_two B3.out hb).setCell (by show w.heap.size ≤ w.heap.size + 1 + 1; omega) _).setCell (by show w.heap.size ≤ w.heap.size + 1 + 1; omega) _).setCell (by show w.heap.size ≤ w.heap.size + 1 + 1; omega) _),
      fun k e => by have := hn k e; omega⟩
  cases al with
  | false =>
    have HE : Hid (E = (mdeF a b n f false x y n' f' st, ⟨mdX a b n f false x y n' f' st, mdY a b n f false x y n' f' st, mdM a b n f false x y n' f' st, mdG a b f x y f' st⟩)) := by
      unfold Hid; rw [← hE]; rfl
    have K := hide (mdec_all a b false x y st HI.out HJ.out)
    clear hE HI HJ
    generalize mdeF a b n f false x y n' f' st = df at *
    generalize mdX a b n f false x y n' f' st = dx at *
    generalize mdY a b n f false x y n' f' st = dy at *
    generalize mdM a b n f false x y n' f' st = dm at *
    generalize mdG a b f x y f' st = dg at *
    subst hW3
    subst hW2
    subst hW1
    go_enter Try.func16, Try.ntmps16
    go_wp2_with fail
    refine (K.out).mono ?_
    rintro e w2 ⟨ad, cp, rfl, hi, hb, hn⟩
    obtain ⟨⟨k0, g0⟩, ⟨k1, g1⟩, k2, g2⟩ := P3.out.below hb
    have HX := hide (HR.out w2 dx dy dm ad cp dg hi hb hn)
    clear hi hb hn K
    go_wp2
    obtain ⟨hp9, hi9, hb9, hn9⟩ := HX.out
    obtain ⟨⟨q0, _⟩, ⟨q1, _⟩, q2, _⟩ := hp9
    refine bodyPost_ret (v := .tuple #[.agg #[.int .i64 dx, .int .i64 dy, .slice ad dm cp], errN df]) (by simp [results, Try.results16, go_sem, q0, q1, q2]) rfl ?_
    rw [HE.out]
    exact ⟨ad, cp, rfl, hi9, hb9, hn9⟩
  | true =>
    by_cases hx : x = 0
    · by_cases hy : y = 0
      · subst hx hy
        have HE : Hid (E = (decF a b st n' f', ⟨deX a b st n' f', deY a b st n' f', deM a b st n' f', deG a st f'⟩)) := by
          unfold Hid; rw [← hE]; rfl
        have K := hide (adec_all a b st HJ.out)
        clear hE HI HJ
        generalize decF a b st n' f' = df at *
        generalize deX a b st n' f' = dx at *
        generalize deY a b st n' f' = dy at *
        generalize deM a b st n' f' = dm at *
        generalize deG a st f' = dg at *
        have q0 : ((0 : Int) == 0) = true := rfl
        subst hW3
        subst hW2
        subst hW1
        go_enter Try.func16, Try.ntmps16
        go_wp2_with fail
        refine (K.out).mono ?_
        rintro e w2 ⟨ad, cp, rfl, hi, hb, hn⟩
        obtain ⟨⟨k0, g0⟩, ⟨k1, g1⟩, k2, g2⟩ := P3.out.below hb
        have HX := hide (HR.out w2 dx dy dm ad cp dg hi hb hn)
        clear hi hb hn K
        go_wp2
        obtain ⟨hp9, hi9, hb9, hn9⟩ := HX.out
        obtain ⟨⟨q0, _⟩, ⟨q1, _⟩, q2, _⟩ := hp9
        refine bodyPost_ret (v := .tuple #[.agg #[.int .i64 dx, .int .i64 dy, .slice ad dm cp], errN df]) (by simp [results, Try.results16, go_sem, q0, q1, q2]) rfl ?_
        rw [HE.out]
        exact ⟨ad, cp, rfl, hi9, hb9, hn9⟩
      · subst hx
        have HE : Hid (E = (3, Pc.none)) := by
          unfold Hid; rw [← hE]; unfold stpK stpC
          rw [if_pos rfl, if_pos (Or.inr hy)]
        have q0 : (y == 0) = false := by rw [beq_eq_false_iff_ne]; exact hy
        have q1 : (y != 0) = true := by simp [bne, q0]
        obtain ⟨⟨k0, g0⟩, ⟨k1, g1⟩, k2, g2⟩ := P3.out
        clear hE HI HJ hy
        subst hW3
        subst hW2
        subst hW1
        go_enter Try.func16, Try.ntmps16
        go_wp2
        refine bodyPost_ret (v := .tuple #[.agg #[.int .i64 0, .int .i64 0, .slice none 0 0], errN 3]) (by first | (simp [results, Try.results16, go_sem]; done) | (simp [results, Try.results16, go_sem]; rfl)) rfl ?_
        rw [HE.out]
        exact ⟨none, 0, rfl, Or.inl ⟨rfl, _, _, rfl⟩, B3.out, fun k e => by cases e⟩
    · have HE : Hid (E = (3, Pc.none)) := by
        unfold Hid; rw [← hE]; unfold stpK stpC
        rw [if_pos rfl, if_pos (Or.inl hx)]
      have q0 : (x == 0) = false := by rw [beq_eq_false_iff_ne]; exact hx
      have q1 : (x != 0) = true := by simp [bne, q0]
      obtain ⟨⟨k0, g0⟩, ⟨k1, g1⟩, k2, g2⟩ := P3.out
      clear hE HI HJ hx
      subst hW3
      subst hW2
      subst hW1
      go_enter Try.func16, Try.ntmps16
      go_wp2
      refine bodyPost_ret (v := .tuple #[.agg #[.int .i64 0, .int .i64 0, .slice none 0 0], errN 3]) (by first | (simp [results, Try.results16, go_sem]; done) | (simp [results, Try.results16, go_sem]; rfl)) rfl ?_
      rw [HE.out]
      exact ⟨none, 0, rfl, Or.inl ⟨rfl, _, _, rfl⟩, B3.out, fun k e => by cases e⟩
end Go.Proofs.Ytfgcngjggdjcjaa

namespace Go.Proofs.Ytfgcngjggdjcjaa
open Go.RowKit
set_option linter.unusedVariables false
set_option maxRecDepth 100000

theorem FilOk.like {N : Nat} {P : Nat → Pc} {ev st : Int} {A B : Nat} (o : FilOk N P ev st A B) {j : Nat} (hj : j < N) : PicOk (P 0).a (P 0).b (P 0).n (P j).f A B ∧ (P j).a = (P 0).a ∧ (P j).b = (P 0).b ∧ (P j).n = (P 0).n := by
  have o0 := o.pic 0 (by have := o.one; omega)
  have oj := o.pic j hj
  have ea : (P j).a = (P 0).a := oj.wide.trans o0.wide.symm
  have eb : (P j).b = (P 0).b := oj.high.trans o0.high.symm
  have en : (P j).n = (P 0).n := oj.many.trans o0.many.symm
  rw [ea, eb, en] at oj
  exact ⟨oj, ea, eb, en⟩
theorem stpK_fil {N : Nat} {P : Nat → Pc} {E : Nat} {st : Int} {A B : Nat} (o : FilOk N P E st A B) {j : Nat} (hj : j < N) {sn : Nat} {f0 : Nat → Int} (ha : 0 < j → sn = (P 0).n ∧ f0 = filT A B (P 0).n E st (fun i => (P i).f) (j - 1)) :
    stpK st (filC A B (P 0).n E st (fun i => (P i).f) j) ⟨(P 0).a, (P 0).b, sn, f0⟩ = (0, ⟨(P 0).a, (P 0).b, (P 0).n, filT A B (P 0).n E st (fun i => (P i).f) j⟩) := by
  obtain ⟨oj, _⟩ := o.like hj
  unfold stpK
  by_cases c : j % E = 0
  · rw [filC_al c, filT_al c]
    exact stpC_al oj o.s1 o.s2 (g := fun _ => 0)
  · obtain ⟨p, rfl⟩ : ∃ p, j = p + 1 := ⟨j - 1, by
      have : j ≠ 0 := fun e => c (by rw [e]; exact Nat.zero_mod _)
      omega⟩
    obtain ⟨rfl, rfl⟩ := ha (by omega)
    rw [Nat.add_sub_cancel, filC_mv c, filT_mv c]
    exact stpC_mv (filT_ok (o.like (j := 0) (by omega)).1 _ _ _ p) oj o.s1 o.s2

theorem fcode_fil {N : Nat} {P : Nat → Pc} {E : Nat} {st : Int} {A B : Nat} (o : FilOk N P E st A B) {j : Nat} (hj : j < N) {W : World} {s : Value} {sd : Option Addr} {sn sc : Nat} {f0 : Nat → Int} (h : IntsIn W s (P j).n (P j).f) (hi : IntsIn W (.slice sd sn sc) sn f0) (ha : 0 < j → sn = (P 0).n ∧ f0 = filT A B (P 0).n E st (fun i => (P i).f) (j - 1)) :
    Calls Try.prog 15 #[.agg #[.int .i64 (P 0).a, .int .i64 (P 0).b, .slice sd sn sc], .agg #[.int .i64 (P j).a, .int .i64 (P j).b, s], .bool (filC A B (P 0).n E st (fun i => (P i).f) j).al, .int .i64 st] W fun e w' => ∃ ad cp, e = .returned (.tuple #[.agg #[.bool (filC A B (P 0).n E st (fun i => (P i).f) j).al, .int .i64 (filC A B (P 0).n E st (fun i => (P i).f) j).x, .int .i64 (filC A B (P 0).n E st (fun i => (P i).f) j).y, .slice ad (P 0).n cp], .nilIface]) ∧ IntsIn w' (.slice ad (P 0).n cp) (P 0).n (filC A B (P 0).n E st (fun i => (P i).f) j).f ∧ Below W.heap.size W w' ∧ ∀ k, (Value.slice ad (P 0).n cp).ownBlock = some k → W.heap.size ≤ k := by
  obtain ⟨oj, ea, eb, en⟩ := o.like hj
  rw [en] at h
  rw [ea, eb]
  by_cases c : j % E = 0
  · rw [filC_al c]
    exact fcode_al (P 0).a (P 0).b sd sn sc st h oj o.s1 o.s2
  · obtain ⟨p, rfl⟩ : ∃ p, j = p + 1 := ⟨j - 1, by
      have : j ≠ 0 := fun e => c (by rw [e]; exact Nat.zero_mod _)
      omega⟩
    obtain ⟨rfl, rfl⟩ := ha (by omega)
    rw [Nat.add_sub_cancel] at hi
    rw [filC_mv c]
    exact fcode_mv st hi h (filT_ok (o.like (j := 0) (by omega)).1 _ _ _ p) oj o.s1 o.s2
theorem ftell_fil {N : Nat} {P : Nat → Pc} {E : Nat} {st : Int} {A B : Nat} (o : FilOk N P E st A B) {j : Nat} (hj : j < N) {W : World} {s : Value} {sd : Option Addr} {sn sc : Nat} {f0 : Nat → Int} (h : IntsIn W s (P 0).n (filC A B (P 0).n E st (fun i => (P i).f) j).f) (hi : IntsIn W (.slice sd sn sc) sn f0) (ha : 0 < j → sn = (P 0).n ∧ f0 = filT A B (P 0).n E st (fun i => (P i).f) (j - 1)) :
    Calls Try.prog 16 #[.agg #[.int .i64 (P 0).a, .int .i64 (P 0).b, .slice sd sn sc], .agg #[.bool (filC A B (P 0).n E st (fun i => (P i).f) j).al, .int .i64 (filC A B (P 0).n E st (fun i => (P i).f) j).x, .int .i64 (filC A B (P 0).n E st (fun i => (P i).f) j).y, s], .int .i64 st] W fun e w' => ∃ ad cp, e = .returned (.tuple #[.agg #[.int .i64 (P 0).a, .int .i64 (P 0).b, .slice ad (P 0).n cp], .nilIface]) ∧ IntsIn w' (.slice ad (P 0).n cp) (P 0).n (filT A B (P 0).n E st (fun i => (P i).f) j) ∧ Below W.heap.size W w' ∧ ∀ k, (Value.slice ad (P 0).n cp).ownBlock = some k → W.heap.size ≤ k := by
  have hE := stpK_fil o hj ha
  have hn : (filC A B (P 0).n E st (fun i => (P i).f) j).n = (P 0).n := filC_n
  have h' : IntsIn W s (filC A B (P 0).n E st (fun i => (P i).f) j).n (filC A B (P 0).n E st (fun i => (P i).f) j).f := by rw [hn]; exact h
  exact ftell_any (E := (0, ⟨(P 0).a, (P 0).b, (P 0).n, filT A B (P 0).n E st (fun i => (P i).f) j⟩)) (P 0).a (P 0).b _ _ _ st hi h' hE
end Go.Proofs.Ytfgcngjggdjcjaa
