/-
  MovedNear: what is coded behind another picture is told no further than half a step, and what was only moved by one is told by its move alone: for every input. Our own walk of the law.
-/
import Derived.Test.YtcicoblejaippaaMvY
import Derived.Test.YtcicoblejaippaaPicTlB
import Derived.Test.YtcicoblejaippaaPicQ
import Derived.Test.YtcicoblejaippaaTop
import Derived.Deep.DeepCutAuto
namespace Go.Proofs.Ytcicoblejaippaa
open Go.ChangeShapes Go.WideShapes Go.ChangeAt Go.RowKit Go.Maps
set_option linter.unusedVariables false
set_option maxRecDepth 100000

def oneF (i : Nat) : Int := if i = 0 then 1 else 9
theorem one_ok : PicOk 2 1 2 oneF 2 1 := ⟨rfl, rfl, by decide, by decide, by decide, by decide, rfl, fun i _ => by unfold oneF; split <;> omega⟩
theorem nine_ok : PicOk 2 1 2 (fun _ => 9) 2 1 := ⟨rfl, rfl, by decide, by decide, by decide, by decide, rfl, fun i _ => by omega⟩
theorem one_best : bsX 2 1 oneF (fun _ => 9) 2 = -1 ∧ bsY 2 1 oneF (fun _ => 9) 2 = -1 := by decide +kernel
theorem ints_two {w : World} (x y : Int) : IntsIn (w.alloc (.cells #[.int .i64 x, .int .i64 y] 3)) (.slice (some ⟨w.heap.size, 0, none⟩) 2 2) 2 (fun i => if i = 0 then x else y) := by
  refine Or.inr ⟨by decide, _, _, _, rfl, fun i hi => ?_⟩
  rcases i with _ | _ | i
  · simp
  · simp
  · omega

/-- The blocks of the law's arguments, and one that holds a Coded. -/
structure Nr (w0 w : World) (a b : Int) (s : Value) (a' b' : Int) (s' : Value) (mx my : Int) (cb : Nat) (al : Bool) (X Y : Int) (u : Value) : Prop where
  t : Tl w0 w a b s a' b' s' mx my
  c : CodIn w cb al X Y u
  hc : w0.heap.size + 1 + 1 < cb
theorem Nr.below {w0 w w' : World} {a b : Int} {s : Value} {a' b' : Int} {s' : Value} {mx my : Int} {cb : Nat} {al : Bool} {X Y : Int} {u : Value} (h : Nr w0 w a b s a' b' s' mx my cb al X Y u) (hb : Below w.heap.size w w') : Nr w0 w' a b s a' b' s' mx my cb al X Y u :=
  ⟨h.t.below hb, h.c.below hb, h.hc⟩

theorem Nr.put {w0 w : World} {a b : Int} {s : Value} {a' b' : Int} {s' : Value} {mx my : Int} {cb : Nat} {al : Bool} {X Y : Int} {u : Value} (h : Nr w0 w a b s a' b' s' mx my cb al X Y u) (al' : Bool) (X' Y' : Int) (u' : Value) :
    Nr w0 ((((w.setCell ⟨cb, 0, none⟩ (.bool al')).setCell ⟨cb, 1, none⟩ (.int .i64 X')).setCell ⟨cb, 2, none⟩ (.int .i64 Y')).setCell ⟨cb, 3, none⟩ u') a b s a' b' s' mx my cb al' X' Y' u' :=
  ⟨(((h.t.set h.hc _ _).set h.hc _ _).set h.hc _ _).set h.hc _ _, h.c.put _ _ _ _, h.hc⟩

set_option maxHeartbeats 8000000 in
theorem mnear_walk {w : World} (a b : Int) (s : Value) (n : Nat) (f : Nat → Int) (hs : IntsIn w s n f) (a' b' : Int) (s' : Value) (n' : Nat) (f' : Nat → Int) (hs' : IntsIn w s' n' f') (st mx my : Int) :
    Calls Try.prog 3 #[.agg #[.int .i64 a, .int .i64 b, s], .agg #[.int .i64 a', .int .i64 b', s'], .int .i64 st, .agg #[.int .i64 mx, .int .i64 my]] w fun e w' => e = .returned (.bool true) ∧ Below w.heap.size w w' := by
  obtain ⟨W3, hW3⟩ : ∃ W3, W3 = ((w.alloc (.cells #[.int .i64 a, .int .i64 b, s] 24)).alloc (.cells #[.int .i64 a', .int .i64 b', s'] 24)).alloc (.cells #[.int .i64 mx, .int .i64 my] 26) := ⟨_, rfl⟩
  have t3 : Tl w W3 a b s a' b' s' mx my := hW3 ▸ tl_new w a b s a' b' s' mx my
  have z3 : W3.heap.size = w.heap.size + 1 + 1 + 1 := by rw [hW3]; simp
  obtain ⟨W4, hW4⟩ : ∃ W4, W4 = W3.alloc (.cells #[.int .i64 1, .int .i64 9] 3) := ⟨_, rfl⟩
  have b34 : Below W3.heap.size W3 W4 := hW4 ▸ (Below.refl _ _).alloc (Nat.le_refl _) _
  have z4 : W4.heap.size = w.heap.size + 1 + 1 + 1 + 1 := by rw [hW4]; simp [z3]
  obtain ⟨W5, hW5⟩ : ∃ W5, W5 = W4.alloc (.cells #[.int .i64 2, .int .i64 1, .slice (some ⟨w.heap.size + 1 + 1 + 1, 0, none⟩) 2 2] 24) := ⟨_, rfl⟩
  have b45 : Below W4.heap.size W4 W5 := hW5 ▸ (Below.refl _ _).alloc (Nat.le_refl _) _
  have z5 : W5.heap.size = w.heap.size + 1 + 1 + 1 + 1 + 1 := by rw [hW5]; simp [z4]
  obtain ⟨W6, hW6⟩ : ∃ W6, W6 = W5.alloc (.cells #[.int .i64 9, .int .i64 9] 3) := ⟨_, rfl⟩
  have b56 : Below W5.heap.size W5 W6 := hW6 ▸ (Below.refl _ _).alloc (Nat.le_refl _) _
  have i4 : IntsIn W4 (.slice (some ⟨w.heap.size + 1 + 1 + 1, 0, none⟩) 2 2) 2 oneF := by
    have := ints_two (w := W3) 1 9
    rw [← hW4, z3] at this
    exact this
  have i6 : IntsIn W6 (.slice (some ⟨w.heap.size + 1 + 1 + 1 + 1 + 1, 0, none⟩) 2 2) 2 (fun _ => 9) := by
    have := ints_two (w := W5) 9 9
    rw [← hW6, z5] at this
    exact this.congr fun i _ => by split <;> rfl
  have p5 : PicIn W6 (w.heap.size + 1 + 1 + 1 + 1) 2 1 (.slice (some ⟨w.heap.size + 1 + 1 + 1, 0, none⟩) 2 2) := by
    have := picIn_new W4 2 1 (.slice (some ⟨w.heap.size + 1 + 1 + 1, 0, none⟩) 2 2)
    rw [← hW5, z4] at this
    exact this.below b56
  have K0 := hide (mbest_ok ((i4.below b45).below b56) i6 one_ok nine_ok)
  rw [one_best.1, one_best.2] at K0
  have T6 := hide (((t3.below b34).below b45).below b56)
  have HS := hide hs
  have HS' := hide hs'
  have HZ6 : Hid (w.heap.size + 1 + 1 < W6.heap.size) := by have := b56.size; unfold Hid; omega
  obtain ⟨⟨k0, _⟩, ⟨k1, _⟩, k2, _⟩ := p5
  have KE := hide (fun (wx : World) (hb : Below w.heap.size w wx) => menc_any a b a' b' st (hs.below hb) (hs'.below hb))
  have HEZ := hide (menF_zero (a := a) (b := b) (n := n) (f := f) (a' := a') (b' := b') (n' := n') (f' := f') (s := st)).1
  have HX : Hid (meX a b n f a' b' n' f' st = if menF a b n f a' b' n' f' st = 0 then bsX a.toNat b.toNat f f' n else 0) := rfl
  have HY : Hid (meY a b n f a' b' n' f' st = if menF a b n f a' b' n' f' st = 0 then bsY a.toNat b.toNat f f' n else 0) := rfl
  have HMM : Hid (meM a b n f a' b' n' f' st = if menF a b n f a' b' n' f' st = 0 then n else 0) := rfl
  have HG : Hid (meG a b n f f' st = mrF a.toNat b.toNat f f' n st) := rfl
  obtain ⟨ads, caps, rfl⟩ := slice_shape hs
  obtain ⟨ads', caps', rfl⟩ := slice_shape hs'
  subst hW6
  subst hW5
  subst hW4
  subst hW3
  clear hs hs' t3 b34 b45 b56 i4 i6 z3 z4 z5
  generalize menF a b n f a' b' n' f' st = E at *
  generalize meX a b n f a' b' n' f' st = X at *
  generalize meY a b n f a' b' n' f' st = Y at *
  generalize meM a b n f a' b' n' f' st = M at *
  generalize meG a b n f f' st = G at *
  go_enter Try.func3, Try.ntmps3
  go_wp2_with fail
  refine (K0.out).mono ?_
  rintro e w7 ⟨rfl, hb7⟩
  obtain ⟨W8, hW8⟩ : ∃ W8, W8 = w7.alloc (.cells #[.int .i64 (-1), .int .i64 (-1)] 26) := ⟨_, rfl⟩
  have b8 : Below w7.heap.size w7 W8 := hW8 ▸ (Below.refl _ _).alloc (Nat.le_refl _) _
  have T8 := hide ((T6.out.below hb7).below b8)
  have HZ8 : Hid (w.heap.size + 1 + 1 < W8.heap.size) := by have := hb7.size; have := b8.size; have := HZ6.out; unfold Hid; omega
  have M8 : MoveIn W8 w7.heap.size (-1) (-1) := hW8 ▸ moveIn_new w7 _ _
  obtain ⟨l0, l1⟩ := M8
  have K8 := hide (KE.out W8 T8.out.b)
  clear k0 k1 k2
  obtain ⟨c0, c1, c2, d0, d1, d2, m0, m1⟩ := T8.out.cells
  subst hW8
  clear hb7 b8 T6 K0 HZ6 KE
  go_wp2_with fail
  refine (K8.out).mono ?_
  rintro e w9 ⟨u, rfl, hu, hb9⟩
  obtain ⟨adu, capu, rfl⟩ := slice_shape hu
  obtain ⟨W10, hW10⟩ : ∃ W10, W10 = w9.alloc (.cells #[.bool false, .int .i64 X, .int .i64 Y, .slice adu M capu] 32) := ⟨_, rfl⟩
  have b10 : Below w9.heap.size w9 W10 := hW10 ▸ (Below.refl _ _).alloc (Nat.le_refl _) _
  have N10 : Hid (Nr w W10 a b (.slice ads n caps) a' b' (.slice ads' n' caps') mx my w9.heap.size false X Y (.slice adu M capu)) := by
    refine ⟨(T8.out.below hb9).below b10, hW10 ▸ codIn_new w9 _ _ _ _, ?_⟩
    have := hb9.size
    have := HZ8.out
    omega
  have U10 := hide (hu.below b10)
  subst hW10
  clear hu hb9 b10 T8 K8 HZ8 c0 c1 c2 d0 d1 d2 m0 m1 l0 l1
  go_upto_region 6 with fail
  go_cut [13, 51] (fun _ t wx => ∃ q : Bool, t = .bool q ∧ (q = true ↔ E = 0) ∧ Hid (Nr w wx a b (.slice ads n caps) a' b' (.slice ads' n' caps') mx my w9.heap.size false X Y (.slice adu M capu)) ∧ Hid (IntsIn wx (.slice adu M capu) M G))
  case first =>
    by_cases h0 : E = 0
    · have H0 := hide h0
      rw [h0, errN_zero]
      clear h0
      go_wp2
      go_meet
      exact ⟨true, rfl, ⟨fun _ => H0.out, fun _ => rfl⟩, N10, U10⟩
    · have H0 := hide h0
      rw [errN_pos h0]
      clear h0
      go_wp2
      go_meet
      exact ⟨false, rfl, ⟨fun h => Bool.noConfusion h, fun h => absurd h H0.out⟩, N10, U10⟩
  case rest =>
  obtain ⟨q, rfl, hq, N11, U11⟩ := hcut
  have HQ := hide hq
  clear hq N10 U10
  go_upto_if 51 with fail
  go_cut [13] (fun _ wx => Hid (Nr w wx a b (.slice ads n caps) a' b' (.slice ads' n' caps') mx my w9.heap.size false X Y (.slice adu M capu)))
  case first =>
    cases q with
    | true =>
      have h0 := HQ.out.1 rfl
      obtain ⟨h2, s1, s2⟩ := HEZ.out h0
      obtain ⟨rfl, A, B, o, o'⟩ := two_ok h2
      have ea : a.toNat = A := by rw [o.wide]; rfl
      have eb : b.toNat = B := by rw [o.high]; rfl
      have hX : X = bsX A B f f' n := by rw [HX.out, if_pos h0, ea, eb]
      have hY : Y = bsY A B f f' n := by rw [HY.out, if_pos h0, ea, eb]
      have hM : M = n := by rw [HMM.out, if_pos h0]
      have hG : G = mrF A B f f' n st := by rw [HG.out, ea, eb]
      have hbs := bs_in A B f f' n
      have K1 := hide (mdec_ok (bsX A B f f' n) (bsY A B f f' n) st (HS.out.below N11.out.t.b) (hM ▸ hG ▸ U11.out) o s1 s2 hbs (fun i hi => mrF_in s1 (bgN_in o f' i hi) (o'.pix i hi)))
      rw [show shiftN A B (bsX A B f f' n) (bsY A B f f' n) f = bgN A B f f' n from rfl] at K1
      have hmost : mostN f' (toldF (bgN A B f f' n) (mrF A B f f' n st) st) n ≤ (st / 2).toNat := mostN_le fun i hi => by
        have := toldF_near (A := A) (B := B) (f := f) (n := n) s1 (o'.pix i hi)
        omega
      have ot : PicOk a b n (toldF (bgN A B f f' n) (mrF A B f f' n st) st) A B := ⟨o.wide, o.high, o.w1, o.w6, o.h1, o.h6, o.many, fun i _ => toldF_in _ _ _ i⟩
      have K2 := hide (fun (wx : World) (v : Value) (h : IntsIn wx (.slice ads' n caps') n f') (hv : IntsIn wx v n (toldF (bgN A B f f' n) (mrF A B f f' n st) st)) => punlike_ok h hv o' ot)
      rw [← hX, ← hY] at K1
      subst hM
      generalize mostN f' (toldF (bgN A B f f' M) (mrF A B f f' M st) st) M = d at *
      generalize toldF (bgN A B f f' M) (mrF A B f f' M st) st = T at *
      have g1 : st.tdiv 2 = st / 2 := Int.tdiv_eq_ediv_of_nonneg (by omega)
      have b1 : (d : Int) ≤ st / 2 := by omega
      have b2 : 0 ≤ st / 2 := by omega
      have b3 : st / 2 ≤ 32 := by omega
      generalize st / 2 = t at *
      obtain ⟨c0, c1, c2, d0, d1, d2, m0, m1⟩ := N11.out.t.cells
      obtain ⟨e0, e1, e2, e3, _, _, _, _⟩ := N11.out.c
      clear h0 h2 o o' ot hmost hX hY hG hbs ea eb HQ
      go_wp2_with fail
      refine (K1.out).mono ?_
      rintro e w12 ⟨v, rfl, hv, hb12⟩
      obtain ⟨adv, capv, rfl⟩ := slice_shape hv
      obtain ⟨W13, hW13⟩ : ∃ W13, W13 = w12.alloc (.cells #[.int .i64 a, .int .i64 b, .slice adv M capv] 24) := ⟨_, rfl⟩
      have b13 : Below w12.heap.size w12 W13 := hW13 ▸ (Below.refl _ _).alloc (Nat.le_refl _) _
      have N13 := hide ((N11.out.below hb12).below b13)
      have Q13 : Hid (PicIn W13 w12.heap.size a b (.slice adv M capv)) := hide (hW13 ▸ picIn_new w12 _ _ _)
      have K3 := hide (K2.out W13 _ (HS'.out.below N13.out.t.b) (hv.below b13))
      subst hW13
      clear hv hb12 b13 K1 K2 c0 c1 c2 d0 d1 d2 m0 m1 e0 e1 e2 e3
      obtain ⟨c0, c1, c2, d0, d1, d2, m0, m1⟩ := N13.out.t.cells
      obtain ⟨⟨k0, _⟩, ⟨k1, _⟩, k2, _⟩ := Q13.out
      go_wp2_with fail
      refine (K3.out).mono ?_
      rintro e w14 ⟨rfl, hb14⟩
      have N14 := hide (N13.out.below hb14)
      obtain ⟨e0, e1, e2, e3, _, _, _, _⟩ := N14.out.c
      clear hb14 K3 N13 Q13 c0 c1 c2 d0 d1 d2 m0 m1 k0 k1 k2
      go_wp2
      go_meet
      exact N14
    | false =>
      clear HQ
      go_wp2
      go_meet
      exact N11
  case rest =>
  have N12 := hcut
  clear hcut N11 U11 HQ HEZ HX HY HMM HG
  obtain ⟨c0, c1, c2, d0, d1, d2, m0, m1⟩ := N12.out.t.cells
  go_upto_region 11 with fail
  go_cut [106] (fun t wx => ∃ q : Bool, t = .bool q ∧ Hid (q = false → (-1 ≤ mx ∧ mx ≤ 1 ∧ -1 ≤ my ∧ my ≤ 1) ∧ 1 ≤ st ∧ st ≤ 64) ∧ Hid (Nr w wx a b (.slice ads n caps) a' b' (.slice ads' n' caps') mx my w9.heap.size false X Y (.slice adu M capu)))
  case first =>
    have hw : mx < -1 ∨ (-1 ≤ mx ∧ 1 < mx) ∨ (-1 ≤ mx ∧ mx ≤ 1 ∧ my < -1) ∨ (-1 ≤ mx ∧ mx ≤ 1 ∧ -1 ≤ my ∧ 1 < my) ∨ (-1 ≤ mx ∧ mx ≤ 1 ∧ -1 ≤ my ∧ my ≤ 1 ∧ st < 1) ∨ (-1 ≤ mx ∧ mx ≤ 1 ∧ -1 ≤ my ∧ my ≤ 1 ∧ 1 ≤ st ∧ 64 < st) ∨ (-1 ≤ mx ∧ mx ≤ 1 ∧ -1 ≤ my ∧ my ≤ 1 ∧ 1 ≤ st ∧ st ≤ 64) := by omega
    rcases hw with h | ⟨h1, h⟩ | ⟨h1, h2, h⟩ | ⟨h1, h2, h3, h⟩ | ⟨h1, h2, h3, h4, h⟩ | ⟨h1, h2, h3, h4, h5, h⟩ | ⟨h1, h2, h3, h4, h5, h⟩
    iterate 6
      · go_wp2
        go_meet
        exact ⟨true, by first | rfl | (simp; done) | (simp; omega), hide (fun hh => Bool.noConfusion hh), N12⟩
    · go_wp2
      go_meet
      exact ⟨false, by first | rfl | (simp; done) | (simp; omega), hide (fun _ => ⟨⟨h1, h2, h3, h4⟩, h5, h⟩), N12⟩
  case rest =>
  obtain ⟨q, rfl, HQ, N13⟩ := hcut
  clear N12 c0 c1 c2 d0 d1 d2 m0 m1
  cases q with
  | true =>
    have HB := hide N13.out.t.b
    go_wp2
    go_ret
    exact ⟨rfl, HB.out⟩
  | false =>
    have hq := HQ.out rfl
    have HM := hide hq.1
    have HST := hide hq.2
    clear hq HQ
    obtain ⟨c0, c1, c2, d0, d1, d2, m0, m1⟩ := N13.out.t.cells
    have hfar : farF mx my = 0 := farF_zero.2 (by have := HM.out; omega)
    by_cases hp : picF a b n f = 0
    · obtain ⟨A, B, o⟩ := picF_zero.1 hp
      have K1 := hide (pshift_own mx my (HS.out.below N13.out.t.b) o hfar)
      have hsame := hide (bg_same (A := A) (B := B) (f := f) (g := shiftN A B mx my f) (n := n) HM.out (fun _ _ => rfl))
      have hl := o.le
      have h0 := o.pos
      have O := hide o
      have K2 := hide (fun (wx : World) (v : Value) (h : IntsIn wx (.slice ads n caps) n f) (hv : IntsIn wx v n (shiftN A B mx my f)) => menc_walk st h hv o (o.shift mx my))
      have hbs := bs_in A B f (shiftN A B mx my f) n
      have HRZ : Hid (∀ i, i < n → mrF A B f (shiftN A B mx my f) n st i = 0) := fun i hi => mrF_same HST.out.1 (hsame.out i hi)
      have HSP := hide (o.shift mx my).pix
      have K3 := hide (fun (wx : World) (v : Value) (h : IntsIn wx (.slice ads n caps) n f) (hv : IntsIn wx v n (mrF A B f (shiftN A B mx my f) n st)) => mdec_ok (bsX A B f (shiftN A B mx my f) n) (bsY A B f (shiftN A B mx my f) n) st h hv o HST.out.1 HST.out.2 hbs (fun i hi => by rw [HRZ.out i hi]; omega))
      have HTS : Hid (∀ i, i < n → toldF (shiftN A B (bsX A B f (shiftN A B mx my f) n) (bsY A B f (shiftN A B mx my f) n) f) (mrF A B f (shiftN A B mx my f) n st) st i = shiftN A B mx my f i) := by
        intro i hi
        have hb := hsame.out i hi
        rw [← hb]
        exact toldF_same (HRZ.out i hi) (by have e : shiftN A B (bsX A B f (shiftN A B mx my f) n) (bsY A B f (shiftN A B mx my f) n) f i = shiftN A B mx my f i := hb; rw [e]; exact HSP.out i hi)
      generalize toldF (shiftN A B (bsX A B f (shiftN A B mx my f) n) (bsY A B f (shiftN A B mx my f) n) f) (mrF A B f (shiftN A B mx my f) n st) st = T at *
      generalize bsX A B f (shiftN A B mx my f) n = X2 at *
      generalize bsY A B f (shiftN A B mx my f) n = Y2 at *
      generalize mrF A B f (shiftN A B mx my f) n st = R at *
      generalize shiftN A B mx my f = G at *
      clear hp hfar hbs o hsame HSP
      go_wp2_with fail
      refine (K1.out).mono ?_
      rintro e w14 ⟨v, rfl, hov, hb14⟩
      obtain ⟨g, capv, rfl, hg1, hg2, _⟩ := own_irow hov h0
      have hv := own_in hov
      obtain ⟨W15, hW15⟩ : ∃ W15, W15 = w14.alloc (.cells #[.int .i64 a, .int .i64 b, .slice (some ⟨g, 0, none⟩) n capv] 24) := ⟨_, rfl⟩
      have b15 : Below w14.heap.size w14 W15 := hW15 ▸ (Below.refl _ _).alloc (Nat.le_refl _) _
      have N15 := hide ((N13.out.below hb14).below b15)
      have P15 : Hid (PicIn W15 w14.heap.size a b (.slice (some ⟨g, 0, none⟩) n capv)) := hide (hW15 ▸ picIn_new w14 _ _ _)
      have V15 := hide (hv.below b15)
      have K15 := hide (K2.out W15 _ (HS.out.below N15.out.t.b) V15.out)
      have hne : Hid (w14.heap.size ≠ w9.heap.size ∧ g ≠ w9.heap.size ∧ w9.heap.size < W15.heap.size) := by
        have := N13.out.c.lt
        have := hb14.size
        have := b15.size
        unfold Hid
        omega
      subst hW15
      clear hv hov hb14 b15 K1 K2 N13 c0 c1 c2 d0 d1 d2 m0 m1 hg1 hg2
      obtain ⟨c0, c1, c2, d0, d1, d2, m0, m1⟩ := N15.out.t.cells
      obtain ⟨⟨p0, _⟩, ⟨p1, _⟩, p2, _⟩ := P15.out
      go_wp2_with fail
      refine (K15.out).mono ?_
      rintro e w16 ⟨⟨hok, _⟩, hb16⟩
      obtain ⟨u2, rfl, hu2, hnu⟩ := hok (stepOk_iff.2 HST.out)
      obtain ⟨adw, capw, rfl⟩ := slice_shape hu2
      have hnu2 : ∀ k, (Value.slice adw n capw).ownBlock = some k → k ≠ w9.heap.size := fun k hk => by have := hnu k hk; have := hne.out.2.2; omega
      have N17 := hide ((N15.out.below hb16).put false X2 Y2 (.slice adw n capw))
      have P17 := hide (((((P15.out.below hb16).setOther (o := 0) hne.out.1 (.bool false)).setOther (o := 1) hne.out.1 (.int .i64 X2)).setOther (o := 2) hne.out.1 (.int .i64 Y2)).setOther (o := 3) hne.out.1 (.slice adw n capw))
      have hgv : ∀ k, (Value.slice (some ⟨g, 0, none⟩) n capv).ownBlock = some k → k ≠ w9.heap.size := fun k hk => by
        have e : g = k := by simpa [Value.ownBlock] using hk
        rw [← e]; exact hne.out.2.1
      have V17 := hide (ints_set (o := 3) (ints_set (o := 2) (ints_set (o := 1) (ints_set (o := 0) (V15.out.below hb16) hgv (.bool false)) hgv (.int .i64 X2)) hgv (.int .i64 Y2)) hgv (.slice adw n capw))
      have U17 := hide (ints_set (o := 3) (ints_set (o := 2) (ints_set (o := 1) (ints_set (o := 0) hu2 hnu2 (.bool false)) hnu2 (.int .i64 X2)) hnu2 (.int .i64 Y2)) hnu2 (.slice adw n capw))
      obtain ⟨e0, e1, e2, e3, g0, g1, g2, g3⟩ := (N15.out.below hb16).c
      clear hok hu2 hb16 K15 N15 P15 V15 c0 c1 c2 d0 d1 d2 m0 m1 p0 p1 p2 hne hnu hnu2 hgv
      go_wp2
      clear e0 e1 e2 e3 g0 g1 g2 g3
      generalize ((((w16.setCell ⟨w9.heap.size, 0, none⟩ (.bool false)).setCell ⟨w9.heap.size, 1, none⟩ (.int .i64 X2)).setCell ⟨w9.heap.size, 2, none⟩ (.int .i64 Y2)).setCell ⟨w9.heap.size, 3, none⟩ (.slice adw n capw)) = W17 at *
      have K17 := hide (K3.out W17 _ (HS.out.below N17.out.t.b) U17.out)
      obtain ⟨c0, c1, c2, d0, d1, d2, m0, m1⟩ := N17.out.t.cells
      obtain ⟨e0, e1, e2, e3, _, _, _, _⟩ := N17.out.c
      obtain ⟨gw, ow, capw2, hwe, hwc⟩ : ∃ g o c, Value.slice adw n capw = .slice (some ⟨g, o, none⟩) n c ∧ ∀ i, i < n → W17.cell? ⟨g, o + i, none⟩ = some (.int .i64 (R i)) := by
        rcases U17.out with ⟨h, _⟩ | ⟨_, b, o, c, e, hc⟩
        · omega
        · exact ⟨_, _, _, e, hc⟩
      obtain ⟨rfl, rfl⟩ : adw = some ⟨gw, ow, none⟩ ∧ capw = capw2 := by cases hwe; exact ⟨rfl, rfl⟩
      have HWC : Hid (∀ i, i < n → W17.cell? ⟨gw, ow + i, none⟩ = some (.int .i64 0)) := fun i hi => by rw [hwc i hi, HRZ.out i hi]
      clear hwe hwc K3
      go_loop [20] (fun i => ∃ j : Nat, j ≤ n ∧ i = .int .i64 j) (fun i => n - (intOf i).toNat)
      case atStart => exact ⟨0, Nat.zero_le _, rfl⟩
      case round =>
        obtain ⟨j, hj, rfl⟩ := hrel
        by_cases hlt : j < n
        · have hcj := HWC.out j hlt
          go_wp2
          go_round
          case rel => exact ⟨j + 1, by omega, by go_num⟩
          case measure => simp [intOf]; omega
        · obtain rfl : j = n := by omega
          go_wp2_with fail
          refine (K17.out).mono ?_
          rintro e w18 ⟨x, rfl, hx, hb18⟩
          obtain ⟨adx, capx, rfl⟩ := slice_shape hx
          obtain ⟨W19, hW19⟩ : ∃ W19, W19 = w18.alloc (.cells #[.int .i64 a, .int .i64 b, .slice adx j capx] 24) := ⟨_, rfl⟩
          have b19 : Below w18.heap.size w18 W19 := hW19 ▸ (Below.refl _ _).alloc (Nat.le_refl _) _
          have N19 := hide ((N17.out.below hb18).below b19)
          have P19 := hide ((P17.out.below hb18).below b19)
          have V19 := hide ((V17.out.below hb18).below b19)
          have Q19 : Hid (PicIn W19 w18.heap.size a b (.slice adx j capx)) := hide (hW19 ▸ picIn_new w18 _ _ _)
          have X19 := hide (hx.below b19)
          have K19 := hide (pics_alike a b (by omega) X19.out V19.out (fun i hi => HTS.out i hi))
          subst hW19
          clear hx hb18 b19 K17 N17 P17 V17 U17 c0 c1 c2 d0 d1 d2 m0 m1 e0 e1 e2 e3
          obtain ⟨⟨p0, _⟩, ⟨p1, _⟩, p2, _⟩ := P19.out
          obtain ⟨⟨q0, _⟩, ⟨q1, _⟩, q2, _⟩ := Q19.out
          go_wp2_with fail
          refine (K19.out).mono ?_
          rintro e w20 ⟨rfl, hb20⟩
          have B20 := hide (below_two N19.out.t.b hb20)
          clear hb20
          go_wp2
          go_ret
          exact ⟨ret_bool (by first | rfl | simp), B20.out⟩
    · have K1 := hide (pshift_bad a b mx my (HS.out.below N13.out.t.b) (show shiftF a b n f mx my ≠ 0 by unfold shiftF; rw [if_pos hp]; exact hp))
      rw [errN_pos (show shiftF a b n f mx my ≠ 0 by unfold shiftF; rw [if_pos hp]; exact hp)] at K1
      clear hp hfar
      generalize shiftF a b n f mx my = k at *
      go_wp2_with fail
      refine (K1.out).mono ?_
      rintro e w14 ⟨rfl, hb14⟩
      have b15 : Below w14.heap.size w14 (w14.alloc (.cells #[.int .i64 0, .int .i64 0, .slice none 0 0] 24)) := (Below.refl _ _).alloc (Nat.le_refl _) _
      have B15 := hide ((N13.out.below hb14).below b15).t.b
      clear hb14 b15
      go_wp2
      go_ret
      exact ⟨rfl, B15.out⟩
end Go.Proofs.Ytcicoblejaippaa
