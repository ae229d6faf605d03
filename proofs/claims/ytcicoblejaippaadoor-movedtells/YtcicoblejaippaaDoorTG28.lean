/-
  Lemmas for the law above, joined into one text (Top, MvTlW). No statement is proved here.
-/
import Derived.Test.YtcicoblejaippaaDoorTG0
import Derived.ProofKit
import Derived.OpenShut
import Derived.ShutString
import Derived.Test.YtcicoblejaippaaDoorTG23
import Derived.Test.YtcicoblejaippaaDoorTG24
import Derived.Test.YtcicoblejaippaaDoorTPicErr
import Derived.Test.YtcicoblejaippaaDoorTG27
import Derived.Deep.DeepCutAuto
namespace Go.Proofs.YtcicoblejaippaaDoor
open Go.ChangeShapes Go.WideShapes Go.ChangeAt Go.RowKit
open Go.ChangeMaps (open_string shut_string)
set_option linter.unusedVariables false
set_option maxRecDepth 100000

theorem own : ownKnob Tryd.prog.godebug = none := by kernel_rfl
theorem laidOut : laidOutB Tryd.prog = true := by kernel_rfl

theorem trodAll_below {H : Type} {enc : TypeId × Value → H} {W W' : World} (hb : Below W.heap.size W W') : ∀ (ts : List TypeId) (vs : List Value) (ds : List (DataW H)) (p : List MemPlace),
    (∀ t ∈ ts, Tryd.prog.readableRec t = true ∧ t < Tryd.prog.types.size) → DataW.TrodAll enc Tryd.prog W 0 (fun _ => true) true ts vs ds p → (∀ x ∈ p, x.block < W.heap.size) →
    DataW.TrodAll enc Tryd.prog W' 0 (fun b => decide (b < W.heap.size)) true ts vs ds p
  | [], _, _, _, _, h, _ => by
    obtain ⟨rfl, rfl, rfl⟩ := trodAll_nil h
    exact trodAll_mk0
  | t :: ts, _, _, _, ht, h, hlt => by
    obtain ⟨v, vs, d, ds, p, q, rfl, rfl, rfl, h1, h2⟩ := trodAll_cons h
    have hx := ht t (by simp)
    exact trodAll_cons_mk (Below.trod laidOut hx.1 hx.2 h1 hb (fun x hx => hlt x (by simp [hx]))) (trodAll_below hb ts vs ds q (fun t' h' => ht t' (by simp [h'])) h2 (fun x hx => hlt x (by simp [hx])))
end Go.Proofs.YtcicoblejaippaaDoor

namespace Go.Proofs.YtcicoblejaippaaDoor
open Go.ChangeShapes Go.WideShapes Go.ChangeAt Go.RowKit Go.Maps
set_option linter.unusedVariables false
set_option maxRecDepth 100000

set_option maxHeartbeats 8000000 in
theorem mtells_walk {w : World} (a b : Int) (s : Value) (n : Nat) (f : Nat → Int) (hs : IntsIn w s n f) (a' b' : Int) (s' : Value) (n' : Nat) (f' : Nat → Int) (hs' : IntsIn w s' n' f') (st : Int) (al : Bool) (cx cy : Int) (s2 : Value) (n2 : Nat) (f2 : Nat → Int) (hs2 : IntsIn w s2 n2 f2) (hg : HasErr w) :
    Calls Tryd.prog 3 #[.agg #[.int .i64 a, .int .i64 b, s], .agg #[.int .i64 a', .int .i64 b', s'], .int .i64 st, .agg #[.bool al, .int .i64 cx, .int .i64 cy, s2]] w fun e w' => e = .returned (.bool true) ∧ Below w.heap.size w w' := by
  obtain ⟨W3, hW3⟩ : ∃ W3, W3 = ((w.alloc (.cells #[.int .i64 a, .int .i64 b, s] 24)).alloc (.cells #[.int .i64 a', .int .i64 b', s'] 24)).alloc (.cells #[.bool al, .int .i64 cx, .int .i64 cy, s2] 28) := ⟨_, rfl⟩
  have t3 : Tt w W3 a b s a' b' s' al cx cy s2 := hW3 ▸ tt_new w a b s a' b' s' al cx cy s2
  have z3 : W3.heap.size = w.heap.size + 1 + 1 + 1 := by rw [hW3]; simp
  have T3 := hide t3
  have HS := hide hs
  have HS' := hide hs'
  have HS2 := hide hs2
  have EK := hide (fun (k : Nat) (W : World) (hb : Below w.heap.size w W) => error_right k (errN k) W (hg.below hg.lt hb) (errIs_N k))
  have K1 := hide (rtwo_ok a b a' b' (hs.below t3.b) (hs'.below t3.b))
  have K2 := hide (fun (wx : World) (hb : Below w.heap.size w wx) (A B : Nat) (en : n = n') (o : PicOk a b n f A B) (o' : PicOk a' b' n f' A B) => rbest_ok (hs.below hb) (en ▸ hs'.below hb) o o')
  have K3 := hide (fun (wx : World) (hb : Below w.heap.size w wx) => mbest_any a b a' b' (hs.below hb) (hs'.below hb))
  have K4 := hide (fun (wx : World) (hb : Below w.heap.size w wx) (A B : Nat) (en : n = n') (o : PicOk a b n f A B) (o' : PicOk a' b' n f' A B) (q1 : 1 ≤ st) (q2 : st ≤ 64) => rmoved_ok st (hs.below hb) (en ▸ hs'.below hb) o o' q1 q2)
  have K5 := hide (fun (wx : World) (hb : Below w.heap.size w wx) => menc_any a b a' b' st (hs.below hb) (hs'.below hb))
  have K6 := hide (fun (wx : World) (hb : Below w.heap.size w wx) => rbehind_any a b al cx cy st (hs.below hb) (hs2.below hb))
  have K7 := hide (fun (wx : World) (hb : Below w.heap.size w wx) => mdec_any a b al cx cy st (hs.below hb) (hs2.below hb))
  have HMle := hide (meM_le a b n f a' b' n' f' st)
  have HDle := hide (mdM_le a b n f al cx cy n2 f2 st)
  have HTO := hide (two_ok (a := a) (b := b) (n := n) (f := f) (a' := a') (b' := b') (n' := n') (f' := f'))
  have HX1 : Hid (mtX a b n f a' b' n' f' = if twoF a b n f a' b' n' f' = 0 then bsX a.toNat b.toNat f f' n else 0) := rfl
  have HY1 : Hid (mtY a b n f a' b' n' f' = if twoF a b n f a' b' n' f' = 0 then bsY a.toNat b.toNat f f' n else 0) := rfl
  have HEN : Hid (menF a b n f a' b' n' f' st = if twoF a b n f a' b' n' f' ≠ 0 then twoF a b n f a' b' n' f' else if stepOk st = true then 0 else 1) := rfl
  have HEZ := hide (menF_zero (a := a) (b := b) (n := n) (f := f) (a' := a') (b' := b') (n' := n') (f' := f') (s := st)).1
  have HX : Hid (meX a b n f a' b' n' f' st = if menF a b n f a' b' n' f' st = 0 then bsX a.toNat b.toNat f f' n else 0) := rfl
  have HY : Hid (meY a b n f a' b' n' f' st = if menF a b n f a' b' n' f' st = 0 then bsY a.toNat b.toNat f f' n else 0) := rfl
  have HMM : Hid (meM a b n f a' b' n' f' st = if menF a b n f a' b' n' f' st = 0 then n else 0) := rfl
  have HG : Hid (meG a b n f f' st = mrF a.toNat b.toNat f f' n st) := rfl
  obtain ⟨ads, caps, rfl⟩ := slice_shape hs
  obtain ⟨ads', caps', rfl⟩ := slice_shape hs'
  obtain ⟨ads2, caps2, rfl⟩ := slice_shape hs2
  obtain ⟨c0, c1, c2, d0, d1, d2, e0, e1, e2, e3⟩ := t3.cells
  have HZ3 : Hid (w.heap.size + 1 + 1 < W3.heap.size) := by unfold Hid; omega
  subst hW3
  clear hs hs' hs2 hg t3 z3
  generalize twoF a b n f a' b' n' f' = k0 at *
  generalize mtX a b n f a' b' n' f' = X1 at *
  generalize mtY a b n f a' b' n' f' = Y1 at *
  generalize menF a b n f a' b' n' f' st = E at *
  generalize meX a b n f a' b' n' f' st = X at *
  generalize meY a b n f a' b' n' f' st = Y at *
  generalize meM a b n f a' b' n' f' st = M at *
  generalize meG a b n f f' st = G at *
  generalize mdeF a b n f al cx cy n2 f2 st = E2 at *
  generalize mdX a b n f al cx cy n2 f2 st = QX at *
  generalize mdY a b n f al cx cy n2 f2 st = QY at *
  generalize mdM a b n f al cx cy n2 f2 st = QM at *
  generalize mdG a b f cx cy f2 st = QG at *
  go_enter Tryd.func3, Tryd.ntmps3
  go_wp2_with fail
  refine (K1.out).mono ?_
  rintro e w4 ⟨rfl, hb4⟩
  obtain ⟨W5, hW5⟩ : ∃ W5, W5 = w4.alloc (.cells #[.int .i64 0, .int .i64 0] 26) := ⟨_, rfl⟩
  have b5 : Below w4.heap.size w4 W5 := hW5 ▸ (Below.refl _ _).alloc (Nat.le_refl _) _
  have T5 := hide ((T3.out.below hb4).below b5)
  have M5 : Hid (MvIn W5 w4.heap.size 0 0) := hide (hW5 ▸ mvIn_new w4 0 0)
  have HZ4 : Hid (w.heap.size + 1 + 1 < w4.heap.size) := by have := hb4.size; have := HZ3.out; unfold Hid; omega
  clear c0 c1 c2 d0 d1 d2 e0 e1 e2 e3
  go_upto_region 3 with fail
  rw [← hW5]
  clear hW5 hb4 b5 K1 T3 HZ3
  go_cut [24] (fun t wx => ∃ q : Bool, t = .bool q ∧ (q = true ↔ k0 = 0) ∧ Hid (Tt w wx a b (.slice ads n caps) a' b' (.slice ads' n' caps') al cx cy (.slice ads2 n2 caps2)) ∧ Hid (MvIn wx w4.heap.size 0 0))
  case first =>
    by_cases h0 : k0 = 0
    · have z0 : ((k0 : Int) == 0) = true := by rw [beq_iff_eq]; omega
      have H0 := hide h0
      clear h0
      go_wp2
      go_meet
      exact ⟨true, by first | rfl | (simp; done), ⟨fun _ => H0.out, fun _ => rfl⟩, T5, M5⟩
    · have z0 : ((k0 : Int) == 0) = false := by rw [beq_eq_false_iff_ne]; omega
      have H0 := hide h0
      clear h0
      go_wp2
      go_meet
      exact ⟨false, by first | rfl | (simp; done), ⟨fun hh => Bool.noConfusion hh, fun hh => absurd hh H0.out⟩, T5, M5⟩
  case rest =>
  obtain ⟨q, rfl, hq, T6, M6⟩ := hcut
  have HQ := hide hq
  clear hq T5 M5
  go_upto_if 24 with fail
  go_cut [] (fun wx => Hid (Tt w wx a b (.slice ads n caps) a' b' (.slice ads' n' caps') al cx cy (.slice ads2 n2 caps2)) ∧ Hid (MvIn wx w4.heap.size X1 Y1))
  case first =>
    cases q with
    | true =>
      have h0 := HQ.out.1 rfl
      obtain ⟨en, A, B, o, o'⟩ := HTO.out h0
      have ea : a.toNat = A := by rw [o.wide]; rfl
      have eb : b.toNat = B := by rw [o.high]; rfl
      have K2' := hide (K2.out wc T6.out.b A B en o (en ▸ o'))
      have hX1 : bsX A B f f' n = X1 := by rw [HX1.out, if_pos h0, ea, eb]
      have hY1 : bsY A B f f' n = Y1 := by rw [HY1.out, if_pos h0, ea, eb]
      rw [hX1, hY1] at K2'
      subst en
      obtain ⟨c0, c1, c2, d0, d1, d2, e0, e1, e2, e3⟩ := T6.out.cells
      clear h0 o o' ea eb hX1 hY1 HQ
      go_wp2_with fail
      refine (K2'.out).mono ?_
      rintro e w7 ⟨rfl, hb7⟩
      have T7 := hide (T6.out.below hb7)
      have M7 := hide (M6.out.below hb7)
      have T8 := hide ((T7.out.set (o := 0) HZ4.out (.int .i64 X1)).set (o := 1) HZ4.out (.int .i64 Y1))
      have M8 := hide (M7.out.put X1 Y1)
      obtain ⟨k0', k1', g0, g1⟩ := M7.out
      clear hb7 K2' T7 M7 c0 c1 c2 d0 d1 d2 e0 e1 e2 e3
      go_wp2
      go_meet
      exact ⟨T8, M8⟩
    | false =>
      have h0 : ¬ k0 = 0 := fun h => Bool.noConfusion (HQ.out.2 h)
      have hX1 : Hid (X1 = 0) := by unfold Hid; rw [HX1.out, if_neg h0]
      have hY1 : Hid (Y1 = 0) := by unfold Hid; rw [HY1.out, if_neg h0]
      clear h0 HQ
      go_wp2
      go_meet
      exact ⟨T6, by rw [hX1.out, hY1.out]; exact M6⟩
  case rest =>
  obtain ⟨T7, M7⟩ := hcut
  clear T6 M6 HQ K2 HX1 HY1
  have K3' := hide (K3.out wc T7.out.b)
  obtain ⟨c0, c1, c2, d0, d1, d2, e0, e1, e2, e3⟩ := T7.out.cells
  go_wp2_with fail
  refine (K3'.out).mono ?_
  rintro e w8 ⟨rfl, hb8⟩
  obtain ⟨W9, hW9⟩ : ∃ W9, W9 = w8.alloc (.cells #[.int .i64 X1, .int .i64 Y1] 26) := ⟨_, rfl⟩
  have b9 : Below w8.heap.size w8 W9 := hW9 ▸ (Below.refl _ _).alloc (Nat.le_refl _) _
  have T9 := hide ((T7.out.below hb8).below b9)
  have M9 := hide ((M7.out.below hb8).below b9)
  have N9 : Hid (MvIn W9 w8.heap.size X1 Y1) := hide (hW9 ▸ mvIn_new w8 X1 Y1)
  have E9 := hide (EK.out k0 W9 T9.out.b)
  subst hW9
  clear hb8 b9 K3' K3 T7 M7 c0 c1 c2 d0 d1 d2 e0 e1 e2 e3
  go_wp2_with fail
  refine (E9.out).mono ?_
  rintro e w10 ⟨rfl, hb10⟩
  have T10 := hide (T9.out.below hb10)
  obtain ⟨k0', k1', _, _⟩ := M9.out.below hb10
  obtain ⟨l0', l1', _, _⟩ := N9.out.below hb10
  have q1 : (X1 == X1) = true := by simp
  have q2 : (Y1 == Y1) = true := by simp
  clear hb10 E9 T9 M9 N9
  go_upto_region 7 with fail
  clear q1 q2 k0' k1' l0' l1'
  go_cut [51] (fun t wx => ∃ q : Bool, t = .bool q ∧ (q = true ↔ k0 = 0 ∧ stepOk st = false) ∧ Hid (Tt w wx a b (.slice ads n caps) a' b' (.slice ads' n' caps') al cx cy (.slice ads2 n2 caps2)))
  case first =>
    by_cases h0 : k0 = 0
    · have z0 : ((k0 : Int) == 0) = true := by rw [beq_iff_eq]; omega
      have H0 := hide h0
      clear h0
      have hw : st < 1 ∨ (1 ≤ st ∧ 64 < st) ∨ (1 ≤ st ∧ st ≤ 64) := by omega
      rcases hw with h | ⟨h1, h⟩ | ⟨h1, h⟩
      · go_wp2
        go_meet
        exact ⟨true, by first | rfl | (simp; done) | (simp; omega), ⟨fun _ => ⟨H0.out, stepOk_not.2 (Or.inl h)⟩, fun _ => rfl⟩, T10⟩
      · go_wp2
        go_meet
        exact ⟨true, by first | rfl | (simp; done) | (simp; omega), ⟨fun _ => ⟨H0.out, stepOk_not.2 (Or.inr h)⟩, fun _ => rfl⟩, T10⟩
      · go_wp2
        go_meet
        exact ⟨false, by first | rfl | (simp; done) | (simp; omega), ⟨fun hh => Bool.noConfusion hh, fun hh => by rw [stepOk_iff.2 ⟨h1, h⟩] at hh; exact Bool.noConfusion hh.2⟩, T10⟩
    · have z0 : ((k0 : Int) == 0) = false := by rw [beq_eq_false_iff_ne]; omega
      have H0 := hide h0
      clear h0
      go_wp2
      go_meet
      exact ⟨false, rfl, ⟨fun hh => Bool.noConfusion hh, fun hh => absurd hh.1 H0.out⟩, T10⟩
  case rest =>
  obtain ⟨q, rfl, hq, T11⟩ := hcut
  have HQ := hide hq
  clear hq T10
  go_upto_if 51 with fail
  go_cut [9] (fun t wx => t = .int .i64 (E : Nat) ∧ Hid (Tt w wx a b (.slice ads n caps) a' b' (.slice ads' n' caps') al cx cy (.slice ads2 n2 caps2)))
  case first =>
    cases q with
    | true =>
      obtain ⟨h0, h1⟩ := HQ.out.1 rfl
      have hE : E = 1 := by rw [HEN.out, if_neg (by omega), h1, if_neg (by simp)]
      have HE := hide hE
      clear h0 h1 hE HQ
      go_wp2
      go_meet
      exact ⟨by rw [HE.out]; rfl, T11⟩
    | false =>
      have hE : E = k0 := by
        rw [HEN.out]
        by_cases h0 : k0 = 0
        · have h1 : stepOk st = true := by
            cases h : stepOk st with
            | true => rfl
            | false => exact absurd (HQ.out.2 ⟨h0, h⟩) (by simp)
          rw [if_neg (by omega), if_pos h1, h0]
        · rw [if_pos h0]
      have HE := hide hE
      clear hE HQ
      go_wp2
      go_meet
      exact ⟨by rw [HE.out], T11⟩
  case rest =>
  obtain ⟨rfl, T12⟩ := hcut
  clear T11 HQ HEN
  obtain ⟨W13, hW13⟩ : ∃ W13, W13 = wc.alloc (.cells #[.bool false, .int .i64 0, .int .i64 0, .slice none 0 0] 28) := ⟨_, rfl⟩
  have b13 : Below wc.heap.size wc W13 := hW13 ▸ (Below.refl _ _).alloc (Nat.le_refl _) _
  have T13 := hide (T12.out.below b13)
  have C13 : Hid (CodIn W13 wc.heap.size false 0 0 (.slice none 0 0)) := hide (hW13 ▸ codIn_new wc _ _ _ _)
  have HZ12 : Hid (w.heap.size + 1 + 1 < wc.heap.size) := T12.out.c.lt
  generalize hwb : wc.heap.size = wb at *
  go_upto_region 10 with fail
  rw [← hW13]
  clear hW13 hwb b13 T12
  go_cut [53] (fun t wx => ∃ q : Bool, t = .bool q ∧ (q = true ↔ E = 0) ∧ Hid (Tt w wx a b (.slice ads n caps) a' b' (.slice ads' n' caps') al cx cy (.slice ads2 n2 caps2)) ∧ Hid (CodIn wx wb false 0 0 (.slice none 0 0)))
  case first =>
    by_cases h0 : E = 0
    · have z0 : ((E : Int) == 0) = true := by rw [beq_iff_eq]; omega
      have H0 := hide h0
      clear h0
      go_wp2
      go_meet
      exact ⟨true, by first | rfl | (simp; done), ⟨fun _ => H0.out, fun _ => rfl⟩, T13, C13⟩
    · have z0 : ((E : Int) == 0) = false := by rw [beq_eq_false_iff_ne]; omega
      have H0 := hide h0
      clear h0
      go_wp2
      go_meet
      exact ⟨false, by first | rfl | (simp; done), ⟨fun hh => Bool.noConfusion hh, fun hh => absurd hh H0.out⟩, T13, C13⟩
  case rest =>
  obtain ⟨q, rfl, hq, T14, C14⟩ := hcut
  have HQ := hide hq
  clear hq T13 C13
  go_upto_if 53 with fail
  go_cut [] (fun wx => ∃ u, Hid (Tt w wx a b (.slice ads n caps) a' b' (.slice ads' n' caps') al cx cy (.slice ads2 n2 caps2)) ∧ Hid (CodIn wx wb false X Y u) ∧ Hid (IntsIn wx u M G))
  case first =>
    cases q with
    | true =>
      have h0 := HQ.out.1 rfl
      obtain ⟨h2, s1, s2⟩ := HEZ.out h0
      obtain ⟨en, A, B, o, o'⟩ := HTO.out h2
      have ea : a.toNat = A := by rw [o.wide]; rfl
      have eb : b.toNat = B := by rw [o.high]; rfl
      have K4' := hide (K4.out wc T14.out.b A B en o (en ▸ o') s1 s2)
      have hX : bsX A B f f' n = X := by rw [HX.out, if_pos h0, ea, eb]
      have hY : bsY A B f f' n = Y := by rw [HY.out, if_pos h0, ea, eb]
      have hM : Hid (M = n) := by unfold Hid; rw [HMM.out, if_pos h0]
      have hG : mrF A B f f' n st = G := by rw [HG.out, ea, eb]
      rw [hX, hY, hG] at K4'
      have hwb := C14.out.lt
      subst en
      obtain ⟨c0, c1, c2, d0, d1, d2, e0, e1, e2, e3⟩ := T14.out.cells
      clear h0 h2 o o' ea eb hX hY hG HQ
      go_wp2_with fail
      refine (K4'.out).mono ?_
      rintro e w15 ⟨u, rfl, hu, hb15, hnu⟩
      obtain ⟨adu, capu, rfl⟩ := slice_shape hu
      have T15 := hide (T14.out.below hb15)
      have C15 := hide (C14.out.below hb15)
      have hnu2 : ∀ k, (Value.slice adu n capu).ownBlock = some k → k ≠ wb := fun k hk => by have := hnu k hk; omega
      have T16 := hide ((((T15.out.set (o := 0) HZ12.out (.bool false)).set (o := 1) HZ12.out (.int .i64 X)).set (o := 2) HZ12.out (.int .i64 Y)).set (o := 3) HZ12.out (.slice adu n capu))
      have C16 := hide (C15.out.put false X Y (.slice adu n capu))
      have U16 := hide (ints_set (o := 3) (ints_set (o := 2) (ints_set (o := 1) (ints_set (o := 0) hu hnu2 (.bool false)) hnu2 (.int .i64 X)) hnu2 (.int .i64 Y)) hnu2 (.slice adu n capu))
      obtain ⟨k0', k1', k2', k3', g0, g1, g2, g3⟩ := C15.out
      clear hb15 K4' T15 C15 hu hnu hnu2 hwb c0 c1 c2 d0 d1 d2 e0 e1 e2 e3
      go_wp2
      go_meet
      exact ⟨_, T16, C16, by unfold Hid; rw [hM.out]; exact U16.out⟩
    | false =>
      have h0 : ¬ E = 0 := fun h => Bool.noConfusion (HQ.out.2 h)
      have hX : Hid (X = 0) := by unfold Hid; rw [HX.out, if_neg h0]
      have hY : Hid (Y = 0) := by unfold Hid; rw [HY.out, if_neg h0]
      have hM : Hid (M = 0) := by unfold Hid; rw [HMM.out, if_neg h0]
      clear h0 HQ
      go_wp2
      go_meet
      exact ⟨_, T14, by rw [hX.out, hY.out]; exact C14, by unfold Hid; rw [hM.out]; exact Or.inl ⟨rfl, _, _, rfl⟩⟩
  case rest =>
  obtain ⟨u, T15, C15, U15⟩ := hcut
  obtain ⟨adu, capu, hvs⟩ := slice_shape U15.out
  subst hvs
  clear T14 C14 HQ HEZ HX HY HMM HG K4 HTO HZ12
  have K5' := hide (K5.out wc T15.out.b)
  obtain ⟨c0, c1, c2, d0, d1, d2, e0, e1, e2, e3⟩ := T15.out.cells
  go_wp2_with fail
  refine (K5'.out).mono ?_
  rintro e w16 ⟨u2, rfl, hu2, hb16⟩
  obtain ⟨adv, capv, rfl⟩ := slice_shape hu2
  obtain ⟨W17, hW17⟩ : ∃ W17, W17 = w16.alloc (.cells #[.bool false, .int .i64 X, .int .i64 Y, .slice adv M capv] 28) := ⟨_, rfl⟩
  have b17 : Below w16.heap.size w16 W17 := hW17 ▸ (Below.refl _ _).alloc (Nat.le_refl _) _
  have T17 := hide ((T15.out.below hb16).below b17)
  have C17 := hide ((C15.out.below hb16).below b17)
  have D17 : Hid (CodIn W17 w16.heap.size false X Y (.slice adv M capv)) := hide (hW17 ▸ codIn_new w16 _ _ _ _)
  have U17 := hide ((U15.out.below hb16).below b17)
  have V17 := hide (hu2.below b17)
  have E17 := hide (EK.out E W17 T17.out.b)
  subst hW17
  clear hu2 hb16 b17 K5' K5 T15 C15 U15 c0 c1 c2 d0 d1 d2 e0 e1 e2 e3
  go_wp2_with fail
  refine (E17.out).mono ?_
  rintro e w18 ⟨rfl, hb18⟩
  have T18 := hide (T17.out.below hb18)
  have C18 := hide (C17.out.below hb18)
  have D18 := hide (D17.out.below hb18)
  have K8 := hide (codes_alike false X Y (by have := HMle.out; omega) (V17.out.below hb18) (U17.out.below hb18))
  obtain ⟨k0', k1', k2', k3', _, _, _, _⟩ := C18.out
  obtain ⟨l0', l1', l2', l3', _, _, _, _⟩ := D18.out
  clear hb18 E17 T17 C17 D17 U17 V17
  go_wp2_with fail
  refine (K8.out).mono ?_
  rintro e w19 ⟨rfl, hb19⟩
  have T19 := hide (T18.out.below hb19)
  have K6' := hide (K6.out w19 T19.out.b)
  clear hb19 K8 T18 C18 D18 k0' k1' k2' k3' l0' l1' l2' l3' K6
  obtain ⟨c0, c1, c2, d0, d1, d2, e0, e1, e2, e3⟩ := T19.out.cells
  go_wp2_with fail
  refine (K6'.out).mono ?_
  rintro e w20 ⟨v, rfl, hv, hb20⟩
  obtain ⟨adw, capw, rfl⟩ := slice_shape hv
  obtain ⟨W21, hW21⟩ : ∃ W21, W21 = w20.alloc (.cells #[.int .i64 QX, .int .i64 QY, .slice adw QM capw] 24) := ⟨_, rfl⟩
  have b21 : Below w20.heap.size w20 W21 := hW21 ▸ (Below.refl _ _).alloc (Nat.le_refl _) _
  have T21 := hide ((T19.out.below hb20).below b21)
  have P21 : Hid (PicIn W21 w20.heap.size QX QY (.slice adw QM capw)) := hide (hW21 ▸ picIn_new w20 _ _ _)
  have V21 := hide (hv.below b21)
  have K7' := hide (K7.out W21 T21.out.b)
  subst hW21
  clear hv hb20 b21 K6' T19 K7 c0 c1 c2 d0 d1 d2 e0 e1 e2 e3
  obtain ⟨c0, c1, c2, d0, d1, d2, e0, e1, e2, e3⟩ := T21.out.cells
  go_wp2_with fail
  refine (K7'.out).mono ?_
  rintro e w22 ⟨v2, rfl, hv2, hb22⟩
  obtain ⟨adx, capx, rfl⟩ := slice_shape hv2
  obtain ⟨W23, hW23⟩ : ∃ W23, W23 = w22.alloc (.cells #[.int .i64 QX, .int .i64 QY, .slice adx QM capx] 24) := ⟨_, rfl⟩
  have b23 : Below w22.heap.size w22 W23 := hW23 ▸ (Below.refl _ _).alloc (Nat.le_refl _) _
  have B23 := hide (below_two (below_two T21.out.b hb22) b23)
  have P23 := hide ((P21.out.below hb22).below b23)
  have Q23 : Hid (PicIn W23 w22.heap.size QX QY (.slice adx QM capx)) := hide (hW23 ▸ picIn_new w22 _ _ _)
  have V23 := hide ((V21.out.below hb22).below b23)
  have X23 := hide (hv2.below b23)
  have E23 := hide (EK.out E2 W23 B23.out)
  subst hW23
  clear hv2 hb22 b23 K7' T21 P21 V21 c0 c1 c2 d0 d1 d2 e0 e1 e2 e3
  go_wp2_with fail
  refine (E23.out).mono ?_
  rintro e w24 ⟨rfl, hb24⟩
  have B24 := hide (below_two B23.out hb24)
  have K9 := hide (pics_alike QX QY (by have := HDle.out; omega) (X23.out.below hb24) (V23.out.below hb24) (fun _ _ => rfl))
  obtain ⟨⟨c0, _⟩, ⟨c1, _⟩, c2, _⟩ := P23.out.below hb24
  obtain ⟨⟨d0, _⟩, ⟨d1, _⟩, d2, _⟩ := Q23.out.below hb24
  clear hb24 E23 P23 Q23 V23 X23 B23
  go_wp2_with fail
  refine (K9.out).mono ?_
  rintro e w25 ⟨rfl, hb25⟩
  have B25 := hide (below_two B24.out hb25)
  clear hb25 K9 c0 c1 c2 d0 d1 d2
  go_wp2
  go_ret
  exact ⟨ret_bool (by first | rfl | simp), B25.out⟩
end Go.Proofs.YtcicoblejaippaaDoor
