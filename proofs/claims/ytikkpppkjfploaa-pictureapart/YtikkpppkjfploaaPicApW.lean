/-
  PictureApart: how far two pictures are apart is the same either way round, 0 just for the same, no more than by a third one, and no more when both are moved alike: for every input. Our own walk of the law.
-/
import Derived.Test.YtikkpppkjfploaaPicS
import Derived.Test.YtikkpppkjfploaaPicQ
import Derived.Test.YtikkpppkjfploaaPicA
import Derived.Test.YtikkpppkjfploaaTop
import Derived.Deep.DeepCutAuto
namespace Go.Proofs.Ytikkpppkjfploaa
open Go.ChangeShapes Go.WideShapes Go.ChangeAt Go.RowKit
set_option linter.unusedVariables false
set_option maxRecDepth 100000

theorem slice_form' {w : World} {v : Value} {n : Nat} {f : Nat → Int} (h : IntsIn w v n f) : ∃ ad cap, v = .slice ad n cap := by
  rcases h with ⟨rfl, a, c, rfl⟩ | ⟨_, b, o, c, rfl, _⟩
  · exact ⟨_, _, rfl⟩
  · exact ⟨_, _, rfl⟩

/-- The law's four arguments as they lie in blocks of their own. -/
structure Four (w0 w : World) (a b : Int) (s : Value) (n : Nat) (f : Nat → Int) (a' b' : Int) (s' : Value) (n' : Nat) (f' : Nat → Int) (x y : Int) (t : Value) (k : Nat) (g : Nat → Int) (mx my : Int) : Prop where
  p : PicIn w w0.heap.size a b s
  q : PicIn w (w0.heap.size + 1) a' b' s'
  o : PicIn w (w0.heap.size + 1 + 1) x y t
  m : MoveIn w (w0.heap.size + 1 + 1 + 1) mx my
  ps : IntsIn w s n f
  qs : IntsIn w s' n' f'
  os : IntsIn w t k g
  b : Below w0.heap.size w0 w
theorem Four.below {w0 w w' : World} {a b : Int} {s : Value} {n : Nat} {f : Nat → Int} {a' b' : Int} {s' : Value} {n' : Nat} {f' : Nat → Int} {x y : Int} {t : Value} {k : Nat} {g : Nat → Int} {mx my : Int}
    (h : Four w0 w a b s n f a' b' s' n' f' x y t k g mx my) (hb : Below w.heap.size w w') : Four w0 w' a b s n f a' b' s' n' f' x y t k g mx my :=
  ⟨h.p.below hb, h.q.below hb, h.o.below hb, h.m.below hb, h.ps.below hb, h.qs.below hb, h.os.below hb, below_two h.b hb⟩
theorem Four.cells {w0 w : World} {a b : Int} {s : Value} {n : Nat} {f : Nat → Int} {a' b' : Int} {s' : Value} {n' : Nat} {f' : Nat → Int} {x y : Int} {t : Value} {k : Nat} {g : Nat → Int} {mx my : Int}
    (h : Four w0 w a b s n f a' b' s' n' f' x y t k g mx my) :
    w.cell? ⟨w0.heap.size, 0, none⟩ = some (.int .i64 a) ∧ w.cell? ⟨w0.heap.size, 1, none⟩ = some (.int .i64 b) ∧ w.cell? ⟨w0.heap.size, 2, none⟩ = some s ∧
    w.cell? ⟨w0.heap.size + 1, 0, none⟩ = some (.int .i64 a') ∧ w.cell? ⟨w0.heap.size + 1, 1, none⟩ = some (.int .i64 b') ∧ w.cell? ⟨w0.heap.size + 1, 2, none⟩ = some s' ∧
    w.cell? ⟨w0.heap.size + 1 + 1, 0, none⟩ = some (.int .i64 x) ∧ w.cell? ⟨w0.heap.size + 1 + 1, 1, none⟩ = some (.int .i64 y) ∧ w.cell? ⟨w0.heap.size + 1 + 1, 2, none⟩ = some t ∧
    w.cell? ⟨w0.heap.size + 1 + 1 + 1, 0, none⟩ = some (.int .i64 mx) ∧ w.cell? ⟨w0.heap.size + 1 + 1 + 1, 1, none⟩ = some (.int .i64 my) :=
  ⟨h.p.1.1, h.p.2.1.1, h.p.2.2.1, h.q.1.1, h.q.2.1.1, h.q.2.2.1, h.o.1.1, h.o.2.1.1, h.o.2.2.1, h.m.1, h.m.2⟩
theorem four_new (w : World) (a b : Int) (s : Value) (n : Nat) (f : Nat → Int) (a' b' : Int) (s' : Value) (n' : Nat) (f' : Nat → Int) (x y : Int) (t : Value) (k : Nat) (g : Nat → Int) (mx my : Int)
    (hs : IntsIn w s n f) (hs' : IntsIn w s' n' f') (ht : IntsIn w t k g) :
    Four w ((((w.alloc (.cells #[.int .i64 a, .int .i64 b, s] 24)).alloc (.cells #[.int .i64 a', .int .i64 b', s'] 24)).alloc (.cells #[.int .i64 x, .int .i64 y, t] 24)).alloc (.cells #[.int .i64 mx, .int .i64 my] 26)) a b s n f a' b' s' n' f' x y t k g mx my := by
  obtain ⟨W1, hW1⟩ : ∃ W1, W1 = w.alloc (.cells #[.int .i64 a, .int .i64 b, s] 24) := ⟨_, rfl⟩
  obtain ⟨W2, hW2⟩ : ∃ W2, W2 = W1.alloc (.cells #[.int .i64 a', .int .i64 b', s'] 24) := ⟨_, rfl⟩
  obtain ⟨W3, hW3⟩ : ∃ W3, W3 = W2.alloc (.cells #[.int .i64 x, .int .i64 y, t] 24) := ⟨_, rfl⟩
  obtain ⟨W4, hW4⟩ : ∃ W4, W4 = W3.alloc (.cells #[.int .i64 mx, .int .i64 my] 26) := ⟨_, rfl⟩
  rw [← hW1, ← hW2, ← hW3, ← hW4]
  have b1 : Below w.heap.size w W1 := hW1 ▸ (Below.refl _ _).alloc (Nat.le_refl _) _
  have b12 : Below W1.heap.size W1 W2 := hW2 ▸ (Below.refl _ _).alloc (Nat.le_refl _) _
  have b23 : Below W2.heap.size W2 W3 := hW3 ▸ (Below.refl _ _).alloc (Nat.le_refl _) _
  have b34 : Below W3.heap.size W3 W4 := hW4 ▸ (Below.refl _ _).alloc (Nat.le_refl _) _
  have b4 := below_two (below_two (below_two b1 b12) b23) b34
  have z1 : W1.heap.size = w.heap.size + 1 := by rw [hW1]; simp
  have z2 : W2.heap.size = w.heap.size + 1 + 1 := by rw [hW2]; simp [z1]
  have z3 : W3.heap.size = w.heap.size + 1 + 1 + 1 := by rw [hW3]; simp [z2]
  refine ⟨?_, ?_, ?_, ?_, hs.below b4, hs'.below b4, ht.below b4, b4⟩
  · exact PicIn.below (hW1 ▸ picIn_new w a b s) (below_two (below_two b12 b23) b34)
  · have := picIn_new W1 a' b' s'
    rw [← hW2, z1] at this
    exact this.below (below_two b23 b34)
  · have := picIn_new W2 x y t
    rw [← hW3, z2] at this
    exact this.below b34
  · have := moveIn_new W3 mx my
    rw [← hW4, z3] at this
    exact this

theorem same_zero {f f' : Nat → Int} {n : Nat} {r : Bool} {P : Prop} (h : r = true ↔ P) (hP : P ↔ ∀ i, i < n → f i = f' i) : r = ((mostN f f' n : Int) == 0) := by
  rw [Bool.eq_iff_iff, h, hP, beq_iff_eq, ← mostN_zero]
  omega

set_option maxHeartbeats 4000000 in
theorem apart_walk {w : World} (a b : Int) (s : Value) (n : Nat) (f : Nat → Int) (hs : IntsIn w s n f) (a' b' : Int) (s' : Value) (n' : Nat) (f' : Nat → Int) (hs' : IntsIn w s' n' f') (x y : Int) (t : Value) (k : Nat) (g : Nat → Int) (ht : IntsIn w t k g) (mx my : Int) :
    Calls Try.prog 3 #[.agg #[.int .i64 a, .int .i64 b, s], .agg #[.int .i64 a', .int .i64 b', s'], .agg #[.int .i64 x, .int .i64 y, t], .agg #[.int .i64 mx, .int .i64 my]] w fun e w' => e = .returned (.bool true) ∧ Below w.heap.size w w' := by
  have fn := four_new w a b s n f a' b' s' n' f' x y t k g mx my hs hs' ht
  obtain ⟨W4, hW4⟩ : ∃ W4, W4 = (((w.alloc (.cells #[.int .i64 a, .int .i64 b, s] 24)).alloc (.cells #[.int .i64 a', .int .i64 b', s'] 24)).alloc (.cells #[.int .i64 x, .int .i64 y, t] 24)).alloc (.cells #[.int .i64 mx, .int .i64 my] 26) := ⟨_, rfl⟩
  rw [← hW4] at fn
  have z4 : W4.heap.size = w.heap.size + 1 + 1 + 1 + 1 := by rw [hW4]; simp
  obtain ⟨W5, hW5⟩ : ∃ W5, W5 = W4.alloc (.cells #[.int .i64 7] 3) := ⟨_, rfl⟩
  obtain ⟨W6, hW6⟩ : ∃ W6, W6 = W5.alloc (.cells #[.int .i64 3] 3) := ⟨_, rfl⟩
  have z5 : W5.heap.size = w.heap.size + 1 + 1 + 1 + 1 + 1 := by rw [hW5]; simp [z4]
  have b45 : Below W4.heap.size W4 W5 := hW5 ▸ (Below.refl _ _).alloc (Nat.le_refl _) _
  have b56 : Below W5.heap.size W5 W6 := hW6 ▸ (Below.refl _ _).alloc (Nat.le_refl _) _
  have i7 : IntsIn W6 (.slice (some ⟨w.heap.size + 1 + 1 + 1 + 1, 0, none⟩) 1 1) 1 (fun _ => 7) := by
    refine Or.inr ⟨by decide, _, 0, 1, rfl, fun i hi => ?_⟩
    obtain rfl : i = 0 := by omega
    exact cell_below b56 (by rw [hW5, ← z4]; simp)
  have i3 : IntsIn W6 (.slice (some ⟨w.heap.size + 1 + 1 + 1 + 1 + 1, 0, none⟩) 1 1) 1 (fun _ => 3) := by
    refine Or.inr ⟨by decide, _, 0, 1, rfl, fun i hi => ?_⟩
    obtain rfl : i = 0 := by omega
    rw [hW6, ← z5]; simp
  have K1 := hide (punlike_ok (a := 1) (b := 1) (a' := 1) (b' := 1) (A := 1) (B := 1) i7 i3 ⟨rfl, rfl, by decide, by decide, by decide, by decide, rfl, fun _ _ => by decide⟩ ⟨rfl, rfl, by decide, by decide, by decide, by decide, rfl, fun _ _ => by decide⟩)
  rw [show mostN (fun _ => 7) (fun _ => 3) 1 = 4 from rfl] at K1
  have F0 := hide ((fn.below b45).below b56)
  obtain ⟨ads, caps, rfl⟩ := slice_form' hs
  obtain ⟨ads', caps', rfl⟩ := slice_form' hs'
  obtain ⟨adt, capt, rfl⟩ := slice_form' ht
  subst hW6
  subst hW5
  subst hW4
  clear hs hs' ht fn z4 z5 b45 b56 i7 i3
  go_enter Try.func3, Try.ntmps3
  go_wp2_with fail
  refine (K1.out).mono ?_
  rintro e w1 ⟨rfl, hb1⟩
  have F1 := hide (F0.out.below hb1)
  obtain ⟨c1, c2, c3, c4, c5, c6, c7, c8, c9, c10, c11⟩ := F1.out.cells
  clear hb1 K1 F0
  by_cases htwo : twoF a b n f a' b' n' f' = 0
  · obtain ⟨hp, hq, ea, eb⟩ := twoF_zero.1 htwo
    obtain ⟨A, B, o⟩ := picF_zero.1 hp
    obtain ⟨A', B', o'⟩ := picF_zero.1 hq
    have e1 : A = A' := by have := o.wide; have := o'.wide; omega
    have e2 : B = B' := by have := o.high; have := o'.high; omega
    subst e1
    subst e2
    have en : n = n' := by rw [o'.many, o.many]
    subst en
    have w1' := o.wide
    have h1' := o.high
    subst w1'
    subst h1'
    subst ea
    subst eb
    have hn := o.le
    have O := hide o
    have O' := hide o'
    have K2 := hide (punlike_ok F1.out.ps F1.out.qs o o')
    have K3 := hide (fun w' (hb : Below w1.heap.size w1 w') => punlike_ok (w := w') (F1.out.qs.below hb) (F1.out.ps.below hb) o' o)
    rw [mostN_comm f' f] at K3
    have KP := hide (fun w' (hb : Below w1.heap.size w1 w') => pics_any (w := w') (A : Int) (B : Int) (A : Int) (B : Int) (by omega) (F1.out.ps.below hb) (F1.out.qs.below hb))
    have HZ : Hid (∀ r : Bool, (r = true ↔ (A : Int) = A ∧ (B : Int) = B ∧ n = n ∧ ∀ i, i < n → f i = f' i) → r = ((mostN f f' n : Int) == 0)) := fun r hr => same_zero hr ⟨fun h => h.2.2.2, fun h => ⟨rfl, rfl, rfl, h⟩⟩
    have hM255 := mostN_255 o.pix o'.pix
    have HW : Hid (∀ g : Nat → Int, mostN f f' n ≤ mostN f g n + mostN g f' n) := fun g => mostN_way
    have HMo : Hid (mostN f f' n = mostN f f' n) := rfl
    clear hp hq htwo o o'
    obtain ⟨M, hM⟩ : ∃ M, mostN f f' n = M := ⟨_, rfl⟩
    rw [hM] at K2 K3 HZ hM255 HW
    have HM := hide hM
    clear hM HMo
    go_wp2_with fail
    refine (K2.out).mono ?_
    rintro e w2 ⟨rfl, hb2⟩
    have F2 := hide (F1.out.below hb2)
    have K3' := hide (K3.out w2 hb2)
    have KP' := hide (fun w' (hb : Below w2.heap.size w2 w') => KP.out w' (below_two hb2 hb))
    obtain ⟨c1, c2, c3, c4, c5, c6, c7, c8, c9, c10, c11⟩ := F2.out.cells
    clear hb2 K2 K3 KP
    go_wp2_with fail
    refine (K3'.out).mono ?_
    rintro e w3 ⟨rfl, hb3⟩
    have F3 := hide (F2.out.below hb3)
    have KP3 := hide (KP'.out w3 hb3)
    obtain ⟨c1, c2, c3, c4, c5, c6, c7, c8, c9, c10, c11⟩ := F3.out.cells
    clear hb3 K3' KP'
    go_upto_region 8 with fail
    go_cut [72] (fun t9 wx => t9 = .bool false ∧ Hid (Four w wx A B (.slice ads n caps) n f A B (.slice ads' n caps') n f' x y (.slice adt k capt) k g mx my))
    case first =>
      have q1 : ((M : Int) == (M : Int)) = true := by simp
      cases hz : ((M : Int) == 0) with
      | true =>
        rw [hz] at HZ
        have hz0 : (M : Int) = 0 := by simpa using hz
        have q3 : (M : Int) ≤ 255 := by omega
        clear hz0
        go_wp2_with fail
        refine (KP3.out).mono ?_
        rintro e w4 ⟨r, rfl, hr, hb4⟩
        obtain rfl := HZ.out r hr
        have F4 := hide (F3.out.below hb4)
        clear hb4 hr
        go_wp2
        go_meet
        exact ⟨by first | rfl | (simp; done) | (simp; omega), F4⟩
      | false =>
        rw [hz] at HZ
        have q3 : (M : Int) ≤ 255 := by omega
        go_wp2_with fail
        refine (KP3.out).mono ?_
        rintro e w4 ⟨r, rfl, hr, hb4⟩
        obtain rfl := HZ.out r hr
        have F4 := hide (F3.out.below hb4)
        clear hb4 hr
        go_wp2
        go_meet
        exact ⟨by first | rfl | (simp; done) | (simp; omega), F4⟩
    case rest =>
    obtain ⟨rfl, F4⟩ := hcut
    clear c1 c2 c3 c4 c5 c6 c7 c8 c9 c10 c11 KP3 F3 F2 F1
    obtain ⟨c1, c2, c3, c4, c5, c6, c7, c8, c9, c10, c11⟩ := F4.out.cells
    by_cases ho : picF x y k g = 0 ∧ x = A ∧ y = B
    · obtain ⟨ho, ex, ey⟩ := ho
      obtain ⟨A', B', oo⟩ := picF_zero.1 ho
      have e1 : A = A' := by have := oo.wide; omega
      have e2 : B = B' := by have := oo.high; omega
      subst e1
      subst e2
      have en : n = k := by rw [oo.many, O.out.many]
      subst en
      subst ex
      subst ey
      have K5 := hide (punlike_ok F4.out.ps F4.out.os O.out oo)
      have K6 := hide (fun w' (hb : Below wc.heap.size wc w') => punlike_ok (w := w') (F4.out.os.below hb) (F4.out.qs.below hb) oo O'.out)
      have HWg := hide (HW.out g)
      have g1 := mostN_255 O.out.pix oo.pix
      have g2 := mostN_255 oo.pix O'.out.pix
      clear ho oo
      generalize mostN f g n = c at *
      generalize mostN g f' n = d at *
      go_wp2_with fail
      refine (K5.out).mono ?_
      rintro e w5 ⟨rfl, hb5⟩
      have F5 := hide (F4.out.below hb5)
      have K6' := hide (K6.out w5 hb5)
      clear hb5 K5 K6
      obtain ⟨c1, c2, c3, c4, c5, c6, c7, c8, c9, c10, c11⟩ := F5.out.cells
      go_wp2_with fail
      refine (K6'.out).mono ?_
      rintro e w6 ⟨rfl, hb6⟩
      have F6 := hide (F5.out.below hb6)
      clear hb6 K6'
      have hway : (M : Int) ≤ (c : Int) + (d : Int) := by have := HWg.out; omega
      by_cases hf : farF mx my = 0
      · have K7 := hide (pshift_ok mx my F6.out.ps O.out hf)
        have K8 := hide (fun w' (hb : Below w6.heap.size w6 w') => pshift_ok (w := w') mx my (F6.out.qs.below hb) O'.out hf)
        obtain ⟨c1, c2, c3, c4, c5, c6, c7, c8, c9, c10, c11⟩ := F6.out.cells
        clear hf
        go_wp2_with fail
        refine (K7.out).mono ?_
        rintro e w7 ⟨v7, rfl, hv7, hb7⟩
        obtain ⟨ad7, cap7, rfl⟩ := slice_form' hv7
        obtain ⟨W7, hW7⟩ : ∃ W7, W7 = w7.alloc (.cells #[.int .i64 A, .int .i64 B, .slice ad7 n cap7] 24) := ⟨_, rfl⟩
        have b77 : Below w7.heap.size w7 W7 := hW7 ▸ (Below.refl _ _).alloc (Nat.le_refl _) _
        have P7 : Hid (PicIn W7 w7.heap.size A B (.slice ad7 n cap7)) := hide (hW7 ▸ picIn_new w7 _ _ _)
        have F7 := hide ((F6.out.below hb7).below b77)
        have V7 := hide (hv7.below b77)
        have K8' := hide (K8.out W7 (below_two hb7 b77))
        obtain ⟨c1, c2, c3, c4, c5, c6, c7, c8, c9, c10, c11⟩ := F7.out.cells
        subst hW7
        clear hb7 b77 hv7 K7 K8
        go_wp2_with fail
        refine (K8'.out).mono ?_
        rintro e w8 ⟨v8, rfl, hv8, hb8⟩
        obtain ⟨ad8, cap8, rfl⟩ := slice_form' hv8
        obtain ⟨W8, hW8⟩ : ∃ W8, W8 = w8.alloc (.cells #[.int .i64 A, .int .i64 B, .slice ad8 n cap8] 24) := ⟨_, rfl⟩
        have b88 : Below w8.heap.size w8 W8 := hW8 ▸ (Below.refl _ _).alloc (Nat.le_refl _) _
        have P8 : Hid (PicIn W8 w8.heap.size A B (.slice ad8 n cap8)) := hide (hW8 ▸ picIn_new w8 _ _ _)
        have Q8 := hide ((P7.out.below hb8).below b88)
        have F8 := hide ((F7.out.below hb8).below b88)
        have K9 := hide (punlike_ok ((V7.out.below hb8).below b88) (hv8.below b88) (O.out.shift mx my) (O'.out.shift mx my))
        have HN : Hid ((mostN (shiftN A B mx my f) (shiftN A B mx my f') n : Int) ≤ (M : Int)) := by
          unfold Hid
          rw [← HM.out, O.out.many]
          exact Int.ofNat_le.2 (mostN_shift O.out.w1 O.out.h1 mx my f f')
        generalize mostN (shiftN A B mx my f) (shiftN A B mx my f') n = N at *
        obtain ⟨⟨d0, _⟩, ⟨d1, _⟩, d2, _⟩ := P8.out
        obtain ⟨⟨d3, _⟩, ⟨d4, _⟩, d5, _⟩ := Q8.out
        subst hW8
        clear hb8 b88 hv8 K8'
        go_wp2_with fail
        refine (K9.out).mono ?_
        rintro e w9 ⟨rfl, hb9⟩
        have B9 := hide (below_two F8.out.b hb9)
        have hN := HN.out
        clear hb9
        go_wp2
        go_ret
        exact ⟨ret_bool (by first | rfl | simp <;> omega), B9.out⟩
      · have hsx : ∀ f'', PicOk A B n f'' A B → shiftF (A : Int) (B : Int) n f'' mx my = 1 := by
          intro f'' o''
          unfold shiftF
          rw [if_neg (by rw [picF_zero.2 ⟨A, B, o''⟩]; decide)]
          unfold farF at hf ⊢
          split
          · rfl
          · rename_i c; rw [if_neg c] at hf; exact absurd rfl hf
        have K7 := hide (pshift_bad (A : Int) (B : Int) mx my F6.out.ps (by rw [hsx f O.out]; decide))
        rw [hsx f O.out, errN_one] at K7
        have K8 := hide (fun w' (hb : Below w6.heap.size w6 w') => pshift_bad (w := w') (A : Int) (B : Int) mx my (F6.out.qs.below hb) (by rw [hsx f' O'.out]; decide))
        rw [hsx f' O'.out, errN_one] at K8
        obtain ⟨c1, c2, c3, c4, c5, c6, c7, c8, c9, c10, c11⟩ := F6.out.cells
        clear hf hsx
        go_wp2_with fail
        refine (K7.out).mono ?_
        rintro e w7 ⟨rfl, hb7⟩
        obtain ⟨W7, hW7⟩ : ∃ W7, W7 = w7.alloc (.cells #[.int .i64 0, .int .i64 0, .slice none 0 0] 24) := ⟨_, rfl⟩
        have b77 : Below w7.heap.size w7 W7 := hW7 ▸ (Below.refl _ _).alloc (Nat.le_refl _) _
        have F7 := hide ((F6.out.below hb7).below b77)
        have K8' := hide (K8.out W7 (below_two hb7 b77))
        obtain ⟨c1, c2, c3, c4, c5, c6, c7, c8, c9, c10, c11⟩ := F7.out.cells
        subst hW7
        clear hb7 b77 K7 K8
        go_wp2_with fail
        refine (K8'.out).mono ?_
        rintro e w8 ⟨rfl, hb8⟩
        have b88 : Below w8.heap.size w8 (w8.alloc (.cells #[.int .i64 0, .int .i64 0, .slice none 0 0] 24)) := (Below.refl _ _).alloc (Nat.le_refl _) _
        have B9 := hide (below_two (below_two F7.out.b hb8) b88)
        clear hb8 b88
        go_wp2
        go_ret
        exact ⟨ret_bool (by first | rfl | simp), B9.out⟩
    · have hx1 : twoF (A : Int) (B : Int) n f x y k g ≠ 0 := fun h => ho (by have := twoF_zero.1 h; exact ⟨this.2.1, this.2.2.1.symm, this.2.2.2.symm⟩)
      have hx2 : twoF x y k g (A : Int) (B : Int) n f' ≠ 0 := fun h => ho (by have := twoF_zero.1 h; exact ⟨this.1, this.2.2.1, this.2.2.2⟩)
      have K5 := hide (punlike_bad (A : Int) (B : Int) x y F4.out.ps F4.out.os hx1)
      have K6 := hide (fun w' (hb : Below wc.heap.size wc w') => punlike_bad (w := w') x y (A : Int) (B : Int) (F4.out.os.below hb) (F4.out.qs.below hb) hx2)
      rw [errN_pos hx1] at K5
      rw [errN_pos hx2] at K6
      clear hx1 hx2 ho
      generalize twoF (A : Int) (B : Int) n f x y k g = fl1 at *
      generalize twoF x y k g (A : Int) (B : Int) n f' = fl2 at *
      go_wp2_with fail
      refine (K5.out).mono ?_
      rintro e w5 ⟨rfl, hb5⟩
      have F5 := hide (F4.out.below hb5)
      have K6' := hide (K6.out w5 hb5)
      clear hb5 K5 K6
      obtain ⟨c1, c2, c3, c4, c5, c6, c7, c8, c9, c10, c11⟩ := F5.out.cells
      go_wp2_with fail
      refine (K6'.out).mono ?_
      rintro e w6 ⟨rfl, hb6⟩
      have F6 := hide (F5.out.below hb6)
      clear hb6 K6'
      by_cases hf : farF mx my = 0
      · have K7 := hide (pshift_ok mx my F6.out.ps O.out hf)
        have K8 := hide (fun w' (hb : Below w6.heap.size w6 w') => pshift_ok (w := w') mx my (F6.out.qs.below hb) O'.out hf)
        obtain ⟨c1, c2, c3, c4, c5, c6, c7, c8, c9, c10, c11⟩ := F6.out.cells
        clear hf
        go_wp2_with fail
        refine (K7.out).mono ?_
        rintro e w7 ⟨v7, rfl, hv7, hb7⟩
        obtain ⟨ad7, cap7, rfl⟩ := slice_form' hv7
        obtain ⟨W7, hW7⟩ : ∃ W7, W7 = w7.alloc (.cells #[.int .i64 A, .int .i64 B, .slice ad7 n cap7] 24) := ⟨_, rfl⟩
        have b77 : Below w7.heap.size w7 W7 := hW7 ▸ (Below.refl _ _).alloc (Nat.le_refl _) _
        have P7 : Hid (PicIn W7 w7.heap.size A B (.slice ad7 n cap7)) := hide (hW7 ▸ picIn_new w7 _ _ _)
        have F7 := hide ((F6.out.below hb7).below b77)
        have V7 := hide (hv7.below b77)
        have K8' := hide (K8.out W7 (below_two hb7 b77))
        obtain ⟨c1, c2, c3, c4, c5, c6, c7, c8, c9, c10, c11⟩ := F7.out.cells
        subst hW7
        clear hb7 b77 hv7 K7 K8
        go_wp2_with fail
        refine (K8'.out).mono ?_
        rintro e w8 ⟨v8, rfl, hv8, hb8⟩
        obtain ⟨ad8, cap8, rfl⟩ := slice_form' hv8
        obtain ⟨W8, hW8⟩ : ∃ W8, W8 = w8.alloc (.cells #[.int .i64 A, .int .i64 B, .slice ad8 n cap8] 24) := ⟨_, rfl⟩
        have b88 : Below w8.heap.size w8 W8 := hW8 ▸ (Below.refl _ _).alloc (Nat.le_refl _) _
        have P8 : Hid (PicIn W8 w8.heap.size A B (.slice ad8 n cap8)) := hide (hW8 ▸ picIn_new w8 _ _ _)
        have Q8 := hide ((P7.out.below hb8).below b88)
        have F8 := hide ((F7.out.below hb8).below b88)
        have K9 := hide (punlike_ok ((V7.out.below hb8).below b88) (hv8.below b88) (O.out.shift mx my) (O'.out.shift mx my))
        have HN : Hid ((mostN (shiftN A B mx my f) (shiftN A B mx my f') n : Int) ≤ (M : Int)) := by
          unfold Hid
          rw [← HM.out, O.out.many]
          exact Int.ofNat_le.2 (mostN_shift O.out.w1 O.out.h1 mx my f f')
        generalize mostN (shiftN A B mx my f) (shiftN A B mx my f') n = N at *
        obtain ⟨⟨d0, _⟩, ⟨d1, _⟩, d2, _⟩ := P8.out
        obtain ⟨⟨d3, _⟩, ⟨d4, _⟩, d5, _⟩ := Q8.out
        subst hW8
        clear hb8 b88 hv8 K8'
        go_wp2_with fail
        refine (K9.out).mono ?_
        rintro e w9 ⟨rfl, hb9⟩
        have B9 := hide (below_two F8.out.b hb9)
        have hN := HN.out
        clear hb9
        go_wp2
        go_ret
        exact ⟨ret_bool (by first | rfl | simp <;> omega), B9.out⟩
      · have hsx : ∀ f'', PicOk A B n f'' A B → shiftF (A : Int) (B : Int) n f'' mx my = 1 := by
          intro f'' o''
          unfold shiftF
          rw [if_neg (by rw [picF_zero.2 ⟨A, B, o''⟩]; decide)]
          unfold farF at hf ⊢
          split
          · rfl
          · rename_i c; rw [if_neg c] at hf; exact absurd rfl hf
        have K7 := hide (pshift_bad (A : Int) (B : Int) mx my F6.out.ps (by rw [hsx f O.out]; decide))
        rw [hsx f O.out, errN_one] at K7
        have K8 := hide (fun w' (hb : Below w6.heap.size w6 w') => pshift_bad (w := w') (A : Int) (B : Int) mx my (F6.out.qs.below hb) (by rw [hsx f' O'.out]; decide))
        rw [hsx f' O'.out, errN_one] at K8
        obtain ⟨c1, c2, c3, c4, c5, c6, c7, c8, c9, c10, c11⟩ := F6.out.cells
        clear hf hsx
        go_wp2_with fail
        refine (K7.out).mono ?_
        rintro e w7 ⟨rfl, hb7⟩
        obtain ⟨W7, hW7⟩ : ∃ W7, W7 = w7.alloc (.cells #[.int .i64 0, .int .i64 0, .slice none 0 0] 24) := ⟨_, rfl⟩
        have b77 : Below w7.heap.size w7 W7 := hW7 ▸ (Below.refl _ _).alloc (Nat.le_refl _) _
        have F7 := hide ((F6.out.below hb7).below b77)
        have K8' := hide (K8.out W7 (below_two hb7 b77))
        obtain ⟨c1, c2, c3, c4, c5, c6, c7, c8, c9, c10, c11⟩ := F7.out.cells
        subst hW7
        clear hb7 b77 K7 K8
        go_wp2_with fail
        refine (K8'.out).mono ?_
        rintro e w8 ⟨rfl, hb8⟩
        have b88 : Below w8.heap.size w8 (w8.alloc (.cells #[.int .i64 0, .int .i64 0, .slice none 0 0] 24)) := (Below.refl _ _).alloc (Nat.le_refl _) _
        have B9 := hide (below_two (below_two F7.out.b hb8) b88)
        clear hb8 b88
        go_wp2
        go_ret
        exact ⟨ret_bool (by first | rfl | simp), B9.out⟩
  · have K2 := hide (punlike_bad a b a' b' F1.out.ps F1.out.qs htwo)
    rw [errN_pos htwo] at K2
    clear htwo
    generalize twoF a b n f a' b' n' f' = fl at *
    go_wp2_with fail
    refine (K2.out).mono ?_
    rintro e w2 ⟨rfl, hb2⟩
    have B2 := hide (below_two F1.out.b hb2)
    clear hb2
    go_wp2
    go_ret
    exact ⟨rfl, B2.out⟩
end Go.Proofs.Ytikkpppkjfploaa
