/-
  Lemmas for the law above, joined into one text (FlTa, FlT, FlR, RegK). No statement is proved here.
-/
import Derived.Test.YtjhflcgphejddaaDoorHG1
import Derived.Test.YtjhflcgphejddaaDoorHG2
import Derived.Test.YtjhflcgphejddaaDoorHG12
import Derived.Test.YtjhflcgphejddaaDoorHG14
import Derived.Deep.DeepCutAuto
import Derived.Test.YtjhflcgphejddaaDoorHG9
import Derived.Test.YtjhflcgphejddaaDoorHG4
import Derived.Laws.OwnMore
import Derived.Deep.AppendLies
import Derived.Deep.OwnRows
import Derived.Test.YtjhflcgphejddaaDoorHG0
import Derived.RegionTactic
import Derived.OrdersHeld
import Derived.Deep.MidRow
namespace Go.Proofs.YtjhflcgphejddaaDoor
open Go.RowKit Go.Maps
set_option linter.unusedVariables false
set_option maxRecDepth 100000

theorem adec_all {w : World} {v : Value} {n : Nat} {f : Nat → Int} (a b s : Int) (h : IntsIn w v n f) :
    Calls Tryd.prog 47 #[.int .i64 a, .int .i64 b, .int .i64 s, v] w fun e w' => ∃ ad cp, e = .returned (.tuple #[.agg #[.int .i64 (deX a b s n f), .int .i64 (deY a b s n f), .slice ad (deM a b s n f) cp], errN (decF a b s n f)]) ∧ IntsIn w' (.slice ad (deM a b s n f) cp) (deM a b s n f) (deG a s f) ∧ Below w.heap.size w w' ∧ ∀ k, (Value.slice ad (deM a b s n f) cp).ownBlock = some k → w.heap.size ≤ k := by
  by_cases hx : decF a b s n f = 0
  · obtain ⟨A, B, o⟩ := decF_zero.1 hx
    refine (adec_ok h o).mono ?_
    rintro e w' ⟨u, rfl, hu, hb, hn⟩
    obtain ⟨ad, cp, rfl⟩ := slice_shape hu
    have e1 : deX a b s n f = a := if_pos hx
    have e2 : deY a b s n f = b := if_pos hx
    have e3 : deM a b s n f = n := if_pos hx
    have e4 : deG a s f = tellF A s fun i _ => f i := by unfold deG; rw [o.wide]; rfl
    rw [e1, e2, e3, e4, hx]
    exact ⟨ad, cp, rfl, hu, hb, hn⟩
  · refine (adec_bad a b s h hx).mono ?_
    rintro e w' ⟨rfl, hb⟩
    have e1 : deX a b s n f = 0 := if_neg hx
    have e2 : deY a b s n f = 0 := if_neg hx
    have e3 : deM a b s n f = 0 := if_neg hx
    rw [e1, e2, e3]
    exact ⟨none, 0, rfl, Or.inl ⟨rfl, _, _, rfl⟩, hb, fun k h => by cases h⟩
theorem mdec_all {w : World} {s s' : Value} {n n' : Nat} {f f' : Nat → Int} (a b : Int) (al : Bool) (x y st : Int) (h : IntsIn w s n f) (h' : IntsIn w s' n' f') :
    Calls Tryd.prog 46 #[.agg #[.int .i64 a, .int .i64 b, s], .agg #[.bool al, .int .i64 x, .int .i64 y, s'], .int .i64 st] w fun e w' => ∃ ad cp, e = .returned (.tuple #[.agg #[.int .i64 (mdX a b n f al x y n' f' st), .int .i64 (mdY a b n f al x y n' f' st), .slice ad (mdM a b n f al x y n' f' st) cp], errN (mdeF a b n f al x y n' f' st)]) ∧ IntsIn w' (.slice ad (mdM a b n f al x y n' f' st) cp) (mdM a b n f al x y n' f' st) (mdG a b f x y f' st) ∧ Below w.heap.size w w' ∧ ∀ k, (Value.slice ad (mdM a b n f al x y n' f' st) cp).ownBlock = some k → w.heap.size ≤ k := by
  by_cases hx : mdeF a b n f al x y n' f' st = 0
  · obtain ⟨hp, ⟨s1, s2⟩, hc⟩ := mdeF_zero.1 hx
    obtain ⟨A, B, o⟩ := picF_zero.1 hp
    obtain ⟨rfl, hm, hn, hr⟩ := chkF_zero.1 hc
    obtain rfl : n' = n := by omega
    refine (mdec_new x y st h h' o s1 s2 hm hr).mono ?_
    rintro e w' ⟨u, rfl, hu, hb, hn⟩
    obtain ⟨ad, cp, rfl⟩ := slice_shape hu
    have e1 : mdX a b n' f false x y n' f' st = a := if_pos hx
    have e2 : mdY a b n' f false x y n' f' st = b := if_pos hx
    have e3 : mdM a b n' f false x y n' f' st = n' := if_pos hx
    have e4 : mdG a b f x y f' st = toldF (shiftN A B x y f) f' st := by unfold mdG; rw [o.wide, o.high]; rfl
    rw [e1, e2, e3, e4, hx]
    exact ⟨ad, cp, rfl, hu, hb, hn⟩
  · refine (mdec_bad a b al x y st h h' hx).mono ?_
    rintro e w' ⟨rfl, hb⟩
    have e1 : mdX a b n f al x y n' f' st = 0 := if_neg hx
    have e2 : mdY a b n f al x y n' f' st = 0 := if_neg hx
    have e3 : mdM a b n f al x y n' f' st = 0 := if_neg hx
    rw [e1, e2, e3]
    exact ⟨none, 0, rfl, Or.inl ⟨rfl, _, _, rfl⟩, hb, fun k h => by cases h⟩
end Go.Proofs.YtjhflcgphejddaaDoor

namespace Go.Proofs.YtjhflcgphejddaaDoor
open Go.RowKit Go.Maps
set_option linter.unusedVariables false
set_option maxRecDepth 100000

set_option maxHeartbeats 4000000 in
theorem ftell_any {w : World} {s s' : Value} {n n' : Nat} {f f' : Nat → Int} {E : Nat × Pc} (a b : Int) (al : Bool) (x y st : Int) (h : IntsIn w s n f) (h' : IntsIn w s' n' f') (hE : stpK st ⟨al, x, y, n', f'⟩ ⟨a, b, n, f⟩ = E) :
    Calls Tryd.prog 29 #[.agg #[.int .i64 a, .int .i64 b, s], .agg #[.bool al, .int .i64 x, .int .i64 y, s'], .int .i64 st] w fun e w' => ∃ ad cp, e = .returned (.tuple #[.agg #[.int .i64 E.2.a, .int .i64 E.2.b, .slice ad E.2.n cp], errN E.1]) ∧ IntsIn w' (.slice ad E.2.n cp) E.2.n E.2.f ∧ Below w.heap.size w w' ∧ ∀ k, (Value.slice ad E.2.n cp).ownBlock = some k → w.heap.size ≤ k := by
  obtain ⟨W1, hW1⟩ : ∃ W1, W1 = w.alloc (.cells #[.int .i64 a, .int .i64 b, s] 46) := ⟨_, rfl⟩
  obtain ⟨W2, hW2⟩ : ∃ W2, W2 = W1.alloc (.cells #[.bool al, .int .i64 x, .int .i64 y, s'] 40) := ⟨_, rfl⟩
  obtain ⟨W3, hW3⟩ : ∃ W3, W3 = W2.alloc (.cells #[.int .i64 0, .int .i64 0, .slice none 0 0] 46) := ⟨_, rfl⟩
  have b1 : Below w.heap.size w W1 := hW1 ▸ (Below.refl _ _).alloc (Nat.le_refl _) _
  have b12 : Below W1.heap.size W1 W2 := hW2 ▸ (Below.refl _ _).alloc (Nat.le_refl _) _
  have b23 : Below W2.heap.size W2 W3 := hW3 ▸ (Below.refl _ _).alloc (Nat.le_refl _) _
  have b3 := below_two (below_two b1 b12) b23
  have z1 : W1.heap.size = w.heap.size + 1 := by rw [hW1]; simp
  have z2 : W2.heap.size = w.heap.size + 1 + 1 := by rw [hW2]; simp [z1]
  have z3 : W3.heap.size = w.heap.size + 1 + 1 + 1 := by rw [hW3]; simp [z2]
  have p1 : PicIn W3 w.heap.size a b s := PicIn.below (hW1 ▸ picIn_new w a b s) (below_two b12 b23)
  have p2 : CodIn W3 (w.heap.size + 1) al x y s' := by
    have := codIn_new W1 al x y s'
    rw [← hW2, z1] at this
    exact this.below b23
  have p3 : PicIn W3 (w.heap.size + 1 + 1) 0 0 (.slice none 0 0) := by
    have := picIn_new W2 0 0 (.slice none 0 0)
    rw [← hW3, z2] at this
    exact this
  have B3 := hide b3
  have P3 := hide p3
  have Z3 := hide z3
  have HI := hide (h.below b3)
  have HJ := hide (h'.below b3)
  obtain ⟨ads, caps, rfl⟩ := slice_shape h
  obtain ⟨ads', caps', rfl⟩ := slice_shape h'
  obtain ⟨⟨c0, _⟩, ⟨c1, _⟩, c2, _⟩ := p1
  have P2 := hide p2
  obtain ⟨d0, d1, d2, d3, _, _, _, _⟩ := p2
  clear h h' b1 b12 b23 b3 z1 z2 z3 p3
  -- what is left, once the picture told lies there
  have HR : Hid (∀ (w2 : World) (X Y : Int) (M : Nat) (ad : Option Addr) (cp : Nat) (G : Nat → Int), IntsIn w2 (.slice ad M cp) M G → Below W3.heap.size W3 w2 → (∀ k, (Value.slice ad M cp).ownBlock = some k → W3.heap.size ≤ k) →
      PicIn (((w2.setCell ⟨w.heap.size + 1 + 1, 0, none⟩ (.int .i64 X)).setCell ⟨w.heap.size + 1 + 1, 1, none⟩ (.int .i64 Y)).setCell ⟨w.heap.size + 1 + 1, 2, none⟩ (.slice ad M cp)) (w.heap.size + 1 + 1) X Y (.slice ad M cp)
      ∧ IntsIn (((w2.setCell ⟨w.heap.size + 1 + 1, 0, none⟩ (.int .i64 X)).setCell ⟨w.heap.size + 1 + 1, 1, none⟩ (.int .i64 Y)).setCell ⟨w.heap.size + 1 + 1, 2, none⟩ (.slice ad M cp)) (.slice ad M cp) M G
      ∧ Below w.heap.size w (((w2.setCell ⟨w.heap.size + 1 + 1, 0, none⟩ (.int .i64 X)).setCell ⟨w.heap.size + 1 + 1, 1, none⟩ (.int .i64 Y)).setCell ⟨w.heap.size + 1 + 1, 2, none⟩ (.slice ad M cp))
      ∧ (∀ k, (Value.slice ad M cp).ownBlock = some k → w.heap.size ≤ k)) := fun w2 X Y M ad cp G hi hb hn => by
    have hz := Z3.out
    have hne : ∀ k, (Value.slice ad M cp).ownBlock = some k → k ≠ w.heap.size + 1 + 1 := fun k e => by have := hn k e; omega
    exact ⟨(P3.out.below hb).put X Y _, ints_set (o := 2) (ints_set (o := 1) (ints_set (o := 0) hi hne (.int .i64 X)) hne (.int .i64 Y)) hne (.slice ad M cp),
      ((((below_two B3.out hb).setCell (by show w.heap.size ≤ w.heap.size + 1 + 1; omega) _).setCell (by show w.heap.size ≤ w.heap.size + 1 + 1; omega) _).setCell (by show w.heap.size ≤ w.heap.size + 1 + 1; omega) _),
      fun k e => by have := hn k e; omega⟩
  cases al with
  | false =>
    have HE : Hid (E = (mdeF a b n f false x y n' f' st, ⟨mdX a b n f false x y n' f' st, mdY a b n f false x y n' f' st, mdM a b n f false x y n' f' st, mdG a b f x y f' st⟩)) := by
      unfold Hid; rw [← hE]; rfl
    have K := hide (mdec_all a b false x y st HI.out HJ.out)
    clear hE HI HJ
    generalize mdeF a b n f false x y n' f' st = df at *
    generalize mdX a b n f false x y n' f' st = dx at *
    generalize mdY a b n f false x y n' f' st = dy at *
    generalize mdM a b n f false x y n' f' st = dm at *
    generalize mdG a b f x y f' st = dg at *
    subst hW3
    subst hW2
    subst hW1
    go_enter Tryd.func29, Tryd.ntmps29
    go_wp2_with fail
    refine (K.out).mono ?_
    rintro e w2 ⟨ad, cp, rfl, hi, hb, hn⟩
    obtain ⟨⟨k0, g0⟩, ⟨k1, g1⟩, k2, g2⟩ := P3.out.below hb
    have HX := hide (HR.out w2 dx dy dm ad cp dg hi hb hn)
    clear hi hb hn K
    go_wp2
    obtain ⟨hp9, hi9, hb9, hn9⟩ := HX.out
    obtain ⟨⟨q0, _⟩, ⟨q1, _⟩, q2, _⟩ := hp9
    refine bodyPost_ret (v := .tuple #[.agg #[.int .i64 dx, .int .i64 dy, .slice ad dm cp], errN df]) (by simp [results, Tryd.results29, go_sem, q0, q1, q2]) rfl ?_
    rw [HE.out]
    exact ⟨ad, cp, rfl, hi9, hb9, hn9⟩
  | true =>
    by_cases hx : x = 0
    · by_cases hy : y = 0
      · subst hx hy
        have HE : Hid (E = (decF a b st n' f', ⟨deX a b st n' f', deY a b st n' f', deM a b st n' f', deG a st f'⟩)) := by
          unfold Hid; rw [← hE]; rfl
        have K := hide (adec_all a b st HJ.out)
        clear hE HI HJ
        generalize decF a b st n' f' = df at *
        generalize deX a b st n' f' = dx at *
        generalize deY a b st n' f' = dy at *
        generalize deM a b st n' f' = dm at *
        generalize deG a st f' = dg at *
        have q0 : ((0 : Int) == 0) = true := rfl
        subst hW3
        subst hW2
        subst hW1
        go_enter Tryd.func29, Tryd.ntmps29
        go_wp2_with fail
        refine (K.out).mono ?_
        rintro e w2 ⟨ad, cp, rfl, hi, hb, hn⟩
        obtain ⟨⟨k0, g0⟩, ⟨k1, g1⟩, k2, g2⟩ := P3.out.below hb
        have HX := hide (HR.out w2 dx dy dm ad cp dg hi hb hn)
        clear hi hb hn K
        go_wp2
        obtain ⟨hp9, hi9, hb9, hn9⟩ := HX.out
        obtain ⟨⟨q0, _⟩, ⟨q1, _⟩, q2, _⟩ := hp9
        refine bodyPost_ret (v := .tuple #[.agg #[.int .i64 dx, .int .i64 dy, .slice ad dm cp], errN df]) (by simp [results, Tryd.results29, go_sem, q0, q1, q2]) rfl ?_
        rw [HE.out]
        exact ⟨ad, cp, rfl, hi9, hb9, hn9⟩
      · subst hx
        have HE : Hid (E = (3, Pc.none)) := by
          unfold Hid; rw [← hE]; unfold stpK stpC
          rw [if_pos rfl, if_pos (Or.inr hy)]
        have q0 : (y == 0) = false := by rw [beq_eq_false_iff_ne]; exact hy
        have q1 : (y != 0) = true := by simp [bne, q0]
        obtain ⟨⟨k0, g0⟩, ⟨k1, g1⟩, k2, g2⟩ := P3.out
        clear hE HI HJ hy
        subst hW3
        subst hW2
        subst hW1
        go_enter Tryd.func29, Tryd.ntmps29
        go_wp2
        refine bodyPost_ret (v := .tuple #[.agg #[.int .i64 0, .int .i64 0, .slice none 0 0], errN 3]) (by first | (simp [results, Tryd.results29, go_sem]; done) | (simp [results, Tryd.results29, go_sem]; rfl)) rfl ?_
        rw [HE.out]
        exact ⟨none, 0, rfl, Or.inl ⟨rfl, _, _, rfl⟩, B3.out, fun k e => by cases e⟩
    · have HE : Hid (E = (3, Pc.none)) := by
        unfold Hid; rw [← hE]; unfold stpK stpC
        rw [if_pos rfl, if_pos (Or.inl hx)]
      have q0 : (x == 0) = false := by rw [beq_eq_false_iff_ne]; exact hx
      have q1 : (x != 0) = true := by simp [bne, q0]
      obtain ⟨⟨k0, g0⟩, ⟨k1, g1⟩, k2, g2⟩ := P3.out
      clear hE HI HJ hx
      subst hW3
      subst hW2
      subst hW1
      go_enter Tryd.func29, Tryd.ntmps29
      go_wp2
      refine bodyPost_ret (v := .tuple #[.agg #[.int .i64 0, .int .i64 0, .slice none 0 0], errN 3]) (by first | (simp [results, Tryd.results29, go_sem]; done) | (simp [results, Tryd.results29, go_sem]; rfl)) rfl ?_
      rw [HE.out]
      exact ⟨none, 0, rfl, Or.inl ⟨rfl, _, _, rfl⟩, B3.out, fun k e => by cases e⟩
end Go.Proofs.YtjhflcgphejddaaDoor

namespace Go.Proofs.YtjhflcgphejddaaDoor
open Go.RowKit
set_option linter.unusedVariables false
set_option maxRecDepth 100000

/-- The cells of a row of structs: some heads, and a slice behind each. -/
def rowV (hd : Nat → List Value) (S : Nat → Value) (N : Nat) : List Value := (List.range N).flatMap fun i => hd i ++ [S i]
theorem rowV_succ (hd : Nat → List Value) (S : Nat → Value) (N : Nat) : rowV hd S (N + 1) = rowV hd S N ++ (hd N ++ [S N]) := by simp [rowV, List.range_succ]
theorem rowV_len {hd : Nat → List Value} {S : Nat → Value} {z : Nat} : ∀ {N}, (∀ i, i < N → (hd i).length = z) → (rowV hd S N).length = N * (z + 1)
  | 0, _ => by simp [rowV]
  | N + 1, h => by
    rw [rowV_succ, List.length_append, rowV_len (fun i hi => h i (by omega)), List.length_append, h N (by omega), Nat.succ_mul]
    simp
theorem rowV_at {hd : Nat → List Value} {S : Nat → Value} {z : Nat} : ∀ {N}, (∀ i, i < N → (hd i).length = z) → ∀ {i j}, i < N → j < z + 1 → (rowV hd S N)[i * (z + 1) + j]? = (hd i ++ [S i])[j]?
  | 0, _, i, j, hi, _ => absurd hi (Nat.not_lt_zero _)
  | N + 1, h, i, j, hi, hj => by
    have hlen := rowV_len (hd := hd) (S := S) (N := N) (fun i hi => h i (by omega))
    rw [rowV_succ]
    by_cases c : i = N
    · subst c
      rw [List.getElem?_append_right (by rw [hlen]; omega), hlen]
      congr 1
      omega
    · have h1 : i * (z + 1) + j < N * (z + 1) := by
        have : (i + 1) * (z + 1) ≤ N * (z + 1) := Nat.mul_le_mul (by omega) (Nat.le_refl _)
        rw [Nat.succ_mul] at this
        omega
      rw [List.getElem?_append_left (by rw [hlen]; exact h1)]
      exact rowV_at (fun i hi => h i (by omega)) (by omega) hj

/-- A row of structs that a call owns, with what their slices hold: all in blocks from B on, none in the row's own. -/
structure RowS (w : World) (B : Nat) (e : TypeId) (z : Nat) (v : Value) (N : Nat) (hd : Nat → List Value) (S : Nat → Value) (n : Nat → Nat) (f : Nat → Nat → Int) : Prop where
  own : w.ownsRow B e (z + 1) v N (rowV hd S N)
  hl : ∀ i, i < N → (hd i).length = z
  ints : ∀ i, i < N → IntsIn w (S i) (n i) (f i)
  new : ∀ i, i < N → 0 < n i → ∀ k, (S i).ownBlock = some k → B ≤ k
  off : ∀ i, i < N → 0 < n i → ∀ k, (S i).ownBlock = some k → v.ownBlock ≠ some k
theorem rowS_nil (w : World) (B : Nat) (e : TypeId) (z : Nat) (hd : Nat → List Value) (S : Nat → Value) (n : Nat → Nat) (f : Nat → Nat → Int) : RowS w B e z (.slice none 0 0) 0 hd S n f :=
  ⟨World.ownsRow_nil _ _ _ _, fun i hi => absurd hi (Nat.not_lt_zero _), fun i hi => absurd hi (Nat.not_lt_zero _), fun i hi => absurd hi (Nat.not_lt_zero _), fun i hi => absurd hi (Nat.not_lt_zero _)⟩
theorem own_below {w w' : World} {B e size n : Nat} {v : Value} {xs : List Value} (h : w.ownsRow B e size v n xs) (hb : Below w.heap.size w w') : w'.ownsRow B e size v n xs := by
  refine ⟨h.1, ?_⟩
  rcases h.2 with hn | ⟨g, cap, cur, hv, h1, hgg, rest⟩
  · exact .inl hn
  · exact .inr ⟨g, cap, cur, hv, h1, (hb.block g (Array.getElem?_eq_some_iff.1 hgg).1).trans hgg, rest⟩
theorem ints_block {w : World} {v : Value} {n : Nat} {f : Nat → Int} (h : IntsIn w v n f) (h0 : 0 < n) : ∃ k, v.ownBlock = some k ∧ k < w.heap.size := by
  rcases h with ⟨h, _⟩ | ⟨_, b, o, c, rfl, hc⟩
  · omega
  · exact ⟨b, rfl, cell_lt (hc 0 h0)⟩
theorem ints_other {w w' : World} {v : Value} {n : Nat} {f : Nat → Int} (h : IntsIn w v n f) (hk : 0 < n → ∀ k, v.ownBlock = some k → w'.heap[k]? = w.heap[k]?) : IntsIn w' v n f := by
  rcases h with h | ⟨h0, b, o, c, rfl, hc⟩
  · exact Or.inl h
  · refine Or.inr ⟨h0, b, o, c, rfl, fun i hi => ?_⟩
    rw [World.cell?_of_block (w := w) (hk h0 b rfl)]
    exact hc i hi
section
variable {w : World} {B : Nat} {e : TypeId} {z : Nat} {v : Value} {N : Nat} {hd : Nat → List Value} {S : Nat → Value} {n : Nat → Nat} {f : Nat → Nat → Int}
theorem RowS.below (h : RowS w B e z v N hd S n f) {w' : World} (hb : Below w.heap.size w w') : RowS w' B e z v N hd S n f :=
  ⟨own_below h.own hb, h.hl, fun i hi => (h.ints i hi).below hb, h.new, h.off⟩
theorem RowS.set (h : RowS w B e z v N hd S n f) {b : Nat} (hb : b < B) (o : Nat) (u : Value) : RowS (w.setCell ⟨b, o, none⟩ u) B e z v N hd S n f := by
  have hk : ∀ k, k ≠ b → (w.setCell ⟨b, o, none⟩ u).heap[k]? = w.heap[k]? := fun k hk => Below.heap_setCell w _ _ _ hk
  refine ⟨⟨h.own.1, ?_⟩, h.hl, fun i hi => ints_other (h.ints i hi) (fun h0 k e => hk k (by have := h.new i hi h0 k e; omega)), h.new, h.off⟩
  rcases h.own.2 with hn | ⟨g, cap, cur, hv, h1, hgg, rest⟩
  · exact .inl hn
  · exact .inr ⟨g, cap, cur, hv, h1, (hk g (by omega)).trans hgg, rest⟩
/-- One more, by append: its cells were laid in a block of their own. -/
theorem RowS.snoc (h : RowS w B e z v N hd S n f) {o : Obj} {w5 : World} {g cap : Nat} (hown : w5.ownsRow B e (z + 1) (.slice (some ⟨g, 0, none⟩) (N + 1) cap) (N + 1) (rowV hd S N ++ (hd N ++ [S N]))) (hgrow : (w.alloc o).grownBy w5 v.ownBlock) (hat : v.ownBlock = some g ∨ g = (w.alloc o).heap.size)
    (hl : (hd N).length = z) (hi : IntsIn w (S N) (n N) (f N)) (hnew : 0 < n N → ∀ k, (S N).ownBlock = some k → B ≤ k) (hoff : 0 < n N → ∀ k, (S N).ownBlock = some k → v.ownBlock ≠ some k) :
    RowS w5 B e z (.slice (some ⟨g, 0, none⟩) (N + 1) cap) (N + 1) hd S n f := by
  have hal : ∀ k, k < w.heap.size → (w.alloc o).heap[k]? = w.heap[k]? := fun k hk => ((Below.refl w.heap.size w).alloc (Nat.le_refl _) o).block k hk
  have hsz : (w.alloc o).heap.size = w.heap.size + 1 := by simp
  have hall : ∀ i, i < N + 1 → IntsIn w (S i) (n i) (f i) ∧ (0 < n i → ∀ k, (S i).ownBlock = some k → B ≤ k ∧ v.ownBlock ≠ some k) := fun i hi' => by
    by_cases c : i = N
    · subst c; exact ⟨hi, fun h0 k e => ⟨hnew h0 k e, hoff h0 k e⟩⟩
    · exact ⟨h.ints i (by omega), fun h0 k e => ⟨h.new i (by omega) h0 k e, h.off i (by omega) h0 k e⟩⟩
  have hlt : ∀ i, i < N + 1 → 0 < n i → ∀ k, (S i).ownBlock = some k → k < w.heap.size := fun i hi' h0 k e => by
    obtain ⟨k', e', hk'⟩ := ints_block (hall i hi').1 h0
    rw [e] at e'
    cases e'
    exact hk'
  refine ⟨by rw [rowV_succ]; exact hown, fun i hi' => ?_, fun i hi' => ?_, fun i hi' h0 k e => ((hall i hi').2 h0 k e).1, fun i hi' h0 k e => ?_⟩
  · by_cases c : i = N
    · subst c; exact hl
    · exact h.hl i (by omega)
  · refine ints_other (hall i hi').1 (fun h0 k e => ?_)
    have h1 := hlt i hi' h0 k e
    rw [hgrow.block k (by omega) (fun e2 => ((hall i hi').2 h0 k e).2 e2.symm), hal k h1]
  · intro e2
    have e3 : g = k := by simpa [Value.ownBlock] using e2
    subst e3
    rcases hat with hat | hat
    · exact ((hall i hi').2 h0 g e).2 hat
    · have := hlt i hi' h0 g e; omega
theorem RowS.congr (h : RowS w B e z v N hd S n f) {hd' : Nat → List Value} {S' : Nat → Value} {n' : Nat → Nat} {f' : Nat → Nat → Int} (e1 : ∀ i, i < N → hd i = hd' i) (e2 : ∀ i, i < N → S i = S' i) (e3 : ∀ i, i < N → n i = n' i) (e4 : ∀ i, i < N → f i = f' i) : RowS w B e z v N hd' S' n' f' := by
  have e : rowV hd S N = rowV hd' S' N := by
    unfold rowV
    apply congrArg List.flatten
    apply List.map_congr_left
    intro i hi
    have := List.mem_range.1 hi
    rw [e1 i this, e2 i this]
  exact ⟨e ▸ h.own, fun i hi => by rw [← e1 i hi]; exact h.hl i hi, fun i hi => by rw [← e2 i hi, ← e3 i hi, ← e4 i hi]; exact h.ints i hi, fun i hi => by rw [← e2 i hi, ← e3 i hi]; exact h.new i hi, fun i hi => by rw [← e2 i hi, ← e3 i hi]; exact h.off i hi⟩
/-- Where a struct's cells lie. -/
theorem RowS.cells (h : RowS w B e z v N hd S n f) (h0 : 0 < N) : ∃ g cap, v = .slice (some ⟨g, 0, none⟩) N cap ∧ N ≤ cap ∧ cap ≤ maxLen ∧ ∀ i j, i < N → j < z + 1 → w.cell? ⟨g, 0 + i * (z + 1) + j, none⟩ = (hd i ++ [S i])[j]? := by
  have h' := h.own
  rcases h.own.2 with ⟨_, hn⟩ | ⟨g, cap, cur, hv, _, hgg, h1, h2, _⟩
  · omega
  · refine ⟨g, cap, hv, h1, h2, fun i j hi hj => ?_⟩
    rw [hv] at h'
    have hlt : i * (z + 1) + j < N * (z + 1) := by
      have : (i + 1) * (z + 1) ≤ N * (z + 1) := Nat.mul_le_mul (by omega) (Nat.le_refl _)
      rw [Nat.succ_mul] at this
      omega
    rw [Nat.zero_add, h'.cellAt _ hlt]
    exact rowV_at h.hl hi hj
theorem RowS.shape (h : RowS w B e z v N hd S n f) : ∃ ad cap, v = .slice ad N cap ∧ N ≤ cap ∧ cap ≤ maxLen := by
  rcases h.own.2 with ⟨hv, hn⟩ | ⟨g, cap, cur, hv, _, hgg, h1, h2, _⟩
  · exact ⟨none, 0, by rw [hn]; exact hv, by omega, by unfold maxLen; omega⟩
  · exact ⟨_, cap, hv, h1, h2⟩
end
/-- Heads of a picture, of a coded one. -/
def picH (P : Nat → Pc) (i : Nat) : List Value := [.int .i64 (P i).a, .int .i64 (P i).b]
def codH (C : Nat → Cd) (i : Nat) : List Value := [.bool (C i).al, .int .i64 (C i).x, .int .i64 (C i).y]
/-- A row of pictures, of coded ones, that a call owns. -/
def PicR (w : World) (B : Nat) (v : Value) (N : Nat) (P : Nat → Pc) : Prop := ∃ S, RowS w B 46 2 v N (picH P) S (fun i => (P i).n) (fun i => (P i).f)
def CodR (w : World) (B : Nat) (v : Value) (N : Nat) (C : Nat → Cd) : Prop := ∃ S, RowS w B 40 3 v N (codH C) S (fun i => (C i).n) (fun i => (C i).f)
theorem PicR.pics {w : World} {B : Nat} {v : Value} {N : Nat} {P : Nat → Pc} (h : PicR w B v N P) : PicsIn w v N P := by
  obtain ⟨S, h⟩ := h
  obtain ⟨ad, cap, rfl, h1, h2⟩ := h.shape
  refine ⟨ad, cap, rfl, h1, h2, fun h0 => ?_⟩
  obtain ⟨g, cap', e, _, _, hc⟩ := h.cells h0
  cases e
  exact ⟨g, 0, rfl, fun i hi => ⟨S i, by simpa [picH] using hc i 0 hi (by omega), by simpa [picH] using hc i 1 hi (by omega), by simpa [picH] using hc i 2 hi (by omega), h.ints i hi⟩⟩
theorem CodR.cods {w : World} {B : Nat} {v : Value} {N : Nat} {C : Nat → Cd} (h : CodR w B v N C) : CodsIn w v N C := by
  obtain ⟨S, h⟩ := h
  obtain ⟨ad, cap, rfl, h1, h2⟩ := h.shape
  refine ⟨ad, cap, rfl, h1, h2, fun h0 => ?_⟩
  obtain ⟨g, cap', e, _, _, hc⟩ := h.cells h0
  cases e
  exact ⟨g, 0, rfl, fun i hi => ⟨S i, by simpa [codH] using hc i 0 hi (by omega), by simpa [codH] using hc i 1 hi (by omega), by simpa [codH] using hc i 2 hi (by omega), by simpa [codH] using hc i 3 hi (by omega), h.ints i hi⟩⟩
theorem PicR.below {w w' : World} {B : Nat} {v : Value} {N : Nat} {P : Nat → Pc} (h : PicR w B v N P) (hb : Below w.heap.size w w') : PicR w' B v N P := by
  obtain ⟨S, h⟩ := h; exact ⟨S, h.below hb⟩
theorem CodR.below {w w' : World} {B : Nat} {v : Value} {N : Nat} {C : Nat → Cd} (h : CodR w B v N C) (hb : Below w.heap.size w w') : CodR w' B v N C := by
  obtain ⟨S, h⟩ := h; exact ⟨S, h.below hb⟩
theorem PicR.set {w : World} {B : Nat} {v : Value} {N : Nat} {P : Nat → Pc} (h : PicR w B v N P) {b : Nat} (hb : b < B) (o : Nat) (u : Value) : PicR (w.setCell ⟨b, o, none⟩ u) B v N P := by
  obtain ⟨S, h⟩ := h; exact ⟨S, h.set hb o u⟩
theorem CodR.set {w : World} {B : Nat} {v : Value} {N : Nat} {C : Nat → Cd} (h : CodR w B v N C) {b : Nat} (hb : b < B) (o : Nat) (u : Value) : CodR (w.setCell ⟨b, o, none⟩ u) B v N C := by
  obtain ⟨S, h⟩ := h; exact ⟨S, h.set hb o u⟩
/-- One more, as append leaves it. -/
theorem PicR.snoc {w w5 : World} {B : Nat} {v : Value} {N : Nat} {P : Nat → Pc} {S : Nat → Value} {s : Value} {o : Obj} {g cap : Nat} (h : RowS w B 46 2 v N (picH P) S (fun i => (P i).n) (fun i => (P i).f))
    (hown : w5.ownsRow B 46 3 (.slice (some ⟨g, 0, none⟩) (N + 1) cap) (N + 1) (rowV (picH P) S N ++ [.int .i64 (P N).a, .int .i64 (P N).b, s])) (hgrow : (w.alloc o).grownBy w5 v.ownBlock) (hat : v.ownBlock = some g ∨ g = (w.alloc o).heap.size)
    (hi : IntsIn w s (P N).n (P N).f) (hnew : ∀ k, s.ownBlock = some k → B ≤ k) (hoff : ∀ k, s.ownBlock = some k → v.ownBlock ≠ some k) : PicR w5 B (.slice (some ⟨g, 0, none⟩) (N + 1) cap) (N + 1) P := by
  have h' := h.congr (hd' := picH P) (S' := fun i => if i = N then s else S i) (n' := fun i => (P i).n) (f' := fun i => (P i).f) (fun _ _ => rfl) (fun i hi => (if_neg (by omega)).symm) (fun _ _ => rfl) (fun _ _ => rfl)
  have e : rowV (picH P) S N = rowV (picH P) (fun i => if i = N then s else S i) N := by
    unfold rowV
    apply congrArg List.flatten
    apply List.map_congr_left
    intro i hi
    have hlt := List.mem_range.1 hi
    show picH P i ++ [S i] = picH P i ++ [if i = N then s else S i]
    rw [if_neg (by omega)]
  refine ⟨fun i => if i = N then s else S i, h'.snoc ?_ hgrow hat rfl ?_ ?_ ?_⟩
  · show w5.ownsRow B _ _ _ _ (rowV (picH P) _ N ++ (picH P N ++ [if N = N then s else S N]))
    rw [if_pos rfl, ← e]; exact hown
  · show IntsIn w (if N = N then s else S N) _ _
    rw [if_pos rfl]; exact hi
  · show 0 < _ → ∀ k, (if N = N then s else S N).ownBlock = some k → _
    rw [if_pos rfl]; exact fun _ => hnew
  · show 0 < _ → ∀ k, (if N = N then s else S N).ownBlock = some k → _
    rw [if_pos rfl]; exact fun _ => hoff
theorem CodR.snoc {w w5 : World} {B : Nat} {v : Value} {N : Nat} {C : Nat → Cd} {S : Nat → Value} {s : Value} {o : Obj} {g cap : Nat} (h : RowS w B 40 3 v N (codH C) S (fun i => (C i).n) (fun i => (C i).f))
    (hown : w5.ownsRow B 40 4 (.slice (some ⟨g, 0, none⟩) (N + 1) cap) (N + 1) (rowV (codH C) S N ++ [.bool (C N).al, .int .i64 (C N).x, .int .i64 (C N).y, s])) (hgrow : (w.alloc o).grownBy w5 v.ownBlock) (hat : v.ownBlock = some g ∨ g = (w.alloc o).heap.size)
    (hi : IntsIn w s (C N).n (C N).f) (hnew : ∀ k, s.ownBlock = some k → B ≤ k) (hoff : ∀ k, s.ownBlock = some k → v.ownBlock ≠ some k) : CodR w5 B (.slice (some ⟨g, 0, none⟩) (N + 1) cap) (N + 1) C := by
  have h' := h.congr (hd' := codH C) (S' := fun i => if i = N then s else S i) (n' := fun i => (C i).n) (f' := fun i => (C i).f) (fun _ _ => rfl) (fun i hi => (if_neg (by omega)).symm) (fun _ _ => rfl) (fun _ _ => rfl)
  have e : rowV (codH C) S N = rowV (codH C) (fun i => if i = N then s else S i) N := by
    unfold rowV
    apply congrArg List.flatten
    apply List.map_congr_left
    intro i hi
    have hlt := List.mem_range.1 hi
    show codH C i ++ [S i] = codH C i ++ [if i = N then s else S i]
    rw [if_neg (by omega)]
  refine ⟨fun i => if i = N then s else S i, h'.snoc ?_ hgrow hat rfl ?_ ?_ ?_⟩
  · show w5.ownsRow B _ _ _ _ (rowV (codH C) _ N ++ (codH C N ++ [if N = N then s else S N]))
    rw [if_pos rfl, ← e]; exact hown
  · show IntsIn w (if N = N then s else S N) _ _
    rw [if_pos rfl]; exact hi
  · show 0 < _ → ∀ k, (if N = N then s else S N).ownBlock = some k → _
    rw [if_pos rfl]; exact fun _ => hnew
  · show 0 < _ → ∀ k, (if N = N then s else S N).ownBlock = some k → _
    rw [if_pos rfl]; exact fun _ => hoff
end Go.Proofs.YtjhflcgphejddaaDoor

namespace Go.Proofs.YtjhflcgphejddaaDoor
open Go.RowKit
set_option linter.unusedVariables false
set_option maxRecDepth 100000

theorem Act.size_put (a : Act) (d : Tmp) (v : Value) : (a.put (some d) v).tmps.size = a.tmps.size := by simp [Act.put]
theorem Act.sz {a : Act} {d : Tmp} {v : Value} {n : Nat} (hs : a.tmps.size = n) : (a.put (some d) v).tmps.size = n := (Act.size_put a d v).trans hs
theorem Act.ev_put (a : Act) (d t : Tmp) (v : Value) (h : d < a.tmps.size) : (a.put (some d) v).eval (.tmp t) = if t = d then v else a.eval (.tmp t) := by
  simp only [Act.put, Act.eval, Array.getD_eq_getD_getElem?, Array.getElem?_setIfInBounds]
  by_cases e : d = t
  · subst e; simp [h]
  · rw [if_neg e, if_neg (fun h => e h.symm)]
theorem Act.ev_eq {a : Act} {d : Tmp} {v : Value} {n : Nat} (hs : a.tmps.size = n) (h : d < n) : (a.put (some d) v).eval (.tmp d) = v := by rw [Act.ev_put a d d v (hs ▸ h), if_pos rfl]
theorem Act.ev_ne {a : Act} {d t : Tmp} {v u : Value} (h : t ≠ d) (hu : a.eval (.tmp t) = u) : (a.put (some d) v).eval (.tmp t) = u := by
  rw [← hu]
  simp only [Act.put, Act.eval, Array.getD_eq_getD_getElem?, Array.getElem?_setIfInBounds]
  rw [if_neg (fun e => h e.symm)]
theorem Act.put_swap (a : Act) {d e : Tmp} (u v : Value) (h : d ≠ e) : (a.put (some d) u).put (some e) v = (a.put (some e) v).put (some d) u := by
  simp only [Act.put]
  rw [Array.setIfInBounds_comm _ _ h]
theorem run_move {P : Program} {r : Operand → Value} {o : Oper} {x : Operand} {v : Value} (h : o.op = .move x) (hx : r x = v) (w : World) : (execOp r o).run P w = .ok (.value v) w := by
  rw [← hx]; unfold execOp; simp only [h]; rfl
theorem run_index {P : Program} {r : Operand → Value} {o : Oper} {t : TypeId} {x y : Operand} {v ux uy : Value} {w : World} (h : o.op = .indexAddr t x y) (hx : r x = ux) (hy : r y = uy) (hr : (Instr.indexAt t ux uy).run P w = .ok v w) : (execOp r o).run P w = .ok (.value v) w := by
  unfold execOp; simp only [h, hx, hy, Sem.run_bind, hr, Result.andThen_ok, Sem.run_pure]
theorem wp_value {P : Program} {o : Oper} {a : Act} {w : World} {K : Act → World → Prop} {Q : Exit → Act → World → Prop} {v : Value} (h : (execOp a.eval o).run P w = .ok (.value v) w) (hk : K (a.put o.dst v) w) : o.wp P a w K Q := by
  unfold Oper.wp; rw [h]; exact hk
theorem run_load {P : Program} {r : Operand → Value} {o : Oper} {t : TypeId} {x : Operand} {v ux : Value} {w : World} (h : o.op = .load t x) (hx : r x = ux) (hr : (Instr.loadAt t ux).run P w = .ok v w) : (execOp r o).run P w = .ok (.value v) w := by
  unfold execOp; simp only [h, hx, Sem.run_bind, hr, Result.andThen_ok, Sem.run_pure]
/-- A statement, shut: nothing looks into it. -/
structure ShutG (p : Prop) : Prop where
  out : p
theorem any_take {P : Program} {ops : Array Oper} {Q : Exit → Act → World → Prop} {md : Region.Mode} {i : Nat} {oi : Oper} {v : Value} {d : Tmp} {fuel : Nat} {listed : Array Bool} {a : Act} {w : World} (hi : ops[i]? = some oi) (hd : oi.dst = some d)
    (hs : Region.noSelect ops = true) (hf : Region.free md ops listed i = true) (hr : (Region.ready md ops listed).contains i = true) (hw : oi.guard = none)
    (hQ : ∀ c a (d : Tmp) v w, Q (.panic c) (Act.put a (some d) v) w → Q (.panic c) a w) (hy : ∀ w, (execOp a.eval oi).run P w = .ok (.value v) w)
    (h : wpAny P md ops Q fuel (listed.setIfInBounds i true) (a.put (some d) v) w) : wpAny P md ops Q (fuel + 1) listed a w :=
  wpAny_take hi hs hf hr (fun c a w h => hQ c a d v w (by rw [hd] at h; exact h)) (Or.inl ⟨by unfold Region.wanted; rw [hw], hy⟩) (by rw [hd]; exact h)
theorem any_one {P : Program} {ops : Array Oper} {Q : Exit → Act → World → Prop} {md : Region.Mode} {fuel : Nat} {listed : Array Bool} {a : Act} {w : World} {i : Nat} {o : Oper} (hr : Region.ready md ops listed = [i]) (ho : ops[i]? = some o) (hw : o.guard = none)
    (h : ∀ K' : Act → World → Prop, (∀ a w, wpAny P md ops Q fuel (listed.setIfInBounds i true) a w → K' a w) → ShutG (Oper.wp P o a w K' Q)) : wpAny P md ops Q (fuel + 1) listed a w :=
  wpAny_ready hr (by simp) (AllReady.cons ho (fun K hK => by rw [if_pos (by unfold Region.wanted; rw [hw])]; exact (h K hK).out) AllReady.nil)
theorem any_two {P : Program} {ops : Array Oper} {Q : Exit → Act → World → Prop} {md : Region.Mode} {fuel : Nat} {listed : Array Bool} {a : Act} {w : World} {i j : Nat} {o o' : Oper} (hr : Region.ready md ops listed = [i, j]) (ho : ops[i]? = some o) (hw : o.guard = none) (ho' : ops[j]? = some o') (hw' : o'.guard = none)
    (h : ∀ K' : Act → World → Prop, (∀ a w, wpAny P md ops Q fuel (listed.setIfInBounds i true) a w → K' a w) → ShutG (Oper.wp P o a w K' Q))
    (h' : ∀ K' : Act → World → Prop, (∀ a w, wpAny P md ops Q fuel (listed.setIfInBounds j true) a w → K' a w) → ShutG (Oper.wp P o' a w K' Q)) : wpAny P md ops Q (fuel + 1) listed a w :=
  wpAny_ready hr (by simp) (AllReady.cons ho (fun K hK => by rw [if_pos (by unfold Region.wanted; rw [hw])]; exact (h K hK).out) (AllReady.cons ho' (fun K hK => by rw [if_pos (by unfold Region.wanted; rw [hw'])]; exact (h' K hK).out) AllReady.nil))
theorem wp_value_at {P : Program} {o : Oper} {a : Act} {w : World} {K : Act → World → Prop} {Q : Exit → Act → World → Prop} {v : Value} {d : Tmp} (hd : o.dst = some d) (h : (execOp a.eval o).run P w = .ok (.value v) w) (hk : K (a.put (some d) v) w) : ShutG (o.wp P a w K Q) := by
  refine ⟨?_⟩
  unfold Oper.wp; rw [h, Oper.upon_value, hd]; exact hk
theorem wp_call_at {P : Program} {o : Oper} {a : Act} {w : World} {K : Act → World → Prop} {Q : Exit → Act → World → Prop} {d : Tmp} {R : Value → World → Prop} {f : FuncId} {args : Array Operand} {tys : Array TypeId} (vs : Array Value) (hd : o.dst = some d) (ho : o.op = .call ⟨.value (.func f), args, tys⟩) (hv : args.map a.eval = vs)
    (hr : (invoke (.fn (.func f) #[]) vs).run P w = .ok (.enter f vs) w) (h : Calls P f vs w fun e w' => ∃ v, e = .returned v ∧ R v w') (hk : ∀ v w', R v w' → K (a.put (some d) v) w') : ShutG (o.wp P a w K Q) := by
  refine ⟨?_⟩
  have e : (execOp a.eval o).run P w = .ok (.enter f vs) w := by
    unfold execOp
    simp only [ho, resolve, hv, Sem.run_bind]
    rw [show a.eval (.func f) = .func (.func f) #[] #[] from rfl]
    simp only [Deferred.ofValue, Sem.run_pure, Result.andThen_ok, Array.empty_append]
    exact hr
  unfold Oper.wp
  rw [e, Oper.upon_enter, hd]
  exact h.mono fun e w' ⟨v, he, hR⟩ => by subst he; exact hk v w' hR
theorem wp_store_at {P : Program} {op : Oper} {a : Act} {w : World} {K : Act → World → Prop} {Q : Exit → Act → World → Prop} (ty : TypeId) (x y : Operand) (ho : op.op = .store ty x y) (hd : op.dst = none)
    (b o : Nat) (cells : Array Value) (hx : a.eval x = .pointer (some ⟨b, o, none⟩)) (hy : a.eval y = .agg cells)
    (ht : w.there b o cells.size) (hi : (P.info? ty).map (·.size) = some cells.size) (h1 : cells.all (·.oneCell') = true)
    (h : K a (w.setCells b o cells.toList)) : ShutG (op.wp P a w K Q) := ⟨wp_store_mid ty x y ho b o cells hx hy ht hi h1 (by rw [hd]; exact h)⟩
theorem wp_value_to {P : Program} {o : Oper} {a : Act} {w w' : World} {K : Act → World → Prop} {Q : Exit → Act → World → Prop} {v : Value} {d : Tmp} (hd : o.dst = some d) (h : (execOp a.eval o).run P w = .ok (.value v) w') (hk : K (a.put (some d) v) w') : ShutG (o.wp P a w K Q) := by
  refine ⟨?_⟩
  unfold Oper.wp; rw [h, Oper.upon_value, hd]; exact hk
theorem run_field {P : Program} {r : Operand → Value} {o : Oper} {t : TypeId} {x : Operand} {n : Nat} {v ux : Value} {w : World} (h : o.op = .fieldAddr t x n) (hx : r x = ux) (hr : (Instr.fieldAt t ux n).run P w = .ok v w) : (execOp r o).run P w = .ok (.value v) w := by
  unfold execOp; simp only [h, hx, Sem.run_bind, hr, Result.andThen_ok, Sem.run_pure]

theorem map_one {f : Operand → Value} {x : Operand} {u : Value} (hx : f x = u) : #[x].map f = #[u] := by simp [hx]
theorem map_two {f : Operand → Value} {x y : Operand} {u v : Value} (hx : f x = u) (hy : f y = v) : #[x, y].map f = #[u, v] := by simp [hx, hy]

/-! The same where what is read may be taken first, in every world that meets S. -/
theorem anyH_take {P : Program} {ops : Array Oper} {Q : Exit → Act → World → Prop} {S : World → Prop} {md : Region.Mode} {i : Nat} {oi : Oper} {v : Value} {d : Tmp} {fuel : Nat} {listed : Array Bool} {a : Act} {w : World} (hi : ops[i]? = some oi) (hd : oi.dst = some d)
    (hs : Region.noSelect ops = true) (hf : Region.free md ops listed i = true) (hr : (Region.ready md ops listed).contains i = true) (hw : oi.guard = none)
    (hQ : ∀ c a (d : Tmp) v w, Q (.panic c) (Act.put a (some d) v) w → Q (.panic c) a w) (hS : S w) (hy : ∀ w, S w → (execOp a.eval oi).run P w = .ok (.value v) w)
    (h : wpAnyH P md ops Q S fuel (listed.setIfInBounds i true) (a.put (some d) v) w) : wpAnyH P md ops Q S (fuel + 1) listed a w :=
  wpAnyH_take hi hs hf hr (fun c a w h => hQ c a d v w (by rw [hd] at h; exact h)) (Or.inl ⟨by unfold Region.wanted; rw [hw], hy⟩) hS (by rw [hd]; exact h)
theorem anyH_one {P : Program} {ops : Array Oper} {Q : Exit → Act → World → Prop} {S : World → Prop} {md : Region.Mode} {fuel : Nat} {listed : Array Bool} {a : Act} {w : World} {i : Nat} {o : Oper} (hr : Region.ready md ops listed = [i]) (ho : ops[i]? = some o) (hw : o.guard = none)
    (h : ∀ K' : Act → World → Prop, (∀ a w, S w → wpAnyH P md ops Q S fuel (listed.setIfInBounds i true) a w → K' a w) → ShutG (Oper.wp P o a w K' Q)) : wpAnyH P md ops Q S (fuel + 1) listed a w :=
  wpAnyH_all hr (by simp) fun j hj => by
    obtain rfl : j = i := by simpa using hj
    exact wpOp_step ho fun K hK => by rw [if_pos (by unfold Region.wanted; rw [hw])]; exact (h K fun a w h1 h2 => hK a w ⟨h1, h2⟩).out
theorem anyH_two {P : Program} {ops : Array Oper} {Q : Exit → Act → World → Prop} {S : World → Prop} {md : Region.Mode} {fuel : Nat} {listed : Array Bool} {a : Act} {w : World} {i j : Nat} {o o' : Oper} (hr : Region.ready md ops listed = [i, j]) (ho : ops[i]? = some o) (hw : o.guard = none) (ho' : ops[j]? = some o') (hw' : o'.guard = none)
    (h : ∀ K' : Act → World → Prop, (∀ a w, S w → wpAnyH P md ops Q S fuel (listed.setIfInBounds i true) a w → K' a w) → ShutG (Oper.wp P o a w K' Q))
    (h' : ∀ K' : Act → World → Prop, (∀ a w, S w → wpAnyH P md ops Q S fuel (listed.setIfInBounds j true) a w → K' a w) → ShutG (Oper.wp P o' a w K' Q)) : wpAnyH P md ops Q S (fuel + 1) listed a w :=
  wpAnyH_all hr (by simp) fun q hq => by
    rcases (by simpa using hq : q = i ∨ q = j) with rfl | rfl
    · exact wpOp_step ho fun K hK => by rw [if_pos (by unfold Region.wanted; rw [hw])]; exact (h K fun a w h1 h2 => hK a w ⟨h1, h2⟩).out
    · exact wpOp_step ho' fun K hK => by rw [if_pos (by unfold Region.wanted; rw [hw'])]; exact (h' K fun a w h1 h2 => hK a w ⟨h1, h2⟩).out
end Go.Proofs.YtjhflcgphejddaaDoor
