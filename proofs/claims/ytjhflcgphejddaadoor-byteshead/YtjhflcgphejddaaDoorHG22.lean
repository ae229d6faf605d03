/-
  Lemmas for the law above, joined into one text (ByBN, ByF, RRd, RRe). No statement is proved here.
-/
import Derived.Test.YtjhflcgphejddaaDoorHG21
import Derived.Test.YtjhflcgphejddaaDoorHG20
import Derived.Test.YtjhflcgphejddaaDoorHG19
import Derived.Deep.QuietTactic
import Derived.BigQuiet
import Derived.Deep.DeepCutAuto
namespace Go.Proofs.YtjhflcgphejddaaDoor
open Go.RowKit
set_option linter.unusedVariables false
set_option maxRecDepth 100000

theorem cut_none {a b s : Int} {N : Nat} {C : Nat → Cd} (h : bytF a b s N C = 0) {c : Nat} (hc : c < (bytS a b s N C).size) : NoFilm ((bytS a b s N C).extract 0 c) := by
  by_cases h4 : c < 4
  · exact none_short (by rw [ext2_size _ _ (by omega)]; exact h4)
  · intro a' b' s' N' C' h' e
    have hs := says_of h
    have hs' := says_of h'
    rw [e] at hs'
    obtain ⟨A, B, o⟩ := see_ok (bytF_zero.1 h).1
    obtain ⟨A', B', o'⟩ := see_ok (bytF_zero.1 h').1
    generalize bytS a b s N C = S at *
    have hz := hs.size
    have hz' := hs'.size
    rw [ext2_size _ _ (by omega)] at hz'
    have at_ : ∀ i, i < c → atB (S.extract 0 c) i = atB S i := fun i hi => ext2_at S c i hi (by omega)
    have q0 := hs'.b0
    have q1 := hs'.b1
    have q3 := hs'.b3
    rw [at_ 0 (by omega), hs.b0] at q0
    rw [at_ 1 (by omega), hs.b1] at q1
    rw [at_ 3 (by omega), hs.b3] at q3
    have ea := o.wide
    have eb := o.high
    have ea' := o'.wide
    have eb' := o'.high
    obtain rfl : A = A' := by omega
    obtain rfl : B = B' := by omega
    subst q3
    have r1 := says_read o hs rfl
    have hg' := octs_ge (flmB C' N)
    have r2 := flP_of (g := bitB S) (m := 8 * (S.size - 4)) o'.each (by omega) (fun j hj => by
      rw [← hs'.bits j (by omega)]
      show bitU (atB S (4 + j / 8)).toNat (j % 8) = bitU (atB (S.extract 0 c) (4 + j / 8)).toNat (j % 8)
      rw [at_ _ (by omega)])
    rw [r1] at r2
    have r3 := congrArg Prod.snd (Option.some.inj r2)
    have e8 : octs (flmB C N) = octs (flmB C' N) := by unfold octs; show ((flmB C N).length + 7) / 8 = _; rw [show (flmB C N).length = (flmB C' N).length from r3]
    omega
/-- One picture of one pixel, by steps of one. -/
def oneC : Nat → Cd := fun _ => ⟨true, 0, 0, 1, fun _ => 0⟩
theorem one_ok : SeeOk 1 1 1 1 oneC 1 1 := ⟨by omega, by omega, rfl, rfl, by omega, by omega, by omega, by omega, by omega, by omega, fun i hi => ⟨fun _ => ⟨rfl, rfl⟩, by show -1 ≤ (0 : Int) ∧ (0 : Int) ≤ 1; omega, by show -1 ≤ (0 : Int) ∧ (0 : Int) ≤ 1; omega, rfl, fun k hk => by show -255 ≤ (0 : Int) ∧ (0 : Int) ≤ 255; omega⟩⟩
theorem one_bits : flmB oneC 1 = [1, 0, 0, 0] := by decide
theorem one_F : bytF 1 1 1 1 oneC = 0 := bytF_zero.2 ⟨ok_see one_ok rfl, by rw [one_bits]; decide⟩
theorem one_S : bytS 1 1 1 1 oneC = ⟨#[1, 1, 1, 1, 128]⟩ := by
  unfold bytS
  rw [if_pos one_F, one_bits]
  decide
end Go.Proofs.YtjhflcgphejddaaDoor

namespace Go.Proofs.YtjhflcgphejddaaDoor
open Go.RowKit
set_option linter.unusedVariables false
set_option maxRecDepth 100000

/-- What bytes are read as: too many, none, or this film. -/
def Fate (t : ByteArray) (x : Nat) (a b s : Int) (N : Nat) (C : Nat → Cd) : Prop :=
  (x = 4 ∧ 120 < t.size ∧ a = 0 ∧ b = 0 ∧ s = 0 ∧ N = 0) ∨ (x = 2 ∧ t.size ≤ 120 ∧ NoFilm t ∧ a = 0 ∧ b = 0 ∧ s = 0 ∧ N = 0) ∨ (x = 0 ∧ t.size ≤ 120 ∧ bytF a b s N C = 0 ∧ bytS a b s N C = t)
theorem cods_none (w : World) (C : Nat → Cd) : CodsIn w (.slice none 0 0) 0 C := ⟨none, 0, rfl, Nat.le_refl _, by unfold maxLen; omega, fun h => absurd h (Nat.lt_irrefl _)⟩
theorem ub_fate {t : ByteArray} {w w' : World} {e : Ending} (h : UBp t w e w') : ∃ (a b s : Int) (u : Value) (x N : Nat) (C : Nat → Cd), e = .returned (.tuple #[.int .i64 a, .int .i64 b, .int .i64 s, u, errN x]) ∧ Hid (CodsIn w' u N C) ∧ Hid (Fate t x a b s N C) ∧ Hid (Below w.heap.size w w') := by
  obtain ⟨h, hb⟩ := h
  rcases h with ⟨h1, rfl⟩ | ⟨h1, h2, rfl⟩ | ⟨h1, a, b, s, N, C, u, h2, h3, rfl, h4⟩
  · exact ⟨0, 0, 0, _, 4, 0, fun _ => ⟨false, 0, 0, 0, fun _ => 0⟩, rfl, cods_none _ _, Or.inl ⟨rfl, h1, rfl, rfl, rfl, rfl⟩, hb⟩
  · exact ⟨0, 0, 0, _, 2, 0, fun _ => ⟨false, 0, 0, 0, fun _ => 0⟩, rfl, cods_none _ _, Or.inr (Or.inl ⟨rfl, h1, h2, rfl, rfl, rfl, rfl⟩), hb⟩
  · exact ⟨a, b, s, u, 0, N, C, rfl, h4, Or.inr (Or.inr ⟨rfl, h1, h2, h3⟩), hb⟩
/-- The fate is one. -/
theorem fate_one {t : ByteArray} {x x' : Nat} {a b s a' b' s' : Int} {N N' : Nat} {C C' : Nat → Cd} (h : Fate t x a b s N C) (h' : Fate t x' a' b' s' N' C') : x = x' ∧ a = a' ∧ b = b' ∧ s = s' ∧ N = N' ∧ N ≤ 6 ∧ (∀ i, i < N → (C i).n ≤ 36) ∧ ∀ i, i < N → (C i).al = (C' i).al ∧ (C i).x = (C' i).x ∧ (C i).y = (C' i).y ∧ (C i).n = (C' i).n ∧ ∀ k, k < (C i).n → (C i).f k = (C' i).f k := by
  rcases h with ⟨rfl, q1, rfl, rfl, rfl, rfl⟩ | ⟨rfl, q1, q2, rfl, rfl, rfl, rfl⟩ | ⟨rfl, q1, q2, q3⟩
  · rcases h' with ⟨rfl, r1, rfl, rfl, rfl, rfl⟩ | ⟨rfl, r1, r2, rfl, rfl, rfl, rfl⟩ | ⟨rfl, r1, r2, r3⟩
    · exact ⟨rfl, rfl, rfl, rfl, rfl, by omega, fun i hi => absurd hi (Nat.not_lt_zero _), fun i hi => absurd hi (Nat.not_lt_zero _)⟩
    · omega
    · omega
  · rcases h' with ⟨rfl, r1, rfl, rfl, rfl, rfl⟩ | ⟨rfl, r1, r2, rfl, rfl, rfl, rfl⟩ | ⟨rfl, r1, r2, r3⟩
    · omega
    · exact ⟨rfl, rfl, rfl, rfl, rfl, by omega, fun i hi => absurd hi (Nat.not_lt_zero _), fun i hi => absurd hi (Nat.not_lt_zero _)⟩
    · exact absurd r3 (q2 _ _ _ _ _ r2)
  · rcases h' with ⟨rfl, r1, rfl, rfl, rfl, rfl⟩ | ⟨rfl, r1, r2, rfl, rfl, rfl, rfl⟩ | ⟨rfl, r1, r2, r3⟩
    · omega
    · exact absurd q3 (r2 _ _ _ _ _ q2)
    · obtain ⟨e1, e2, e3, e4, e5⟩ := bytS_one q2 r2 (q3.trans r3.symm)
      obtain ⟨A, B, o⟩ := see_ok (bytF_zero.1 q2).1
      exact ⟨rfl, e1, e2, e3, e4, o.six, fun i hi => by rw [(o.each i hi).n]; exact o.le, e5⟩
/-- A film is as it lies: what is the same may stand for it. -/
theorem cods_same {w : World} {v : Value} {N : Nat} {C D : Nat → Cd} (h : CodsIn w v N C) (e : ∀ i, i < N → (C i).al = (D i).al ∧ (C i).x = (D i).x ∧ (C i).y = (D i).y ∧ (C i).n = (D i).n ∧ ∀ k, k < (C i).n → (C i).f k = (D i).f k) : CodsIn w v N D := by
  obtain ⟨ad, cap, rfl, h1, h2, h3⟩ := h
  refine ⟨ad, cap, rfl, h1, h2, fun h0 => ?_⟩
  obtain ⟨b, o, e', hc⟩ := h3 h0
  refine ⟨b, o, e', fun i hi => ?_⟩
  obtain ⟨s, c0, c1, c2, c3, hs⟩ := hc i hi
  obtain ⟨q1, q2, q3, q4, q5⟩ := e i hi
  refine ⟨s, by rw [← q1]; exact c0, by rw [← q2]; exact c1, by rw [← q3]; exact c2, c3, ?_⟩
  rw [← q4]
  exact hs.congr q5
end Go.Proofs.YtjhflcgphejddaaDoor

namespace Go.Proofs.YtjhflcgphejddaaDoor
open Go.RowKit
set_option linter.unusedVariables false
set_option maxRecDepth 100000

/-- A Reader as it lies: of these bits, at this one, bad or not. -/
structure RdAt (w : World) (b : Nat) (s : Value) (at_ : Nat) (bad : Bool) : Prop where
  c0 : w.cell? ⟨b, 0, none⟩ = some s
  c1 : w.cell? ⟨b, 1, none⟩ = some (.int .i64 (at_ : Nat))
  c2 : w.cell? ⟨b, 2, none⟩ = some (.bool bad)
  f1 : w.frozen? ⟨b, 1, none⟩ = false
  f2 : w.frozen? ⟨b, 2, none⟩ = false
theorem RdAt.lt {w : World} {b : Nat} {s : Value} {at_ : Nat} {bad : Bool} (h : RdAt w b s at_ bad) : b < w.heap.size := cell_lt h.c0
theorem RdAt.below {w w' : World} {b : Nat} {s : Value} {at_ : Nat} {bad : Bool} (h : RdAt w b s at_ bad) {B : Nat} (hB : b < B) (hb : Below B w w') : RdAt w' b s at_ bad :=
  ⟨(hb.cell (p := ⟨b, 0, none⟩) hB).trans h.c0, (hb.cell (p := ⟨b, 1, none⟩) hB).trans h.c1, (hb.cell (p := ⟨b, 2, none⟩) hB).trans h.c2, (hb.frozen (p := ⟨b, 1, none⟩) hB).trans h.f1, (hb.frozen (p := ⟨b, 2, none⟩) hB).trans h.f2⟩
theorem RdAt.bad_ {w : World} {b : Nat} {s : Value} {at_ : Nat} {bad : Bool} (h : RdAt w b s at_ bad) (v : Bool) : RdAt (w.setCell ⟨b, 2, none⟩ (.bool v)) b s at_ v := by
  refine ⟨?_, ?_, ?_, by rw [World.frozen?_setCell]; exact h.f1, by rw [World.frozen?_setCell]; exact h.f2⟩
  · rw [World.cell?_setCell_other _ _ _ _ (by simp)]; exact h.c0
  · rw [World.cell?_setCell_other _ _ _ _ (by simp)]; exact h.c1
  · rw [World.cell?_setCell_same _ _ _ h.c2]
theorem RdAt.at_ {w : World} {b : Nat} {s : Value} {a : Nat} {bad : Bool} (h : RdAt w b s a bad) (v : Nat) : RdAt (w.setCell ⟨b, 1, none⟩ (.int .i64 (v : Nat))) b s v bad := by
  refine ⟨?_, ?_, ?_, by rw [World.frozen?_setCell]; exact h.f1, by rw [World.frozen?_setCell]; exact h.f2⟩
  · rw [World.cell?_setCell_other _ _ _ _ (by simp)]; exact h.c0
  · rw [World.cell?_setCell_same _ _ _ h.c1]
  · rw [World.cell?_setCell_other _ _ _ _ (by simp)]; exact h.c2

set_option maxHeartbeats 2000000 in
theorem rbit_any {w0 w : World} {b m a : Nat} {s : Value} {bad : Bool} {g : Nat → Int} (hs : IntsIn w0 s m g) (h0 : w0.heap.size ≤ b) (hb0 : Below w0.heap.size w0 w) (h : RdAt w b s a bad) (ha : a ≤ m) (hm : m ≤ 2000) :
    Calls Tryd.prog 21 #[.pointer (some ⟨b, 0, none⟩)] w fun e w' => ∃ (z : Int) (a' : Nat) (bad' : Bool), e = .returned (.int .i64 z) ∧ RdAt w' b s a' bad' ∧ Kept (fun i => i = b) w w' ∧ ((a < m ∧ z = g a ∧ a' = a + 1 ∧ bad' = bad) ∨ (a = m ∧ z = 0 ∧ a' = m ∧ bad' = true)) := by
  have HR := hide h
  have hbl := h.lt
  obtain ⟨ad, cap, rfl⟩ : ∃ ad cp, s = .slice ad m cp := by
    rcases hs with ⟨rfl, a, cap, rfl⟩ | ⟨h0, b, o, cap, rfl, hc⟩
    · exact ⟨_, _, rfl⟩
    · exact ⟨_, _, rfl⟩
  obtain ⟨c0, c1, c2, f1, f2⟩ := h
  have d0 : ∀ q, (w.drewN q).cell? ⟨b, 0, none⟩ = some (.slice ad m cap) := fun q => c0
  have d1 : ∀ q, (w.drewN q).cell? ⟨b, 1, none⟩ = some (.int .i64 (a : Nat)) := fun q => c1
  by_cases c : a < m
  · obtain ⟨bb, oo, hv, hc⟩ : ∃ bb oo, ad = some ⟨bb, oo, none⟩ ∧ w.cell? ⟨bb, oo + a, none⟩ = some (.int .i64 (g a)) := by
      rcases hs with ⟨rfl, _⟩ | ⟨_, b', o', cap', e, hc⟩
      · omega
      · cases e
        exact ⟨b', o', rfl, cell_below hb0 (hc a c)⟩
    subst hv
    have hbb : bb < w0.heap.size := by
      rcases hs with ⟨rfl, _⟩ | ⟨_, b', o', cap', e, hc'⟩
      · omega
      · cases e
        exact cell_lt (hc' a c)
    have hbne : bb ≠ b := by omega
    have HS1 : Hid (∀ q, Kept (fun i => i = b) w (w.drewN q)) := fun q => (Kept.refl _ w).below (below_drewN (Below.refl _ _) q)
    clear hs
    go_enter Tryd.func21, Tryd.ntmps21
    go_wp2_with fail
    go_quiet (fail)
    generalize hW1 : w.drewN _ = w1 at *
    have HR1 : RdAt w1 b (.slice (some ⟨bb, oo, none⟩) m cap) a bad := hW1 ▸ HR.out.below hbl (below_drewN (Below.refl _ _) _)
    have HK1 : Kept (fun i => i = b) w w1 := hW1 ▸ HS1.out _
    have hc1 : w1.cell? ⟨bb, oo + a, none⟩ = some (.int .i64 (g a)) := hW1 ▸ hc
    obtain ⟨W2, hW2⟩ : ∃ W2, W2 = w1.setCell ⟨b, 1, none⟩ (.int .i64 ((a : Int) + 1)) := ⟨_, rfl⟩
    have HR2 : RdAt W2 b (.slice (some ⟨bb, oo, none⟩) m cap) (a + 1) bad := hW2 ▸ HR1.at_ (a + 1)
    have HK2 : Hid (Kept (fun i => i = b) w W2) := hW2 ▸ HK1.setCell _ _ (Or.inl rfl)
    have hc2 : W2.cell? ⟨bb, oo + a, none⟩ = some (.int .i64 (g a)) := by
      rw [hW2, World.cell?_setCell_other _ _ _ _ (fun e => hbne (congrArg Addr.block e).symm)]; exact hc1
    have HRR := hide HR2
    obtain ⟨_, e1, _, g1, _⟩ := HR1
    obtain ⟨v0, v1, _, _, _⟩ := HR2
    have hw2 : ∀ q, (W2.drewN q).cell? ⟨b, 0, none⟩ = some (.slice (some ⟨bb, oo, none⟩) m cap) := fun q => v0
    have hw3 : ∀ q, (W2.drewN q).cell? ⟨b, 1, none⟩ = some (.int .i64 ((a : Int) + 1)) := fun q => v1
    have hw4 : ∀ q, (W2.drewN q).cell? ⟨bb, oo + a, none⟩ = some (.int .i64 (g a)) := fun q => hc2
    have hle : decide (m ≤ a) = false := by simp; omega
    have HW2 := hide hW2
    clear hW1 hW2 HK1 hc hc1 c0 c1 c2 d0 d1 HS1 HR
    go_wp2_with fail
    rw [← HW2.out]
    go_quiet (fail)
    go_wp2
    go_ret
    exact ⟨g a, a + 1, bad, rfl, HRR.out.below HRR.out.lt (below_drewN (Below.refl _ _) _), HK2.out.below (below_drewN (Below.refl _ _) _), Or.inl ⟨c, rfl, rfl, rfl⟩⟩
  · obtain rfl : a = m := by omega
    clear hs
    go_enter Tryd.func21, Tryd.ntmps21
    go_wp2_with fail
    go_quiet (fail)
    generalize hW1 : w.drewN _ = w1 at *
    have HR1 : RdAt w1 b (.slice ad a cap) a bad := hW1 ▸ HR.out.below hbl (below_drewN (Below.refl _ _) _)
    have HK1 : Hid (Kept (fun i => i = b) w w1) := hW1 ▸ (Kept.refl _ w).below (below_drewN (Below.refl _ _) _)
    have HRR := hide HR1
    obtain ⟨_, _, e2, _, g2⟩ := HR1
    have hle : decide (a ≤ a) = true := by simp
    clear hW1 c0 c1 c2 d0 d1 HR
    go_wp2
    go_ret
    exact ⟨0, a, true, rfl, HRR.out.bad_ true, HK1.out.setCell _ _ (Or.inl rfl), by simp⟩

theorem fstN_some {g : Nat → Int} {m low a q X : Nat} (hq : ones g a (m - a) = q) (hE : a + q + 1 + low ≤ m) (hX : valN g (a + q + 1) q low = X) (h : X ≤ 510) : fstN g m low a = some (uz (X : Nat), a + q + 1 + low) := by
  unfold fstN
  rw [hq, hX, if_pos hE, if_pos h]
theorem fstN_none {g : Nat → Int} {m low a q X : Nat} (hq : ones g a (m - a) = q) (h : a + q + 1 + low ≤ m → valN g (a + q + 1) q low = X ∧ 510 < X) : fstN g m low a = none := by
  unfold fstN
  rw [hq]
  by_cases c : a + q + 1 + low ≤ m
  · obtain ⟨h1, h2⟩ := h c
    rw [h1, if_pos c, if_neg (by omega)]
  · rw [if_neg c]

set_option maxHeartbeats 4000000 in
theorem rnum_any {w0 w : World} {b m a low : Nat} {s : Value} {g : Nat → Int} (hs : IntsIn w0 s m g) (h0 : w0.heap.size ≤ b) (hb0 : Below w0.heap.size w0 w) (h : RdAt w b s a false) (ha : a ≤ m) (hm : m ≤ 2000) (hl : low ≤ 7) (hg : ∀ i, i < m → g i = 0 ∨ g i = 1) :
    Calls Tryd.prog 23 #[.pointer (some ⟨b, 0, none⟩), .int .i64 low] w fun e w' => ∃ (z : Int) (a' : Nat) (bad' : Bool), e = .returned (.int .i64 z) ∧ RdAt w' b s a' bad' ∧ Kept (fun i => i = b) w w' ∧ a' ≤ m ∧ ((fstN g m low a = none ∧ bad' = true) ∨ (fstN g m low a = some (z, a') ∧ bad' = false)) := by
  have HS := hide hs
  have HB0 := hide hb0
  have HR := hide h
  have HG := hide hg
  have hw0 := hb0.size
  have KB : Hid (∀ (W : World) (a' : Nat) (bad' : Bool), Kept (fun i => i = b) w W → a' ≤ m → RdAt W b s a' bad' → Calls Tryd.prog 21 #[.pointer (some ⟨b, 0, none⟩)] W fun e w' => ∃ (z : Int) (a'' : Nat) (bad'' : Bool), e = .returned (.int .i64 z) ∧ RdAt w' b s a'' bad'' ∧ Kept (fun i => i = b) w w' ∧ ((a' < m ∧ z = g a' ∧ a'' = a' + 1 ∧ bad'' = bad') ∨ (a' = m ∧ z = 0 ∧ a'' = m ∧ bad'' = true))) := fun W a' bad' hk ha' hr =>
    (rbit_any hs h0 (hb0.trans (hk.to_below hw0 (fun i hi => by omega))) hr ha' hm).mono fun e w' ⟨z, a'', bad'', he, h1, h2, h3⟩ => ⟨z, a'', bad'', he, h1, hk.trans_ h2, h3⟩
  obtain ⟨q, hq⟩ : ∃ q, q = ones g a (m - a) := ⟨_, rfl⟩
  have hqm : a + q ≤ m := by have := ones_le g (m - a) a; omega
  have H1 : Hid (∀ j, j < q → g (a + j) = 1) := fun j hj => (hg _ (by omega)).resolve_left (ones_before (by rw [← hq]; exact hj))
  have H2 : Hid (a + q < m → g (a + q) = 0) := fun h => by rw [hq]; exact ones_at (by omega)
  have HQ := hide hq.symm
  clear hs hb0 h hg hq
  go_enter Tryd.func23, Tryd.ntmps23
  go_wp2
  go_loopw [5] (fun u wr => ∃ j : Nat, j ≤ q ∧ u = .int .i64 j ∧ RdAt wr b s (a + j) false ∧ Kept (fun i => i = b) w wr) (fun u _ => q - (intOf u).toNat)
  case atStart => exact ⟨0, Nat.zero_le _, rfl, HR.out, Kept.refl _ _⟩
  case round =>
    obtain ⟨j, hj, rfl, hr, hk⟩ := hrel
    have K := hide (KB.out wr (a + j) false hk (by omega) hr)
    clear hr hk
    by_cases hlt : j < q
    · have e1 := H1.out j hlt
      go_wp2_with fail
      refine (K.out).mono ?_
      rintro e w2 ⟨z, a2, bad2, rfl, hr2, hk2, h3⟩
      obtain ⟨_, rfl, rfl, rfl⟩ := h3.resolve_right (fun h => by omega)
      have HR2 := hide hr2
      have HK2 := hide hk2
      rw [e1]
      clear hr2 hk2 h3 K e1
      go_wp2
      go_roundw
      case rel => exact ⟨j + 1, by omega, by go_num, HR2.out, HK2.out⟩
      case measure => simp [intOf]; omega
    · obtain rfl : j = q := by omega
      go_wp2_with fail
      refine (K.out).mono ?_
      rintro e w2 ⟨z, a2, bad2, rfl, hr2, hk2, h3⟩
      have hz0 : z = 0 := by
        rcases h3 with ⟨h4, rfl, _⟩ | ⟨_, rfl, _⟩
        · exact H2.out h4
        · rfl
      subst hz0
      have HR2 := hide hr2
      have HK2 := hide hk2
      have H3 : Hid ((a + j < m ∧ a2 = a + j + 1 ∧ bad2 = false) ∨ (a + j = m ∧ a2 = m ∧ bad2 = true)) := by
        rcases h3 with ⟨h4, _, h5, h6⟩ | ⟨h4, _, h5, h6⟩
        · exact Or.inl ⟨h4, h5, h6⟩
        · exact Or.inr ⟨h4, h5, h6⟩
      clear hr2 hk2 h3 K
      go_wp2
      go_loopw [5, 6] (fun u i wr => ∃ (k X a' : Nat) (bad' : Bool), k ≤ low ∧ i = .int .i64 k ∧ u = .int .i64 (X : Nat) ∧ X < 2001 * 2 ^ k ∧ a' ≤ m ∧ (bad' = false ↔ a + j + 1 + k ≤ m) ∧ Hid (bad' = false → a' = a + j + 1 + k ∧ X = valN g (a + j + 1) j k) ∧ RdAt wr b s a' bad' ∧ Kept (fun i => i = b) w wr) (fun _ i _ => low - (intOf i).toNat)
      case atStart =>
        refine ⟨0, j, a2, bad2, Nat.zero_le _, rfl, rfl, by omega, ?_, ?_, ?_, HR2.out, HK2.out⟩
        · rcases H3.out with ⟨h4, h5, _⟩ | ⟨_, h5, _⟩ <;> omega
        · rcases H3.out with ⟨h4, h5, rfl⟩ | ⟨h4, h5, rfl⟩
          · simp; omega
          · simp; omega
        · intro hbf
          rcases H3.out with ⟨h4, h5, _⟩ | ⟨_, _, h6⟩
          · exact ⟨h5, rfl⟩
          · rw [hbf] at h6; cases h6
      case round =>
        obtain ⟨k, X, a', bad', hk, rfl, rfl, hX, ha', hbi, HV, hr, hkp⟩ := hrel
        have hp7 : 2 ^ k ≤ 128 := Nat.le_trans (Nat.pow_le_pow_right (by omega) (show k ≤ 7 by omega)) (by decide)
        by_cases hkl : k < low
        · have K := hide (KB.out wr a' bad' hkp ha' hr)
          have HBI := hide hbi
          have hp2 : 2 ^ (k + 1) = 2 * 2 ^ k := by rw [Nat.pow_succ, Nat.mul_comm]
          have HVs := hide (valN_succ g (a + j + 1) j k)
          have hX2 : X < 256128 := by omega
          clear hr hkp hbi
          go_wp2_with fail
          refine (K.out).mono ?_
          rintro e w3 ⟨z, a3, bad3, rfl, hr3, hk3, h3⟩
          obtain ⟨Z, rfl, hZ⟩ : ∃ Z : Nat, z = (Z : Nat) ∧ Z ≤ 1 := by
            rcases h3 with ⟨h4, rfl, _⟩ | ⟨_, rfl, _⟩
            · have := HG.out _ h4
              exact ⟨(g a').toNat, by omega, by omega⟩
            · exact ⟨0, rfl, by omega⟩
          have HR3 := hide hr3
          have HK3 := hide hk3
          have HN : Hid (a3 ≤ m ∧ (bad3 = false ↔ a + j + 1 + (k + 1) ≤ m) ∧ (bad3 = false → a3 = a + j + 1 + (k + 1) ∧ 2 * X + Z = valN g (a + j + 1) j (k + 1))) := by
            rcases h3 with ⟨h4, h5, rfl, rfl⟩ | ⟨h4, h5, rfl, rfl⟩
            · refine ⟨by omega, ?_, ?_⟩
              · rw [HBI.out]
                constructor
                · intro h
                  have := (HV.out (HBI.out.2 h)).1
                  omega
                · intro h; omega
              · intro hbf
                obtain ⟨h6, h7⟩ := HV.out hbf
                rw [HVs.out, ← h7, ← h6, ← h5, Int.toNat_natCast]
                exact ⟨by omega, rfl⟩
            · refine ⟨by omega, ?_, ?_⟩
              · constructor
                · intro h; cases h
                · intro h
                  have := (HV.out (HBI.out.2 (by omega))).1
                  omega
              · intro h; cases h
          have hXZ : Hid (2 * X + Z < 2001 * 2 ^ (k + 1)) := by unfold Hid; omega
          clear hr3 hk3 h3 K HV HBI
          go_wp2
          go_roundw
          case rel =>
            have R : k + 1 ≤ low ∧ Value.int .i64 ((k : Int) + 1) = .int .i64 ((k + 1 : Nat) : Int) ∧ Value.int .i64 (2 * (X : Int) + (Z : Int)) = .int .i64 ((2 * X + Z : Nat) : Int) ∧ 2 * X + Z < 2001 * 2 ^ (k + 1) ∧ a3 ≤ m ∧ (bad3 = false ↔ a + j + 1 + (k + 1) ≤ m) ∧ Hid (bad3 = false → a3 = a + j + 1 + (k + 1) ∧ 2 * X + Z = valN g (a + j + 1) j (k + 1)) ∧ RdAt w3 b s a3 bad3 ∧ Kept (fun i => i = b) w w3 :=
              ⟨by omega, by simp, by simp, hXZ.out, HN.out.1, HN.out.2.1, HN.out.2.2, HR3.out, HK3.out⟩
            exact ⟨k + 1, 2 * X + Z, a3, bad3, R⟩
          case measure => simp [intOf]; omega
        · obtain rfl : k = low := by omega
          have HBI := hide hbi
          have HRR := hide hr
          have HKK := hide hkp
          have hX2 : X < 256128 := by omega
          obtain ⟨_, e1, e2, g1, g2⟩ := hr
          clear hbi hkp
          by_cases c : 510 < X
          · have HF : Hid (fstN g m k a = none) := fstN_none HQ.out (fun hE => ⟨((HV.out (HBI.out.2 hE)).2).symm, c⟩)
            go_wp2
            go_ret
            exact ⟨0, a', true, rfl, HRR.out.bad_ true, HKK.out.setCell _ _ (Or.inl rfl), ha', Or.inl ⟨HF.out, rfl⟩⟩
          · have HF : Hid ((fstN g m k a = none ∧ bad' = true) ∨ (fstN g m k a = some (uz (X : Nat), a') ∧ bad' = false)) := by
              cases hbb : bad' with
              | true =>
                refine Or.inl ⟨?_, rfl⟩
                refine fstN_none (X := X) HQ.out (fun hE => ?_)
                have := HBI.out.2 hE
                rw [hbb] at this; cases this
              | false =>
                obtain ⟨h6, h7⟩ := HV.out hbb
                refine Or.inr ⟨?_, rfl⟩
                have hE := HBI.out.1 hbb
                rw [h6]
                exact fstN_some HQ.out hE h7.symm (by omega)
            rcases Nat.mod_two_eq_zero_or_one X with c2 | c2
            · have HU : Hid (uz ((X : Nat) : Int) = ((X / 2 : Nat) : Int)) := by unfold Hid uz; rw [if_neg (by omega)]; omega
              have e3 : ((X : Nat) : Int).tmod 2 = 0 := by rw [Int.tmod_eq_emod_of_nonneg (by omega)]; omega
              have e4 : ((X : Nat) : Int).tdiv 2 = ((X / 2 : Nat) : Int) := by rw [Int.tdiv_eq_ediv_of_nonneg (by omega)]; omega
              have e5 : ((X : Nat) : Int) % 2 = 0 := by omega
              have e6 : ((X : Nat) : Int) / 2 = ((X / 2 : Nat) : Int) := by omega
              have hxi : (0 : Int) ≤ ((X : Nat) : Int) ∧ ((X : Nat) : Int) ≤ 510 := by omega
              have hhi : (0 : Int) ≤ ((X / 2 : Nat) : Int) ∧ ((X / 2 : Nat) : Int) ≤ 255 := by omega
              generalize ((X / 2 : Nat) : Int) = hf at *
              generalize ((X : Nat) : Int) = y at *
              obtain ⟨hx1, hx2⟩ := hxi
              obtain ⟨hh1, hh2⟩ := hhi
              clear c2
              go_wp2
              go_ret
              exact ⟨uz y, a', bad', ret_int (by rw [HU.out]), HRR.out, HKK.out, ha', HF.out⟩
            · have HU : Hid (uz ((X : Nat) : Int) = -((X / 2 : Nat) : Int) - 1) := by unfold Hid uz; rw [if_pos (by omega)]; omega
              have e3 : ((X : Nat) : Int).tmod 2 = 1 := by rw [Int.tmod_eq_emod_of_nonneg (by omega)]; omega
              have e4 : ((X : Nat) : Int).tdiv 2 = ((X / 2 : Nat) : Int) := by rw [Int.tdiv_eq_ediv_of_nonneg (by omega)]; omega
              have e5 : ((X : Nat) : Int) % 2 = 1 := by omega
              have e6 : ((X : Nat) : Int) / 2 = ((X / 2 : Nat) : Int) := by omega
              have hxi : (0 : Int) ≤ ((X : Nat) : Int) ∧ ((X : Nat) : Int) ≤ 510 := by omega
              have hhi : (0 : Int) ≤ ((X / 2 : Nat) : Int) ∧ ((X / 2 : Nat) : Int) ≤ 255 := by omega
              generalize ((X / 2 : Nat) : Int) = hf at *
              generalize ((X : Nat) : Int) = y at *
              obtain ⟨hx1, hx2⟩ := hxi
              obtain ⟨hh1, hh2⟩ := hhi
              clear c2
              go_wp2
              go_ret
              exact ⟨uz y, a', bad', ret_int (by rw [HU.out]), HRR.out, HKK.out, ha', HF.out⟩
end Go.Proofs.YtjhflcgphejddaaDoor

namespace Go.Proofs.YtjhflcgphejddaaDoor
open Go.RowKit
set_option linter.unusedVariables false
set_option maxRecDepth 100000

theorem ints_kept {w W : World} {s : Value} {m b : Nat} {g : Nat → Int} (h : IntsIn w s m g) (hne : ∀ k, s.ownBlock = some k → k ≠ b) (hk : Kept (fun i => i = b) w W) : IntsIn W s m g := by
  rcases h with h | ⟨h0, bb, o, cap, rfl, hc⟩
  · exact Or.inl h
  · refine Or.inr ⟨h0, bb, o, cap, rfl, fun i hi => ?_⟩
    rw [World.cell?_of_block (w := w) (hk.block bb (cell_lt (hc i hi)) (hne bb rfl))]
    exact hc i hi

set_option maxHeartbeats 2000000 in
theorem rbit_two {w : World} {b m a : Nat} {s : Value} {bad : Bool} {g : Nat → Int} (hs : IntsIn w s m g) (hne : ∀ k, s.ownBlock = some k → k ≠ b) (h : RdAt w b s a bad) (ha : a ≤ m) (hm : m ≤ 2000) :
    Calls Tryd.prog 21 #[.pointer (some ⟨b, 0, none⟩)] w fun e w' => ∃ (z : Int) (a' : Nat) (bad' : Bool), e = .returned (.int .i64 z) ∧ RdAt w' b s a' bad' ∧ Kept (fun i => i = b) w w' ∧ ((a < m ∧ z = g a ∧ a' = a + 1 ∧ bad' = bad) ∨ (a = m ∧ z = 0 ∧ a' = m ∧ bad' = true)) := by
  have HR := hide h
  have hbl := h.lt
  obtain ⟨ad, cap, rfl⟩ : ∃ ad cp, s = .slice ad m cp := by
    rcases hs with ⟨rfl, a, cap, rfl⟩ | ⟨h0, b, o, cap, rfl, hc⟩
    · exact ⟨_, _, rfl⟩
    · exact ⟨_, _, rfl⟩
  obtain ⟨c0, c1, c2, f1, f2⟩ := h
  have d0 : ∀ q, (w.drewN q).cell? ⟨b, 0, none⟩ = some (.slice ad m cap) := fun q => c0
  have d1 : ∀ q, (w.drewN q).cell? ⟨b, 1, none⟩ = some (.int .i64 (a : Nat)) := fun q => c1
  by_cases c : a < m
  · obtain ⟨bb, oo, hv, hc⟩ : ∃ bb oo, ad = some ⟨bb, oo, none⟩ ∧ w.cell? ⟨bb, oo + a, none⟩ = some (.int .i64 (g a)) := by
      rcases hs with ⟨rfl, _⟩ | ⟨_, b', o', cap', e, hc⟩
      · omega
      · cases e
        exact ⟨b', o', rfl, hc a c⟩
    subst hv
    have hbne : bb ≠ b := hne bb rfl
    have HS1 : Hid (∀ q, Kept (fun i => i = b) w (w.drewN q)) := fun q => (Kept.refl _ w).below (below_drewN (Below.refl _ _) q)
    clear hs
    go_enter Tryd.func21, Tryd.ntmps21
    go_wp2_with fail
    go_quiet (fail)
    generalize hW1 : w.drewN _ = w1 at *
    have HR1 : RdAt w1 b (.slice (some ⟨bb, oo, none⟩) m cap) a bad := hW1 ▸ HR.out.below hbl (below_drewN (Below.refl _ _) _)
    have HK1 : Kept (fun i => i = b) w w1 := hW1 ▸ HS1.out _
    have hc1 : w1.cell? ⟨bb, oo + a, none⟩ = some (.int .i64 (g a)) := hW1 ▸ hc
    obtain ⟨W2, hW2⟩ : ∃ W2, W2 = w1.setCell ⟨b, 1, none⟩ (.int .i64 ((a : Int) + 1)) := ⟨_, rfl⟩
    have HR2 : RdAt W2 b (.slice (some ⟨bb, oo, none⟩) m cap) (a + 1) bad := hW2 ▸ HR1.at_ (a + 1)
    have HK2 : Hid (Kept (fun i => i = b) w W2) := hW2 ▸ HK1.setCell _ _ (Or.inl rfl)
    have hc2 : W2.cell? ⟨bb, oo + a, none⟩ = some (.int .i64 (g a)) := by
      rw [hW2, World.cell?_setCell_other _ _ _ _ (fun e => hbne (congrArg Addr.block e).symm)]; exact hc1
    have HRR := hide HR2
    obtain ⟨_, e1, _, g1, _⟩ := HR1
    obtain ⟨v0, v1, _, _, _⟩ := HR2
    have hw2 : ∀ q, (W2.drewN q).cell? ⟨b, 0, none⟩ = some (.slice (some ⟨bb, oo, none⟩) m cap) := fun q => v0
    have hw3 : ∀ q, (W2.drewN q).cell? ⟨b, 1, none⟩ = some (.int .i64 ((a : Int) + 1)) := fun q => v1
    have hw4 : ∀ q, (W2.drewN q).cell? ⟨bb, oo + a, none⟩ = some (.int .i64 (g a)) := fun q => hc2
    have hle : decide (m ≤ a) = false := by simp; omega
    have HW2 := hide hW2
    clear hW1 hW2 HK1 hc hc1 c0 c1 c2 d0 d1 HS1 HR
    go_wp2_with fail
    rw [← HW2.out]
    go_quiet (fail)
    go_wp2
    go_ret
    exact ⟨g a, a + 1, bad, rfl, HRR.out.below HRR.out.lt (below_drewN (Below.refl _ _) _), HK2.out.below (below_drewN (Below.refl _ _) _), Or.inl ⟨c, rfl, rfl, rfl⟩⟩
  · obtain rfl : a = m := by omega
    clear hs
    go_enter Tryd.func21, Tryd.ntmps21
    go_wp2_with fail
    go_quiet (fail)
    generalize hW1 : w.drewN _ = w1 at *
    have HR1 : RdAt w1 b (.slice ad a cap) a bad := hW1 ▸ HR.out.below hbl (below_drewN (Below.refl _ _) _)
    have HK1 : Hid (Kept (fun i => i = b) w w1) := hW1 ▸ (Kept.refl _ w).below (below_drewN (Below.refl _ _) _)
    have HRR := hide HR1
    obtain ⟨_, _, e2, _, g2⟩ := HR1
    have hle : decide (a ≤ a) = true := by simp
    clear hW1 c0 c1 c2 d0 d1 HR
    go_wp2
    go_ret
    exact ⟨0, a, true, rfl, HRR.out.bad_ true, HK1.out.setCell _ _ (Or.inl rfl), by simp⟩

set_option maxHeartbeats 4000000 in
theorem rnum_two {w : World} {b m a low : Nat} {s : Value} {bd : Bool} {g : Nat → Int} (hs : IntsIn w s m g) (hne : ∀ k, s.ownBlock = some k → k ≠ b) (h : RdAt w b s a bd) (ha : a ≤ m) (hm : m ≤ 2000) (hl : low ≤ 7) (hg : ∀ i, i < m → g i = 0 ∨ g i = 1) :
    Calls Tryd.prog 23 #[.pointer (some ⟨b, 0, none⟩), .int .i64 low] w fun e w' => ∃ (z : Int) (a' : Nat) (bad' : Bool), e = .returned (.int .i64 z) ∧ RdAt w' b s a' bad' ∧ Kept (fun i => i = b) w w' ∧ a' ≤ m ∧ (-255 ≤ z ∧ z ≤ 255) ∧ (bd = true → bad' = true) ∧ (bd = false → (fstN g m low a = none ∧ bad' = true) ∨ (fstN g m low a = some (z, a') ∧ bad' = false)) := by
  have HS := hide hs
  have HR := hide h
  have HG := hide hg
  have KB : Hid (∀ (W : World) (a' : Nat) (bad' : Bool), Kept (fun i => i = b) w W → a' ≤ m → RdAt W b s a' bad' → Calls Tryd.prog 21 #[.pointer (some ⟨b, 0, none⟩)] W fun e w' => ∃ (z : Int) (a'' : Nat) (bad'' : Bool), e = .returned (.int .i64 z) ∧ RdAt w' b s a'' bad'' ∧ Kept (fun i => i = b) w w' ∧ ((a' < m ∧ z = g a' ∧ a'' = a' + 1 ∧ bad'' = bad') ∨ (a' = m ∧ z = 0 ∧ a'' = m ∧ bad'' = true))) := fun W a' bad' hk ha' hr =>
    (rbit_two (ints_kept hs hne hk) hne hr ha' hm).mono fun e w' ⟨z, a'', bad'', he, h1, h2, h3⟩ => ⟨z, a'', bad'', he, h1, hk.trans_ h2, h3⟩
  obtain ⟨q, hq⟩ : ∃ q, q = ones g a (m - a) := ⟨_, rfl⟩
  have hqm : a + q ≤ m := by have := ones_le g (m - a) a; omega
  have H1 : Hid (∀ j, j < q → g (a + j) = 1) := fun j hj => (hg _ (by omega)).resolve_left (ones_before (by rw [← hq]; exact hj))
  have H2 : Hid (a + q < m → g (a + q) = 0) := fun h => by rw [hq]; exact ones_at (by omega)
  have HQ := hide hq.symm
  clear hs h hg hq hne
  go_enter Tryd.func23, Tryd.ntmps23
  go_wp2
  go_loopw [5] (fun u wr => ∃ j : Nat, j ≤ q ∧ u = .int .i64 j ∧ RdAt wr b s (a + j) bd ∧ Kept (fun i => i = b) w wr) (fun u _ => q - (intOf u).toNat)
  case atStart => exact ⟨0, Nat.zero_le _, rfl, HR.out, Kept.refl _ _⟩
  case round =>
    obtain ⟨j, hj, rfl, hr, hk⟩ := hrel
    have K := hide (KB.out wr (a + j) bd hk (by omega) hr)
    clear hr hk
    by_cases hlt : j < q
    · have e1 := H1.out j hlt
      go_wp2_with fail
      refine (K.out).mono ?_
      rintro e w2 ⟨z, a2, bad2, rfl, hr2, hk2, h3⟩
      obtain ⟨_, rfl, rfl, rfl⟩ := h3.resolve_right (fun h => by omega)
      have HR2 := hide hr2
      have HK2 := hide hk2
      rw [e1]
      clear hr2 hk2 h3 K e1
      go_wp2
      go_roundw
      case rel => exact ⟨j + 1, by omega, by go_num, HR2.out, HK2.out⟩
      case measure => simp [intOf]; omega
    · obtain rfl : j = q := by omega
      go_wp2_with fail
      refine (K.out).mono ?_
      rintro e w2 ⟨z, a2, bad2, rfl, hr2, hk2, h3⟩
      have hz0 : z = 0 := by
        rcases h3 with ⟨h4, rfl, _⟩ | ⟨_, rfl, _⟩
        · exact H2.out h4
        · rfl
      subst hz0
      have HR2 := hide hr2
      have HK2 := hide hk2
      have H3 : Hid ((a + j < m ∧ a2 = a + j + 1 ∧ bad2 = bd) ∨ (a + j = m ∧ a2 = m ∧ bad2 = true)) := by
        rcases h3 with ⟨h4, _, h5, h6⟩ | ⟨h4, _, h5, h6⟩
        · exact Or.inl ⟨h4, h5, h6⟩
        · exact Or.inr ⟨h4, h5, h6⟩
      clear hr2 hk2 h3 K
      go_wp2
      go_loopw [5, 6] (fun u i wr => ∃ (k X a' : Nat) (bad' : Bool), k ≤ low ∧ i = .int .i64 k ∧ u = .int .i64 (X : Nat) ∧ X < 2001 * 2 ^ k ∧ a' ≤ m ∧ Hid (bad' = false ↔ bd = false ∧ a + j + 1 + k ≤ m) ∧ Hid (a + j + 1 + k ≤ m → a' = a + j + 1 + k ∧ X = valN g (a + j + 1) j k) ∧ RdAt wr b s a' bad' ∧ Kept (fun i => i = b) w wr) (fun _ i _ => low - (intOf i).toNat)
      case atStart =>
        refine ⟨0, j, a2, bad2, Nat.zero_le _, rfl, rfl, by omega, ?_, ?_, ?_, HR2.out, HK2.out⟩
        · rcases H3.out with ⟨h4, h5, _⟩ | ⟨_, h5, _⟩ <;> omega
        · unfold Hid
          rcases H3.out with ⟨h4, h5, rfl⟩ | ⟨h4, h5, rfl⟩
          · exact ⟨fun h => ⟨h, by omega⟩, fun h => h.1⟩
          · exact ⟨(fun h => by cases h), (fun h => by have := h.2; omega)⟩
        · intro hle
          rcases H3.out with ⟨h4, h5, _⟩ | ⟨h4, _, h6⟩
          · exact ⟨h5, rfl⟩
          · omega
      case round =>
        obtain ⟨k, X, a', bad', hk, rfl, rfl, hX, ha', HBI, HV, hr, hkp⟩ := hrel
        have hp7 : 2 ^ k ≤ 128 := Nat.le_trans (Nat.pow_le_pow_right (by omega) (show k ≤ 7 by omega)) (by decide)
        by_cases hkl : k < low
        · have K := hide (KB.out wr a' bad' hkp ha' hr)
          have hp2 : 2 ^ (k + 1) = 2 * 2 ^ k := by rw [Nat.pow_succ, Nat.mul_comm]
          have HVs := hide (valN_succ g (a + j + 1) j k)
          have hX2 : X < 256128 := by omega
          clear hr hkp
          go_wp2_with fail
          refine (K.out).mono ?_
          rintro e w3 ⟨z, a3, bad3, rfl, hr3, hk3, h3⟩
          obtain ⟨Z, rfl, hZ⟩ : ∃ Z : Nat, z = (Z : Nat) ∧ Z ≤ 1 := by
            rcases h3 with ⟨h4, rfl, _⟩ | ⟨_, rfl, _⟩
            · have := HG.out _ h4
              exact ⟨(g a').toNat, by omega, by omega⟩
            · exact ⟨0, rfl, by omega⟩
          have HR3 := hide hr3
          have HK3 := hide hk3
          have HN : Hid (a3 ≤ m ∧ (bad3 = false ↔ bd = false ∧ a + j + 1 + (k + 1) ≤ m) ∧ (a + j + 1 + (k + 1) ≤ m → a3 = a + j + 1 + (k + 1) ∧ 2 * X + Z = valN g (a + j + 1) j (k + 1))) := by
            rcases h3 with ⟨h4, h5, rfl, rfl⟩ | ⟨h4, h5, rfl, rfl⟩
            · refine ⟨by omega, ?_, ?_⟩
              · rw [HBI.out]
                constructor
                · rintro ⟨h, h6⟩
                  have := (HV.out h6).1
                  exact ⟨h, by omega⟩
                · rintro ⟨h, h6⟩; exact ⟨h, by omega⟩
              · intro hle
                obtain ⟨h6, h7⟩ := HV.out (by omega)
                rw [HVs.out, ← h7, ← h6, ← h5, Int.toNat_natCast]
                exact ⟨by omega, rfl⟩
            · refine ⟨by omega, ?_, ?_⟩
              · constructor
                · intro h; cases h
                · rintro ⟨_, h⟩
                  have := (HV.out (by omega)).1
                  omega
              · intro h
                have := (HV.out (by omega)).1
                omega
          have hXZ : Hid (2 * X + Z < 2001 * 2 ^ (k + 1)) := by unfold Hid; omega
          clear hr3 hk3 h3 K HV HBI
          go_wp2
          go_roundw
          case rel =>
            have R : k + 1 ≤ low ∧ Value.int .i64 ((k : Int) + 1) = .int .i64 ((k + 1 : Nat) : Int) ∧ Value.int .i64 (2 * (X : Int) + (Z : Int)) = .int .i64 ((2 * X + Z : Nat) : Int) ∧ 2 * X + Z < 2001 * 2 ^ (k + 1) ∧ a3 ≤ m ∧ Hid (bad3 = false ↔ bd = false ∧ a + j + 1 + (k + 1) ≤ m) ∧ Hid (a + j + 1 + (k + 1) ≤ m → a3 = a + j + 1 + (k + 1) ∧ 2 * X + Z = valN g (a + j + 1) j (k + 1)) ∧ RdAt w3 b s a3 bad3 ∧ Kept (fun i => i = b) w w3 :=
              ⟨by omega, by simp, by simp, hXZ.out, HN.out.1, HN.out.2.1, HN.out.2.2, HR3.out, HK3.out⟩
            exact ⟨k + 1, 2 * X + Z, a3, bad3, R⟩
          case measure => simp [intOf]; omega
        · obtain rfl : k = low := by omega
          have HRR := hide hr
          have HKK := hide hkp
          have hX2 : X < 256128 := by omega
          obtain ⟨_, e1, e2, g1, g2⟩ := hr
          clear hkp
          by_cases c : 510 < X
          · have HF : Hid (fstN g m k a = none) := fstN_none HQ.out (fun hE => ⟨((HV.out hE).2).symm, c⟩)
            go_wp2
            go_ret
            exact ⟨0, a', true, rfl, HRR.out.bad_ true, HKK.out.setCell _ _ (Or.inl rfl), ha', by omega, fun _ => rfl, fun _ => Or.inl ⟨HF.out, rfl⟩⟩
          · have HZ : Hid (-255 ≤ uz ((X : Nat) : Int) ∧ uz ((X : Nat) : Int) ≤ 255) := uz_in (by omega)
            have HT : Hid (bd = true → bad' = true) := fun h => by
              cases hb : bad' with
              | true => rfl
              | false => have := (HBI.out.1 hb).1; rw [h] at this; cases this
            have HF : Hid (bd = false → (fstN g m k a = none ∧ bad' = true) ∨ (fstN g m k a = some (uz (X : Nat), a') ∧ bad' = false)) := fun hbd => by
              cases hbb : bad' with
              | true =>
                refine Or.inl ⟨?_, rfl⟩
                refine fstN_none (X := X) HQ.out (fun hE => ?_)
                have := HBI.out.2 ⟨hbd, hE⟩
                rw [hbb] at this; cases this
              | false =>
                obtain ⟨_, hE⟩ := HBI.out.1 hbb
                obtain ⟨h6, h7⟩ := HV.out hE
                refine Or.inr ⟨?_, rfl⟩
                rw [h6]
                exact fstN_some HQ.out hE h7.symm (by omega)
            rcases Nat.mod_two_eq_zero_or_one X with c2 | c2
            · have HU : Hid (uz ((X : Nat) : Int) = ((X / 2 : Nat) : Int)) := by unfold Hid uz; rw [if_neg (by omega)]; omega
              have e3 : ((X : Nat) : Int).tmod 2 = 0 := by rw [Int.tmod_eq_emod_of_nonneg (by omega)]; omega
              have e4 : ((X : Nat) : Int).tdiv 2 = ((X / 2 : Nat) : Int) := by rw [Int.tdiv_eq_ediv_of_nonneg (by omega)]; omega
              have e5 : ((X : Nat) : Int) % 2 = 0 := by omega
              have e6 : ((X : Nat) : Int) / 2 = ((X / 2 : Nat) : Int) := by omega
              have hxi : (0 : Int) ≤ ((X : Nat) : Int) ∧ ((X : Nat) : Int) ≤ 510 := by omega
              have hhi : (0 : Int) ≤ ((X / 2 : Nat) : Int) ∧ ((X / 2 : Nat) : Int) ≤ 255 := by omega
              generalize ((X / 2 : Nat) : Int) = hf at *
              generalize ((X : Nat) : Int) = y at *
              obtain ⟨hx1, hx2⟩ := hxi
              obtain ⟨hh1, hh2⟩ := hhi
              clear c2
              go_wp2
              go_ret
              exact ⟨uz y, a', bad', ret_int (by rw [HU.out]), HRR.out, HKK.out, ha', HZ.out, HT.out, HF.out⟩
            · have HU : Hid (uz ((X : Nat) : Int) = -((X / 2 : Nat) : Int) - 1) := by unfold Hid uz; rw [if_pos (by omega)]; omega
              have e3 : ((X : Nat) : Int).tmod 2 = 1 := by rw [Int.tmod_eq_emod_of_nonneg (by omega)]; omega
              have e4 : ((X : Nat) : Int).tdiv 2 = ((X / 2 : Nat) : Int) := by rw [Int.tdiv_eq_ediv_of_nonneg (by omega)]; omega
              have e5 : ((X : Nat) : Int) % 2 = 1 := by omega
              have e6 : ((X : Nat) : Int) / 2 = ((X / 2 : Nat) : Int) := by omega
              have hxi : (0 : Int) ≤ ((X : Nat) : Int) ∧ ((X : Nat) : Int) ≤ 510 := by omega
              have hhi : (0 : Int) ≤ ((X / 2 : Nat) : Int) ∧ ((X / 2 : Nat) : Int) ≤ 255 := by omega
              generalize ((X / 2 : Nat) : Int) = hf at *
              generalize ((X : Nat) : Int) = y at *
              obtain ⟨hx1, hx2⟩ := hxi
              obtain ⟨hh1, hh2⟩ := hhi
              clear c2
              go_wp2
              go_ret
              exact ⟨uz y, a', bad', ret_int (by rw [HU.out]), HRR.out, HKK.out, ha', HZ.out, HT.out, HF.out⟩


set_option maxHeartbeats 2000000 in
theorem rmany_two {w : World} {b m a : Nat} {s : Value} {bd : Bool} {g : Nat → Int} (hs : IntsIn w s m g) (hne : ∀ k, s.ownBlock = some k → k ≠ b) (h : RdAt w b s a bd) (ha : a ≤ m) (hm : m ≤ 2000) (hg : ∀ i, i < m → g i = 0 ∨ g i = 1) :
    Calls Tryd.prog 22 #[.pointer (some ⟨b, 0, none⟩), .int .i64 2] w fun e w' => ∃ (z : Int) (a' : Nat) (bad' : Bool), e = .returned (.int .i64 z) ∧ RdAt w' b s a' bad' ∧ Kept (fun i => i = b) w w' ∧ a' ≤ m ∧ (0 ≤ z ∧ z ≤ 3) ∧ (bad' = false ↔ bd = false ∧ a + 2 ≤ m) ∧ (a + 2 ≤ m → a' = a + 2 ∧ z = 2 * g a + g (a + 1)) := by
  have HG := hide hg
  have HR := hide h
  have KB : Hid (∀ (W : World) (a' : Nat) (bad' : Bool), Kept (fun i => i = b) w W → a' ≤ m → RdAt W b s a' bad' → Calls Tryd.prog 21 #[.pointer (some ⟨b, 0, none⟩)] W fun e w' => ∃ (z : Int) (a'' : Nat) (bad'' : Bool), e = .returned (.int .i64 z) ∧ RdAt w' b s a'' bad'' ∧ Kept (fun i => i = b) w w' ∧ ((a' < m ∧ z = g a' ∧ a'' = a' + 1 ∧ bad'' = bad') ∨ (a' = m ∧ z = 0 ∧ a'' = m ∧ bad'' = true))) := fun W a' bad' hk ha' hr =>
    (rbit_two (ints_kept hs hne hk) hne hr ha' hm).mono fun e w' ⟨z, a'', bad'', he, h1, h2, h3⟩ => ⟨z, a'', bad'', he, h1, hk.trans_ h2, h3⟩
  clear hs hne h hg
  go_enter Tryd.func22, Tryd.ntmps22
  go_wp2
  go_loopw [5, 6] (fun u i wr => ∃ (k : Nat) (z : Int) (a' : Nat) (bad' : Bool), k ≤ 2 ∧ i = .int .i64 k ∧ u = .int .i64 z ∧ Hid (0 ≤ z ∧ z + 1 ≤ 2 ^ k) ∧ a' ≤ m ∧ Hid (bad' = false ↔ bd = false ∧ a + k ≤ m) ∧ Hid (a + k ≤ m → a' = a + k ∧ z = ((valN g a 0 k : Nat) : Int)) ∧ RdAt wr b s a' bad' ∧ Kept (fun i => i = b) w wr) (fun _ i _ => 2 - (intOf i).toNat)
  case atStart => exact ⟨0, 0, a, bd, by omega, rfl, rfl, ⟨by omega, by simp⟩, ha, ⟨fun h => ⟨h, by omega⟩, fun h => h.1⟩, fun _ => ⟨rfl, rfl⟩, HR.out, Kept.refl _ _⟩
  case round =>
    obtain ⟨k, z, a', bad', hk, rfl, rfl, HZ, ha', HBI, HV, hr, hkp⟩ := hrel
    have hz3 : 0 ≤ z ∧ z ≤ 3 := by
      have h1 := HZ.out
      have h2 : (2 : Int) ^ k ≤ 4 := by
        rcases (show k = 0 ∨ k = 1 ∨ k = 2 by omega) with rfl | rfl | rfl <;> decide
      omega
    by_cases hkl : k < 2
    · have K := hide (KB.out wr a' bad' hkp ha' hr)
      have HVs := hide (valN_succ g a 0 k)
      clear hr hkp
      go_wp2_with fail
      refine (K.out).mono ?_
      rintro e w3 ⟨y, a3, bad3, rfl, hr3, hk3, h3⟩
      have hy : 0 ≤ y ∧ y ≤ 1 := by
        rcases h3 with ⟨h4, rfl, _⟩ | ⟨_, rfl, _⟩
        · have := HG.out _ h4; omega
        · omega
      have HR3 := hide hr3
      have HK3 := hide hk3
      have HN : Hid (a3 ≤ m ∧ (bad3 = false ↔ bd = false ∧ a + (k + 1) ≤ m) ∧ (a + (k + 1) ≤ m → a3 = a + (k + 1) ∧ 2 * z + y = ((valN g a 0 (k + 1) : Nat) : Int))) := by
        rcases h3 with ⟨h4, h5, rfl, rfl⟩ | ⟨h4, h5, rfl, rfl⟩
        · refine ⟨by omega, ?_, ?_⟩
          · rw [HBI.out]
            constructor
            · rintro ⟨h, h6⟩
              have := (HV.out h6).1
              exact ⟨h, by omega⟩
            · rintro ⟨h, h6⟩; exact ⟨h, by omega⟩
          · intro hle
            obtain ⟨h6, h7⟩ := HV.out (by omega)
            rw [HVs.out, h7, ← h6, h5]
            exact ⟨by omega, by have := HG.out _ h4; omega⟩
        · refine ⟨by omega, ?_, ?_⟩
          · constructor
            · intro h; cases h
            · rintro ⟨_, h⟩
              have := (HV.out (by omega)).1
              omega
          · intro h
            have := (HV.out (by omega)).1
            omega
      have HZ2 : Hid (0 ≤ 2 * z + y ∧ 2 * z + y + 1 ≤ 2 ^ (k + 1)) := by
        have h1 := HZ.out
        unfold Hid
        rcases (show k = 0 ∨ k = 1 by omega) with rfl | rfl
        · simp at h1 ⊢; omega
        · simp at h1 ⊢; omega
      clear hr3 hk3 h3 K HV HBI HZ
      go_wp2
      go_roundw
      case rel =>
        have R : k + 1 ≤ 2 ∧ Value.int .i64 ((k : Int) + 1) = .int .i64 ((k + 1 : Nat) : Int) ∧ Value.int .i64 (2 * z + y) = .int .i64 (2 * z + y) ∧ Hid (0 ≤ 2 * z + y ∧ 2 * z + y + 1 ≤ 2 ^ (k + 1)) ∧ a3 ≤ m ∧ Hid (bad3 = false ↔ bd = false ∧ a + (k + 1) ≤ m) ∧ Hid (a + (k + 1) ≤ m → a3 = a + (k + 1) ∧ 2 * z + y = ((valN g a 0 (k + 1) : Nat) : Int)) ∧ RdAt w3 b s a3 bad3 ∧ Kept (fun i => i = b) w w3 :=
          ⟨by omega, by simp, rfl, HZ2, HN.out.1, HN.out.2.1, HN.out.2.2, HR3.out, HK3.out⟩
        first
          | exact ⟨k + 1, 2 * z + y, a3, bad3, R⟩
          | ((repeat apply Exists.intro); exact ⟨⟨k + 1, 2 * z + y, a3, bad3, R⟩, rfl⟩)
      case measure => simp [intOf]; omega
    · obtain rfl : k = 2 := by omega
      have HRR := hide hr
      have HKK := hide hkp
      have HL : Hid (a + 2 ≤ m → a' = a + 2 ∧ z = 2 * g a + g (a + 1)) := fun h => by
        obtain ⟨h1, h2⟩ := HV.out h
        have g0 := HG.out a (by omega)
        have g1 := HG.out (a + 1) (by omega)
        refine ⟨h1, ?_⟩
        rw [h2, valN_succ, valN_succ]
        show ((2 * (2 * 0 + (g (a + 0)).toNat) + (g (a + 1)).toNat : Nat) : Int) = _
        rw [Nat.add_zero]
        omega
      clear hr hkp HV
      go_wp2
      go_ret
      exact ⟨z, a', bad', rfl, HRR.out, HKK.out, ha', hz3, HBI.out, HL.out⟩
end Go.Proofs.YtjhflcgphejddaaDoor
