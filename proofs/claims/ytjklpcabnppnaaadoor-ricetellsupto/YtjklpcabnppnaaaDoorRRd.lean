/-
  Our own contracts of dropref2's Reader: Bit, Number. Lemmas for the laws above; no statement is proved here.
-/
import Derived.Test.YtjklpcabnppnaaaDoorRcIdx
import Derived.Test.YtjklpcabnppnaaaDoorLstN
import Derived.Deep.QuietTactic
import Derived.BigQuiet
import Derived.Deep.DeepCutAuto
namespace Go.Proofs.YtjklpcabnppnaaaDoor
open Go.RowKit
set_option linter.unusedVariables false
set_option maxRecDepth 100000

/-- A Reader as it lies: of these bits, at this one, bad or not. -/
structure RdAt (w : World) (b : Nat) (s : Value) (at_ : Nat) (bad : Bool) : Prop where
  c0 : w.cell? ⟨b, 0, none⟩ = some s
  c1 : w.cell? ⟨b, 1, none⟩ = some (.int .i64 (at_ : Nat))
  c2 : w.cell? ⟨b, 2, none⟩ = some (.bool bad)
  f1 : w.frozen? ⟨b, 1, none⟩ = false
  f2 : w.frozen? ⟨b, 2, none⟩ = false
theorem RdAt.lt {w : World} {b : Nat} {s : Value} {at_ : Nat} {bad : Bool} (h : RdAt w b s at_ bad) : b < w.heap.size := cell_lt h.c0
theorem RdAt.below {w w' : World} {b : Nat} {s : Value} {at_ : Nat} {bad : Bool} (h : RdAt w b s at_ bad) {B : Nat} (hB : b < B) (hb : Below B w w') : RdAt w' b s at_ bad :=
  ⟨(hb.cell (p := ⟨b, 0, none⟩) hB).trans h.c0, (hb.cell (p := ⟨b, 1, none⟩) hB).trans h.c1, (hb.cell (p := ⟨b, 2, none⟩) hB).trans h.c2, (hb.frozen (p := ⟨b, 1, none⟩) hB).trans h.f1, (hb.frozen (p := ⟨b, 2, none⟩) hB).trans h.f2⟩
theorem RdAt.bad_ {w : World} {b : Nat} {s : Value} {at_ : Nat} {bad : Bool} (h : RdAt w b s at_ bad) (v : Bool) : RdAt (w.setCell ⟨b, 2, none⟩ (.bool v)) b s at_ v := by
  refine ⟨?_, ?_, ?_, by rw [World.frozen?_setCell]; exact h.f1, by rw [World.frozen?_setCell]; exact h.f2⟩
  · rw [World.cell?_setCell_other _ _ _ _ (by simp)]; exact h.c0
  · rw [World.cell?_setCell_other _ _ _ _ (by simp)]; exact h.c1
  · rw [World.cell?_setCell_same _ _ _ h.c2]
theorem RdAt.at_ {w : World} {b : Nat} {s : Value} {a : Nat} {bad : Bool} (h : RdAt w b s a bad) (v : Nat) : RdAt (w.setCell ⟨b, 1, none⟩ (.int .i64 (v : Nat))) b s v bad := by
  refine ⟨?_, ?_, ?_, by rw [World.frozen?_setCell]; exact h.f1, by rw [World.frozen?_setCell]; exact h.f2⟩
  · rw [World.cell?_setCell_other _ _ _ _ (by simp)]; exact h.c0
  · rw [World.cell?_setCell_same _ _ _ h.c1]
  · rw [World.cell?_setCell_other _ _ _ _ (by simp)]; exact h.c2
theorem Kept.to_below {M : Nat → Prop} {w w' : World} (h : Kept M w w') {B : Nat} (hB : B ≤ w.heap.size) (hM : ∀ i, i < B → ¬ M i) : Below B w w' :=
  ⟨h.os, h.tape, h.output, h.size, fun i hi => h.block i (by omega) (hM i hi)⟩
theorem Kept.trans_ {M : Nat → Prop} {w w1 w2 : World} (h : Kept M w w1) (k : Kept M w1 w2) : Kept M w w2 :=
  ⟨k.os.trans h.os, k.tape.trans h.tape, k.output.trans h.output, Nat.le_trans h.size k.size, fun i hi hm => (k.block i (Nat.lt_of_lt_of_le hi h.size) hm).trans (h.block i hi hm)⟩

set_option maxHeartbeats 2000000 in
theorem rbit_any {w0 w : World} {b m a : Nat} {s : Value} {bad : Bool} {g : Nat → Int} (hs : IntsIn w0 s m g) (h0 : w0.heap.size ≤ b) (hb0 : Below w0.heap.size w0 w) (h : RdAt w b s a bad) (ha : a ≤ m) (hm : m ≤ 2000) :
    Calls Tryd.prog 18 #[.pointer (some ⟨b, 0, none⟩)] w fun e w' => ∃ (z : Int) (a' : Nat) (bad' : Bool), e = .returned (.int .i64 z) ∧ RdAt w' b s a' bad' ∧ Kept (fun i => i = b) w w' ∧ ((a < m ∧ z = g a ∧ a' = a + 1 ∧ bad' = bad) ∨ (a = m ∧ z = 0 ∧ a' = m ∧ bad' = true)) := by
  have HR := hide h
  have hbl := h.lt
  obtain ⟨ad, cap, rfl⟩ : ∃ ad cp, s = .slice ad m cp := by
    rcases hs with ⟨rfl, a, cap, rfl⟩ | ⟨h0, b, o, cap, rfl, hc⟩
    · exact ⟨_, _, rfl⟩
    · exact ⟨_, _, rfl⟩
  obtain ⟨c0, c1, c2, f1, f2⟩ := h
  have d0 : ∀ q, (w.drewN q).cell? ⟨b, 0, none⟩ = some (.slice ad m cap) := fun q => c0
  have d1 : ∀ q, (w.drewN q).cell? ⟨b, 1, none⟩ = some (.int .i64 (a : Nat)) := fun q => c1
  by_cases c : a < m
  · obtain ⟨bb, oo, hv, hc⟩ : ∃ bb oo, ad = some ⟨bb, oo, none⟩ ∧ w.cell? ⟨bb, oo + a, none⟩ = some (.int .i64 (g a)) := by
      rcases hs with ⟨rfl, _⟩ | ⟨_, b', o', cap', e, hc⟩
      · omega
      · cases e
        exact ⟨b', o', rfl, cell_below hb0 (hc a c)⟩
    subst hv
    have hbb : bb < w0.heap.size := by
      rcases hs with ⟨rfl, _⟩ | ⟨_, b', o', cap', e, hc'⟩
      · omega
      · cases e
        exact cell_lt (hc' a c)
    have hbne : bb ≠ b := by omega
    have HS1 : Hid (∀ q, Kept (fun i => i = b) w (w.drewN q)) := fun q => (Kept.refl _ w).below (below_drewN (Below.refl _ _) q)
    clear hs
    go_enter Tryd.func18, Tryd.ntmps18
    go_wp2_with fail
    go_quiet (fail)
    generalize hW1 : w.drewN _ = w1 at *
    have HR1 : RdAt w1 b (.slice (some ⟨bb, oo, none⟩) m cap) a bad := hW1 ▸ HR.out.below hbl (below_drewN (Below.refl _ _) _)
    have HK1 : Kept (fun i => i = b) w w1 := hW1 ▸ HS1.out _
    have hc1 : w1.cell? ⟨bb, oo + a, none⟩ = some (.int .i64 (g a)) := hW1 ▸ hc
    obtain ⟨W2, hW2⟩ : ∃ W2, W2 = w1.setCell ⟨b, 1, none⟩ (.int .i64 ((a : Int) + 1)) := ⟨_, rfl⟩
    have HR2 : RdAt W2 b (.slice (some ⟨bb, oo, none⟩) m cap) (a + 1) bad := hW2 ▸ HR1.at_ (a + 1)
    have HK2 : Hid (Kept (fun i => i = b) w W2) := hW2 ▸ HK1.setCell _ _ (Or.inl rfl)
    have hc2 : W2.cell? ⟨bb, oo + a, none⟩ = some (.int .i64 (g a)) := by
      rw [hW2, World.cell?_setCell_other _ _ _ _ (fun e => hbne (congrArg Addr.block e).symm)]; exact hc1
    have HRR := hide HR2
    obtain ⟨_, e1, _, g1, _⟩ := HR1
    obtain ⟨v0, v1, _, _, _⟩ := HR2
    have hw2 : ∀ q, (W2.drewN q).cell? ⟨b, 0, none⟩ = some (.slice (some ⟨bb, oo, none⟩) m cap) := fun q => v0
    have hw3 : ∀ q, (W2.drewN q).cell? ⟨b, 1, none⟩ = some (.int .i64 ((a : Int) + 1)) := fun q => v1
    have hw4 : ∀ q, (W2.drewN q).cell? ⟨bb, oo + a, none⟩ = some (.int .i64 (g a)) := fun q => hc2
    have hle : decide (m ≤ a) = false := by simp; omega
    have HW2 := hide hW2
    clear hW1 hW2 HK1 hc hc1 c0 c1 c2 d0 d1 HS1 HR
    go_wp2_with fail
    rw [← HW2.out]
    go_quiet (fail)
    go_wp2
    go_ret
    exact ⟨g a, a + 1, bad, rfl, HRR.out.below HRR.out.lt (below_drewN (Below.refl _ _) _), HK2.out.below (below_drewN (Below.refl _ _) _), Or.inl ⟨c, rfl, rfl, rfl⟩⟩
  · obtain rfl : a = m := by omega
    clear hs
    go_enter Tryd.func18, Tryd.ntmps18
    go_wp2_with fail
    go_quiet (fail)
    generalize hW1 : w.drewN _ = w1 at *
    have HR1 : RdAt w1 b (.slice ad a cap) a bad := hW1 ▸ HR.out.below hbl (below_drewN (Below.refl _ _) _)
    have HK1 : Hid (Kept (fun i => i = b) w w1) := hW1 ▸ (Kept.refl _ w).below (below_drewN (Below.refl _ _) _)
    have HRR := hide HR1
    obtain ⟨_, _, e2, _, g2⟩ := HR1
    have hle : decide (a ≤ a) = true := by simp
    clear hW1 c0 c1 c2 d0 d1 HR
    go_wp2
    go_ret
    exact ⟨0, a, true, rfl, HRR.out.bad_ true, HK1.out.setCell _ _ (Or.inl rfl), by simp⟩

theorem fstN_some {g : Nat → Int} {m low a q X : Nat} (hq : ones g a (m - a) = q) (hE : a + q + 1 + low ≤ m) (hX : valN g (a + q + 1) q low = X) (h : X ≤ 510) : fstN g m low a = some (uz (X : Nat), a + q + 1 + low) := by
  unfold fstN
  rw [hq, hX, if_pos hE, if_pos h]
theorem fstN_none {g : Nat → Int} {m low a q X : Nat} (hq : ones g a (m - a) = q) (h : a + q + 1 + low ≤ m → valN g (a + q + 1) q low = X ∧ 510 < X) : fstN g m low a = none := by
  unfold fstN
  rw [hq]
  by_cases c : a + q + 1 + low ≤ m
  · obtain ⟨h1, h2⟩ := h c
    rw [h1, if_pos c, if_neg (by omega)]
  · rw [if_neg c]

set_option maxHeartbeats 4000000 in
theorem rnum_any {w0 w : World} {b m a low : Nat} {s : Value} {g : Nat → Int} (hs : IntsIn w0 s m g) (h0 : w0.heap.size ≤ b) (hb0 : Below w0.heap.size w0 w) (h : RdAt w b s a false) (ha : a ≤ m) (hm : m ≤ 2000) (hl : low ≤ 7) (hg : ∀ i, i < m → g i = 0 ∨ g i = 1) :
    Calls Tryd.prog 9 #[.pointer (some ⟨b, 0, none⟩), .int .i64 low] w fun e w' => ∃ (z : Int) (a' : Nat) (bad' : Bool), e = .returned (.int .i64 z) ∧ RdAt w' b s a' bad' ∧ Kept (fun i => i = b) w w' ∧ a' ≤ m ∧ ((fstN g m low a = none ∧ bad' = true) ∨ (fstN g m low a = some (z, a') ∧ bad' = false)) := by
  have HS := hide hs
  have HB0 := hide hb0
  have HR := hide h
  have HG := hide hg
  have hw0 := hb0.size
  have KB : Hid (∀ (W : World) (a' : Nat) (bad' : Bool), Kept (fun i => i = b) w W → a' ≤ m → RdAt W b s a' bad' → Calls Tryd.prog 18 #[.pointer (some ⟨b, 0, none⟩)] W fun e w' => ∃ (z : Int) (a'' : Nat) (bad'' : Bool), e = .returned (.int .i64 z) ∧ RdAt w' b s a'' bad'' ∧ Kept (fun i => i = b) w w' ∧ ((a' < m ∧ z = g a' ∧ a'' = a' + 1 ∧ bad'' = bad') ∨ (a' = m ∧ z = 0 ∧ a'' = m ∧ bad'' = true))) := fun W a' bad' hk ha' hr =>
    (rbit_any hs h0 (hb0.trans (hk.to_below hw0 (fun i hi => by omega))) hr ha' hm).mono fun e w' ⟨z, a'', bad'', he, h1, h2, h3⟩ => ⟨z, a'', bad'', he, h1, hk.trans_ h2, h3⟩
  obtain ⟨q, hq⟩ : ∃ q, q = ones g a (m - a) := ⟨_, rfl⟩
  have hqm : a + q ≤ m := by have := ones_le g (m - a) a; omega
  have H1 : Hid (∀ j, j < q → g (a + j) = 1) := fun j hj => (hg _ (by omega)).resolve_left (ones_before (by rw [← hq]; exact hj))
  have H2 : Hid (a + q < m → g (a + q) = 0) := fun h => by rw [hq]; exact ones_at (by omega)
  have HQ := hide hq.symm
  clear hs hb0 h hg hq
  go_enter Tryd.func9, Tryd.ntmps9
  go_wp2
  go_loopw [5] (fun u wr => ∃ j : Nat, j ≤ q ∧ u = .int .i64 j ∧ RdAt wr b s (a + j) false ∧ Kept (fun i => i = b) w wr) (fun u _ => q - (intOf u).toNat)
  case atStart => exact ⟨0, Nat.zero_le _, rfl, HR.out, Kept.refl _ _⟩
  case round =>
    obtain ⟨j, hj, rfl, hr, hk⟩ := hrel
    have K := hide (KB.out wr (a + j) false hk (by omega) hr)
    clear hr hk
    by_cases hlt : j < q
    · have e1 := H1.out j hlt
      go_wp2_with fail
      refine (K.out).mono ?_
      rintro e w2 ⟨z, a2, bad2, rfl, hr2, hk2, h3⟩
      obtain ⟨_, rfl, rfl, rfl⟩ := h3.resolve_right (fun h => by omega)
      have HR2 := hide hr2
      have HK2 := hide hk2
      rw [e1]
      clear hr2 hk2 h3 K e1
      go_wp2
      go_roundw
      case rel => exact ⟨j + 1, by omega, by go_num, HR2.out, HK2.out⟩
      case measure => simp [intOf]; omega
    · obtain rfl : j = q := by omega
      go_wp2_with fail
      refine (K.out).mono ?_
      rintro e w2 ⟨z, a2, bad2, rfl, hr2, hk2, h3⟩
      have hz0 : z = 0 := by
        rcases h3 with ⟨h4, rfl, _⟩ | ⟨_, rfl, _⟩
        · exact H2.out h4
        · rfl
      subst hz0
      have HR2 := hide hr2
      have HK2 := hide hk2
      have H3 : Hid ((a + j < m ∧ a2 = a + j + 1 ∧ bad2 = false) ∨ (a + j = m ∧ a2 = m ∧ bad2 = true)) := by
        rcases h3 with ⟨h4, _, h5, h6⟩ | ⟨h4, _, h5, h6⟩
        · exact Or.inl ⟨h4, h5, h6⟩
        · exact Or.inr ⟨h4, h5, h6⟩
      clear hr2 hk2 h3 K
      go_wp2
      go_loopw [5, 6] (fun u i wr => ∃ (k X a' : Nat) (bad' : Bool), k ≤ low ∧ i = .int .i64 k ∧ u = .int .i64 (X : Nat) ∧ X < 2001 * 2 ^ k ∧ a' ≤ m ∧ (bad' = false ↔ a + j + 1 + k ≤ m) ∧ Hid (bad' = false → a' = a + j + 1 + k ∧ X = valN g (a + j + 1) j k) ∧ RdAt wr b s a' bad' ∧ Kept (fun i => i = b) w wr) (fun _ i _ => low - (intOf i).toNat)
      case atStart =>
        refine ⟨0, j, a2, bad2, Nat.zero_le _, rfl, rfl, by omega, ?_, ?_, ?_, HR2.out, HK2.out⟩
        · rcases H3.out with ⟨h4, h5, _⟩ | ⟨_, h5, _⟩ <;> omega
        · rcases H3.out with ⟨h4, h5, rfl⟩ | ⟨h4, h5, rfl⟩
          · simp; omega
          · simp; omega
        · intro hbf
          rcases H3.out with ⟨h4, h5, _⟩ | ⟨_, _, h6⟩
          · exact ⟨h5, rfl⟩
          · rw [hbf] at h6; cases h6
      case round =>
        obtain ⟨k, X, a', bad', hk, rfl, rfl, hX, ha', hbi, HV, hr, hkp⟩ := hrel
        have hp7 : 2 ^ k ≤ 128 := Nat.le_trans (Nat.pow_le_pow_right (by omega) (show k ≤ 7 by omega)) (by decide)
        by_cases hkl : k < low
        · have K := hide (KB.out wr a' bad' hkp ha' hr)
          have HBI := hide hbi
          have hp2 : 2 ^ (k + 1) = 2 * 2 ^ k := by rw [Nat.pow_succ, Nat.mul_comm]
          have HVs := hide (valN_succ g (a + j + 1) j k)
          have hX2 : X < 256128 := by omega
          clear hr hkp hbi
          go_wp2_with fail
          refine (K.out).mono ?_
          rintro e w3 ⟨z, a3, bad3, rfl, hr3, hk3, h3⟩
          obtain ⟨Z, rfl, hZ⟩ : ∃ Z : Nat, z = (Z : Nat) ∧ Z ≤ 1 := by
            rcases h3 with ⟨h4, rfl, _⟩ | ⟨_, rfl, _⟩
            · have := HG.out _ h4
              exact ⟨(g a').toNat, by omega, by omega⟩
            · exact ⟨0, rfl, by omega⟩
          have HR3 := hide hr3
          have HK3 := hide hk3
          have HN : Hid (a3 ≤ m ∧ (bad3 = false ↔ a + j + 1 + (k + 1) ≤ m) ∧ (bad3 = false → a3 = a + j + 1 + (k + 1) ∧ 2 * X + Z = valN g (a + j + 1) j (k + 1))) := by
            rcases h3 with ⟨h4, h5, rfl, rfl⟩ | ⟨h4, h5, rfl, rfl⟩
            · refine ⟨by omega, ?_, ?_⟩
              · rw [HBI.out]
                constructor
                · intro h
                  have := (HV.out (HBI.out.2 h)).1
                  omega
                · intro h; omega
              · intro hbf
                obtain ⟨h6, h7⟩ := HV.out hbf
                rw [HVs.out, ← h7, ← h6, ← h5, Int.toNat_natCast]
                exact ⟨by omega, rfl⟩
            · refine ⟨by omega, ?_, ?_⟩
              · constructor
                · intro h; cases h
                · intro h
                  have := (HV.out (HBI.out.2 (by omega))).1
                  omega
              · intro h; cases h
          have hXZ : Hid (2 * X + Z < 2001 * 2 ^ (k + 1)) := by unfold Hid; omega
          clear hr3 hk3 h3 K HV HBI
          go_wp2
          go_roundw
          case rel =>
            have R : k + 1 ≤ low ∧ Value.int .i64 ((k : Int) + 1) = .int .i64 ((k + 1 : Nat) : Int) ∧ Value.int .i64 (2 * (X : Int) + (Z : Int)) = .int .i64 ((2 * X + Z : Nat) : Int) ∧ 2 * X + Z < 2001 * 2 ^ (k + 1) ∧ a3 ≤ m ∧ (bad3 = false ↔ a + j + 1 + (k + 1) ≤ m) ∧ Hid (bad3 = false → a3 = a + j + 1 + (k + 1) ∧ 2 * X + Z = valN g (a + j + 1) j (k + 1)) ∧ RdAt w3 b s a3 bad3 ∧ Kept (fun i => i = b) w w3 :=
              ⟨by omega, by simp, by simp, hXZ.out, HN.out.1, HN.out.2.1, HN.out.2.2, HR3.out, HK3.out⟩
            exact ⟨k + 1, 2 * X + Z, a3, bad3, R⟩
          case measure => simp [intOf]; omega
        · obtain rfl : k = low := by omega
          have HBI := hide hbi
          have HRR := hide hr
          have HKK := hide hkp
          have hX2 : X < 256128 := by omega
          obtain ⟨_, e1, e2, g1, g2⟩ := hr
          clear hbi hkp
          by_cases c : 510 < X
          · have HF : Hid (fstN g m k a = none) := fstN_none HQ.out (fun hE => ⟨((HV.out (HBI.out.2 hE)).2).symm, c⟩)
            go_wp2
            go_ret
            exact ⟨0, a', true, rfl, HRR.out.bad_ true, HKK.out.setCell _ _ (Or.inl rfl), ha', Or.inl ⟨HF.out, rfl⟩⟩
          · have HF : Hid ((fstN g m k a = none ∧ bad' = true) ∨ (fstN g m k a = some (uz (X : Nat), a') ∧ bad' = false)) := by
              cases hbb : bad' with
              | true =>
                refine Or.inl ⟨?_, rfl⟩
                refine fstN_none (X := X) HQ.out (fun hE => ?_)
                have := HBI.out.2 hE
                rw [hbb] at this; cases this
              | false =>
                obtain ⟨h6, h7⟩ := HV.out hbb
                refine Or.inr ⟨?_, rfl⟩
                have hE := HBI.out.1 hbb
                rw [h6]
                exact fstN_some HQ.out hE h7.symm (by omega)
            rcases Nat.mod_two_eq_zero_or_one X with c2 | c2
            · have HU : Hid (uz ((X : Nat) : Int) = ((X / 2 : Nat) : Int)) := by unfold Hid uz; rw [if_neg (by omega)]; omega
              have e3 : ((X : Nat) : Int).tmod 2 = 0 := by rw [Int.tmod_eq_emod_of_nonneg (by omega)]; omega
              have e4 : ((X : Nat) : Int).tdiv 2 = ((X / 2 : Nat) : Int) := by rw [Int.tdiv_eq_ediv_of_nonneg (by omega)]; omega
              have e5 : ((X : Nat) : Int) % 2 = 0 := by omega
              have e6 : ((X : Nat) : Int) / 2 = ((X / 2 : Nat) : Int) := by omega
              have hxi : (0 : Int) ≤ ((X : Nat) : Int) ∧ ((X : Nat) : Int) ≤ 510 := by omega
              have hhi : (0 : Int) ≤ ((X / 2 : Nat) : Int) ∧ ((X / 2 : Nat) : Int) ≤ 255 := by omega
              generalize ((X / 2 : Nat) : Int) = hf at *
              generalize ((X : Nat) : Int) = y at *
              obtain ⟨hx1, hx2⟩ := hxi
              obtain ⟨hh1, hh2⟩ := hhi
              clear c2
              go_wp2
              go_ret
              exact ⟨uz y, a', bad', ret_int (by rw [HU.out]), HRR.out, HKK.out, ha', HF.out⟩
            · have HU : Hid (uz ((X : Nat) : Int) = -((X / 2 : Nat) : Int) - 1) := by unfold Hid uz; rw [if_pos (by omega)]; omega
              have e3 : ((X : Nat) : Int).tmod 2 = 1 := by rw [Int.tmod_eq_emod_of_nonneg (by omega)]; omega
              have e4 : ((X : Nat) : Int).tdiv 2 = ((X / 2 : Nat) : Int) := by rw [Int.tdiv_eq_ediv_of_nonneg (by omega)]; omega
              have e5 : ((X : Nat) : Int) % 2 = 1 := by omega
              have e6 : ((X : Nat) : Int) / 2 = ((X / 2 : Nat) : Int) := by omega
              have hxi : (0 : Int) ≤ ((X : Nat) : Int) ∧ ((X : Nat) : Int) ≤ 510 := by omega
              have hhi : (0 : Int) ≤ ((X / 2 : Nat) : Int) ∧ ((X / 2 : Nat) : Int) ≤ 255 := by omega
              generalize ((X / 2 : Nat) : Int) = hf at *
              generalize ((X : Nat) : Int) = y at *
              obtain ⟨hx1, hx2⟩ := hxi
              obtain ⟨hh1, hh2⟩ := hhi
              clear c2
              go_wp2
              go_ret
              exact ⟨uz y, a', bad', ret_int (by rw [HU.out]), HRR.out, HKK.out, ha', HF.out⟩
end Go.Proofs.YtjklpcabnppnaaaDoor
