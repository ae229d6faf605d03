/-
  Lemmas for the law above, joined into one text (RRe, RRbK, RAlW). No statement is proved here.
-/
import Derived.Test.YtjhflcgphejddaaDoorBG29
import Derived.Test.YtjhflcgphejddaaDoorBG25
import Derived.Test.YtjhflcgphejddaaDoorBG10
import Derived.Test.YtjhflcgphejddaaDoorBG2
import Derived.Test.YtjhflcgphejddaaDoorBG8
namespace Go.Proofs.YtjhflcgphejddaaDoor
open Go.RowKit
set_option linter.unusedVariables false
set_option maxRecDepth 100000

theorem ints_kept {w W : World} {s : Value} {m b : Nat} {g : Nat → Int} (h : IntsIn w s m g) (hne : ∀ k, s.ownBlock = some k → k ≠ b) (hk : Kept (fun i => i = b) w W) : IntsIn W s m g := by
  rcases h with h | ⟨h0, bb, o, cap, rfl, hc⟩
  · exact Or.inl h
  · refine Or.inr ⟨h0, bb, o, cap, rfl, fun i hi => ?_⟩
    rw [World.cell?_of_block (w := w) (hk.block bb (cell_lt (hc i hi)) (hne bb rfl))]
    exact hc i hi

set_option maxHeartbeats 2000000 in
theorem rbit_two {w : World} {b m a : Nat} {s : Value} {bad : Bool} {g : Nat → Int} (hs : IntsIn w s m g) (hne : ∀ k, s.ownBlock = some k → k ≠ b) (h : RdAt w b s a bad) (ha : a ≤ m) (hm : m ≤ 2000) :
    Calls Tryd.prog 21 #[.pointer (some ⟨b, 0, none⟩)] w fun e w' => ∃ (z : Int) (a' : Nat) (bad' : Bool), e = .returned (.int .i64 z) ∧ RdAt w' b s a' bad' ∧ Kept (fun i => i = b) w w' ∧ ((a < m ∧ z = g a ∧ a' = a + 1 ∧ bad' = bad) ∨ (a = m ∧ z = 0 ∧ a' = m ∧ bad' = true)) := by
  have HR := hide h
  have hbl := h.lt
  obtain ⟨ad, cap, rfl⟩ : ∃ ad cp, s = .slice ad m cp := by
    rcases hs with ⟨rfl, a, cap, rfl⟩ | ⟨h0, b, o, cap, rfl, hc⟩
    · exact ⟨_, _, rfl⟩
    · exact ⟨_, _, rfl⟩
  obtain ⟨c0, c1, c2, f1, f2⟩ := h
  have d0 : ∀ q, (w.drewN q).cell? ⟨b, 0, none⟩ = some (.slice ad m cap) := fun q => c0
  have d1 : ∀ q, (w.drewN q).cell? ⟨b, 1, none⟩ = some (.int .i64 (a : Nat)) := fun q => c1
  by_cases c : a < m
  · obtain ⟨bb, oo, hv, hc⟩ : ∃ bb oo, ad = some ⟨bb, oo, none⟩ ∧ w.cell? ⟨bb, oo + a, none⟩ = some (.int .i64 (g a)) := by
      rcases hs with ⟨rfl, _⟩ | ⟨_, b', o', cap', e, hc⟩
      · omega
      · cases e
        exact ⟨b', o', rfl, hc a c⟩
    subst hv
    have hbne : bb ≠ b := hne bb rfl
    have HS1 : Hid (∀ q, Kept (fun i => i = b) w (w.drewN q)) := fun q => (Kept.refl _ w).below (below_drewN (Below.refl _ _) q)
    clear hs
    go_enter Tryd.func21, Tryd.ntmps21
    go_wp2_with fail
    go_quiet (fail)
    generalize hW1 : w.drewN _ = w1 at *
    have HR1 : RdAt w1 b (.slice (some ⟨bb, oo, none⟩) m cap) a bad := hW1 ▸ HR.out.below hbl (below_drewN (Below.refl _ _) _)
    have HK1 : Kept (fun i => i = b) w w1 := hW1 ▸ HS1.out _
    have hc1 : w1.cell? ⟨bb, oo + a, none⟩ = some (.int .i64 (g a)) := hW1 ▸ hc
    obtain ⟨W2, hW2⟩ : ∃ W2, W2 = w1.setCell ⟨b, 1, none⟩ (.int .i64 ((a : Int) + 1)) := ⟨_, rfl⟩
    have HR2 : RdAt W2 b (.slice (some ⟨bb, oo, none⟩) m cap) (a + 1) bad := hW2 ▸ HR1.at_ (a + 1)
    have HK2 : Hid (Kept (fun i => i = b) w W2) := hW2 ▸ HK1.setCell _ _ (Or.inl rfl)
    have hc2 : W2.cell? ⟨bb, oo + a, none⟩ = some (.int .i64 (g a)) := by
      rw [hW2, World.cell?_setCell_other _ _ _ _ (fun e => hbne (congrArg Addr.block e).symm)]; exact hc1
    have HRR := hide HR2
    obtain ⟨_, e1, _, g1, _⟩ := HR1
    obtain ⟨v0, v1, _, _, _⟩ := HR2
    have hw2 : ∀ q, (W2.drewN q).cell? ⟨b, 0, none⟩ = some (.slice (some ⟨bb, oo, none⟩) m cap) := fun q => v0
    have hw3 : ∀ q, (W2.drewN q).cell? ⟨b, 1, none⟩ = some (.int .i64 ((a : Int) + 1)) := fun q => v1
    have hw4 : ∀ q, (W2.drewN q).cell? ⟨bb, oo + a, none⟩ = some (.int .i64 (g a)) := fun q => hc2
    have hle : decide (m ≤ a) = false := by simp; omega
    have HW2 := hide hW2
    clear hW1 hW2 HK1 hc hc1 c0 c1 c2 d0 d1 HS1 HR
    go_wp2_with fail
    rw [← HW2.out]
    go_quiet (fail)
    go_wp2
    go_ret
    exact ⟨g a, a + 1, bad, rfl, HRR.out.below HRR.out.lt (below_drewN (Below.refl _ _) _), HK2.out.below (below_drewN (Below.refl _ _) _), Or.inl ⟨c, rfl, rfl, rfl⟩⟩
  · obtain rfl : a = m := by omega
    clear hs
    go_enter Tryd.func21, Tryd.ntmps21
    go_wp2_with fail
    go_quiet (fail)
    generalize hW1 : w.drewN _ = w1 at *
    have HR1 : RdAt w1 b (.slice ad a cap) a bad := hW1 ▸ HR.out.below hbl (below_drewN (Below.refl _ _) _)
    have HK1 : Hid (Kept (fun i => i = b) w w1) := hW1 ▸ (Kept.refl _ w).below (below_drewN (Below.refl _ _) _)
    have HRR := hide HR1
    obtain ⟨_, _, e2, _, g2⟩ := HR1
    have hle : decide (a ≤ a) = true := by simp
    clear hW1 c0 c1 c2 d0 d1 HR
    go_wp2
    go_ret
    exact ⟨0, a, true, rfl, HRR.out.bad_ true, HK1.out.setCell _ _ (Or.inl rfl), by simp⟩

set_option maxHeartbeats 4000000 in
theorem rnum_two {w : World} {b m a low : Nat} {s : Value} {bd : Bool} {g : Nat → Int} (hs : IntsIn w s m g) (hne : ∀ k, s.ownBlock = some k → k ≠ b) (h : RdAt w b s a bd) (ha : a ≤ m) (hm : m ≤ 2000) (hl : low ≤ 7) (hg : ∀ i, i < m → g i = 0 ∨ g i = 1) :
    Calls Tryd.prog 23 #[.pointer (some ⟨b, 0, none⟩), .int .i64 low] w fun e w' => ∃ (z : Int) (a' : Nat) (bad' : Bool), e = .returned (.int .i64 z) ∧ RdAt w' b s a' bad' ∧ Kept (fun i => i = b) w w' ∧ a' ≤ m ∧ (-255 ≤ z ∧ z ≤ 255) ∧ (bd = true → bad' = true) ∧ (bd = false → (fstN g m low a = none ∧ bad' = true) ∨ (fstN g m low a = some (z, a') ∧ bad' = false)) := by
  have HS := hide hs
  have HR := hide h
  have HG := hide hg
  have KB : Hid (∀ (W : World) (a' : Nat) (bad' : Bool), Kept (fun i => i = b) w W → a' ≤ m → RdAt W b s a' bad' → Calls Tryd.prog 21 #[.pointer (some ⟨b, 0, none⟩)] W fun e w' => ∃ (z : Int) (a'' : Nat) (bad'' : Bool), e = .returned (.int .i64 z) ∧ RdAt w' b s a'' bad'' ∧ Kept (fun i => i = b) w w' ∧ ((a' < m ∧ z = g a' ∧ a'' = a' + 1 ∧ bad'' = bad') ∨ (a' = m ∧ z = 0 ∧ a'' = m ∧ bad'' = true))) := fun W a' bad' hk ha' hr =>
    (rbit_two (ints_kept hs hne hk) hne hr ha' hm).mono fun e w' ⟨z, a'', bad'', he, h1, h2, h3⟩ => ⟨z, a'', bad'', he, h1, hk.trans_ h2, h3⟩
  obtain ⟨q, hq⟩ : ∃ q, q = ones g a (m - a) := ⟨_, rfl⟩
  have hqm : a + q ≤ m := by have := ones_le g (m - a) a; omega
  have H1 : Hid (∀ j, j < q → g (a + j) = 1) := fun j hj => (hg _ (by omega)).resolve_left (ones_before (by rw [← hq]; exact hj))
  have H2 : Hid (a + q < m → g (a + q) = 0) := fun h => by rw [hq]; exact ones_at (by omega)
  have HQ := hide hq.symm
  clear hs h hg hq hne
  go_enter Tryd.func23, Tryd.ntmps23
  go_wp2
  go_loopw [5] (fun u wr => ∃ j : Nat, j ≤ q ∧ u = .int .i64 j ∧ RdAt wr b s (a + j) bd ∧ Kept (fun i => i = b) w wr) (fun u _ => q - (intOf u).toNat)
  case atStart => exact ⟨0, Nat.zero_le _, rfl, HR.out, Kept.refl _ _⟩
  case round =>
    obtain ⟨j, hj, rfl, hr, hk⟩ := hrel
    have K := hide (KB.out wr (a + j) bd hk (by omega) hr)
    clear hr hk
    by_cases hlt : j < q
    · have e1 := H1.out j hlt
      go_wp2_with fail
      refine (K.out).mono ?_
      rintro e w2 ⟨z, a2, bad2, rfl, hr2, hk2, h3⟩
      obtain ⟨_, rfl, rfl, rfl⟩ := h3.resolve_right (fun h => by omega)
      have HR2 := hide hr2
      have HK2 := hide hk2
      rw [e1]
      clear hr2 hk2 h3 K e1
      go_wp2
      go_roundw
      case rel => exact ⟨j + 1, by omega, by go_num, HR2.out, HK2.out⟩
      case measure => simp [intOf]; omega
    · obtain rfl : j = q := by omega
      go_wp2_with fail
      refine (K.out).mono ?_
      rintro e w2 ⟨z, a2, bad2, rfl, hr2, hk2, h3⟩
      have hz0 : z = 0 := by
        rcases h3 with ⟨h4, rfl, _⟩ | ⟨_, rfl, _⟩
        · exact H2.out h4
        · rfl
      subst hz0
      have HR2 := hide hr2
      have HK2 := hide hk2
      have H3 : Hid ((a + j < m ∧ a2 = a + j + 1 ∧ bad2 = bd) ∨ (a + j = m ∧ a2 = m ∧ bad2 = true)) := by
        rcases h3 with ⟨h4, _, h5, h6⟩ | ⟨h4, _, h5, h6⟩
        · exact Or.inl ⟨h4, h5, h6⟩
        · exact Or.inr ⟨h4, h5, h6⟩
      clear hr2 hk2 h3 K
      go_wp2
      go_loopw [5, 6] (fun u i wr => ∃ (k X a' : Nat) (bad' : Bool), k ≤ low ∧ i = .int .i64 k ∧ u = .int .i64 (X : Nat) ∧ X < 2001 * 2 ^ k ∧ a' ≤ m ∧ Hid (bad' = false ↔ bd = false ∧ a + j + 1 + k ≤ m) ∧ Hid (a + j + 1 + k ≤ m → a' = a + j + 1 + k ∧ X = valN g (a + j + 1) j k) ∧ RdAt wr b s a' bad' ∧ Kept (fun i => i = b) w wr) (fun _ i _ => low - (intOf i).toNat)
      case atStart =>
        refine ⟨0, j, a2, bad2, Nat.zero_le _, rfl, rfl, by omega, ?_, ?_, ?_, HR2.out, HK2.out⟩
        · rcases H3.out with ⟨h4, h5, _⟩ | ⟨_, h5, _⟩ <;> omega
        · unfold Hid
          rcases H3.out with ⟨h4, h5, rfl⟩ | ⟨h4, h5, rfl⟩
          · exact ⟨fun h => ⟨h, by omega⟩, fun h => h.1⟩
          · exact ⟨(fun h => by cases h), (fun h => by have := h.2; omega)⟩
        · intro hle
          rcases H3.out with ⟨h4, h5, _⟩ | ⟨h4, _, h6⟩
          · exact ⟨h5, rfl⟩
          · omega
      case round =>
        obtain ⟨k, X, a', bad', hk, rfl, rfl, hX, ha', HBI, HV, hr, hkp⟩ := hrel
        have hp7 : 2 ^ k ≤ 128 := Nat.le_trans (Nat.pow_le_pow_right (by omega) (show k ≤ 7 by omega)) (by decide)
        by_cases hkl : k < low
        · have K := hide (KB.out wr a' bad' hkp ha' hr)
          have hp2 : 2 ^ (k + 1) = 2 * 2 ^ k := by rw [Nat.pow_succ, Nat.mul_comm]
          have HVs := hide (valN_succ g (a + j + 1) j k)
          have hX2 : X < 256128 := by omega
          clear hr hkp
          go_wp2_with fail
          refine (K.out).mono ?_
          rintro e w3 ⟨z, a3, bad3, rfl, hr3, hk3, h3⟩
          obtain ⟨Z, rfl, hZ⟩ : ∃ Z : Nat, z = (Z : Nat) ∧ Z ≤ 1 := by
            rcases h3 with ⟨h4, rfl, _⟩ | ⟨_, rfl, _⟩
            · have := HG.out _ h4
              exact ⟨(g a').toNat, by omega, by omega⟩
            · exact ⟨0, rfl, by omega⟩
          have HR3 := hide hr3
          have HK3 := hide hk3
          have HN : Hid (a3 ≤ m ∧ (bad3 = false ↔ bd = false ∧ a + j + 1 + (k + 1) ≤ m) ∧ (a + j + 1 + (k + 1) ≤ m → a3 = a + j + 1 + (k + 1) ∧ 2 * X + Z = valN g (a + j + 1) j (k + 1))) := by
            rcases h3 with ⟨h4, h5, rfl, rfl⟩ | ⟨h4, h5, rfl, rfl⟩
            · refine ⟨by omega, ?_, ?_⟩
              · rw [HBI.out]
                constructor
                · rintro ⟨h, h6⟩
                  have := (HV.out h6).1
                  exact ⟨h, by omega⟩
                · rintro ⟨h, h6⟩; exact ⟨h, by omega⟩
              · intro hle
                obtain ⟨h6, h7⟩ := HV.out (by omega)
                rw [HVs.out, ← h7, ← h6, ← h5, Int.toNat_natCast]
                exact ⟨by omega, rfl⟩
            · refine ⟨by omega, ?_, ?_⟩
              · constructor
                · intro h; cases h
                · rintro ⟨_, h⟩
                  have := (HV.out (by omega)).1
                  omega
              · intro h
                have := (HV.out (by omega)).1
                omega
          have hXZ : Hid (2 * X + Z < 2001 * 2 ^ (k + 1)) := by unfold Hid; omega
          clear hr3 hk3 h3 K HV HBI
          go_wp2
          go_roundw
          case rel =>
            have R : k + 1 ≤ low ∧ Value.int .i64 ((k : Int) + 1) = .int .i64 ((k + 1 : Nat) : Int) ∧ Value.int .i64 (2 * (X : Int) + (Z : Int)) = .int .i64 ((2 * X + Z : Nat) : Int) ∧ 2 * X + Z < 2001 * 2 ^ (k + 1) ∧ a3 ≤ m ∧ Hid (bad3 = false ↔ bd = false ∧ a + j + 1 + (k + 1) ≤ m) ∧ Hid (a + j + 1 + (k + 1) ≤ m → a3 = a + j + 1 + (k + 1) ∧ 2 * X + Z = valN g (a + j + 1) j (k + 1)) ∧ RdAt w3 b s a3 bad3 ∧ Kept (fun i => i = b) w w3 :=
              ⟨by omega, by simp, by simp, hXZ.out, HN.out.1, HN.out.2.1, HN.out.2.2, HR3.out, HK3.out⟩
            exact ⟨k + 1, 2 * X + Z, a3, bad3, R⟩
          case measure => simp [intOf]; omega
        · obtain rfl : k = low := by omega
          have HRR := hide hr
          have HKK := hide hkp
          have hX2 : X < 256128 := by omega
          obtain ⟨_, e1, e2, g1, g2⟩ := hr
          clear hkp
          by_cases c : 510 < X
          · have HF : Hid (fstN g m k a = none) := fstN_none HQ.out (fun hE => ⟨((HV.out hE).2).symm, c⟩)
            go_wp2
            go_ret
            exact ⟨0, a', true, rfl, HRR.out.bad_ true, HKK.out.setCell _ _ (Or.inl rfl), ha', by omega, fun _ => rfl, fun _ => Or.inl ⟨HF.out, rfl⟩⟩
          · have HZ : Hid (-255 ≤ uz ((X : Nat) : Int) ∧ uz ((X : Nat) : Int) ≤ 255) := uz_in (by omega)
            have HT : Hid (bd = true → bad' = true) := fun h => by
              cases hb : bad' with
              | true => rfl
              | false => have := (HBI.out.1 hb).1; rw [h] at this; cases this
            have HF : Hid (bd = false → (fstN g m k a = none ∧ bad' = true) ∨ (fstN g m k a = some (uz (X : Nat), a') ∧ bad' = false)) := fun hbd => by
              cases hbb : bad' with
              | true =>
                refine Or.inl ⟨?_, rfl⟩
                refine fstN_none (X := X) HQ.out (fun hE => ?_)
                have := HBI.out.2 ⟨hbd, hE⟩
                rw [hbb] at this; cases this
              | false =>
                obtain ⟨_, hE⟩ := HBI.out.1 hbb
                obtain ⟨h6, h7⟩ := HV.out hE
                refine Or.inr ⟨?_, rfl⟩
                rw [h6]
                exact fstN_some HQ.out hE h7.symm (by omega)
            rcases Nat.mod_two_eq_zero_or_one X with c2 | c2
            · have HU : Hid (uz ((X : Nat) : Int) = ((X / 2 : Nat) : Int)) := by unfold Hid uz; rw [if_neg (by omega)]; omega
              have e3 : ((X : Nat) : Int).tmod 2 = 0 := by rw [Int.tmod_eq_emod_of_nonneg (by omega)]; omega
              have e4 : ((X : Nat) : Int).tdiv 2 = ((X / 2 : Nat) : Int) := by rw [Int.tdiv_eq_ediv_of_nonneg (by omega)]; omega
              have e5 : ((X : Nat) : Int) % 2 = 0 := by omega
              have e6 : ((X : Nat) : Int) / 2 = ((X / 2 : Nat) : Int) := by omega
              have hxi : (0 : Int) ≤ ((X : Nat) : Int) ∧ ((X : Nat) : Int) ≤ 510 := by omega
              have hhi : (0 : Int) ≤ ((X / 2 : Nat) : Int) ∧ ((X / 2 : Nat) : Int) ≤ 255 := by omega
              generalize ((X / 2 : Nat) : Int) = hf at *
              generalize ((X : Nat) : Int) = y at *
              obtain ⟨hx1, hx2⟩ := hxi
              obtain ⟨hh1, hh2⟩ := hhi
              clear c2
              go_wp2
              go_ret
              exact ⟨uz y, a', bad', ret_int (by rw [HU.out]), HRR.out, HKK.out, ha', HZ.out, HT.out, HF.out⟩
            · have HU : Hid (uz ((X : Nat) : Int) = -((X / 2 : Nat) : Int) - 1) := by unfold Hid uz; rw [if_pos (by omega)]; omega
              have e3 : ((X : Nat) : Int).tmod 2 = 1 := by rw [Int.tmod_eq_emod_of_nonneg (by omega)]; omega
              have e4 : ((X : Nat) : Int).tdiv 2 = ((X / 2 : Nat) : Int) := by rw [Int.tdiv_eq_ediv_of_nonneg (by omega)]; omega
              have e5 : ((X : Nat) : Int) % 2 = 1 := by omega
              have e6 : ((X : Nat) : Int) / 2 = ((X / 2 : Nat) : Int) := by omega
              have hxi : (0 : Int) ≤ ((X : Nat) : Int) ∧ ((X : Nat) : Int) ≤ 510 := by omega
              have hhi : (0 : Int) ≤ ((X / 2 : Nat) : Int) ∧ ((X / 2 : Nat) : Int) ≤ 255 := by omega
              generalize ((X / 2 : Nat) : Int) = hf at *
              generalize ((X : Nat) : Int) = y at *
              obtain ⟨hx1, hx2⟩ := hxi
              obtain ⟨hh1, hh2⟩ := hhi
              clear c2
              go_wp2
              go_ret
              exact ⟨uz y, a', bad', ret_int (by rw [HU.out]), HRR.out, HKK.out, ha', HZ.out, HT.out, HF.out⟩


set_option maxHeartbeats 2000000 in
theorem rmany_two {w : World} {b m a : Nat} {s : Value} {bd : Bool} {g : Nat → Int} (hs : IntsIn w s m g) (hne : ∀ k, s.ownBlock = some k → k ≠ b) (h : RdAt w b s a bd) (ha : a ≤ m) (hm : m ≤ 2000) (hg : ∀ i, i < m → g i = 0 ∨ g i = 1) :
    Calls Tryd.prog 22 #[.pointer (some ⟨b, 0, none⟩), .int .i64 2] w fun e w' => ∃ (z : Int) (a' : Nat) (bad' : Bool), e = .returned (.int .i64 z) ∧ RdAt w' b s a' bad' ∧ Kept (fun i => i = b) w w' ∧ a' ≤ m ∧ (0 ≤ z ∧ z ≤ 3) ∧ (bad' = false ↔ bd = false ∧ a + 2 ≤ m) ∧ (a + 2 ≤ m → a' = a + 2 ∧ z = 2 * g a + g (a + 1)) := by
  have HG := hide hg
  have HR := hide h
  have KB : Hid (∀ (W : World) (a' : Nat) (bad' : Bool), Kept (fun i => i = b) w W → a' ≤ m → RdAt W b s a' bad' → Calls Tryd.prog 21 #[.pointer (some ⟨b, 0, none⟩)] W fun e w' => ∃ (z : Int) (a'' : Nat) (bad'' : Bool), e = .returned (.int .i64 z) ∧ RdAt w' b s a'' bad'' ∧ Kept (fun i => i = b) w w' ∧ ((a' < m ∧ z = g a' ∧ a'' = a' + 1 ∧ bad'' = bad') ∨ (a' = m ∧ z = 0 ∧ a'' = m ∧ bad'' = true))) := fun W a' bad' hk ha' hr =>
    (rbit_two (ints_kept hs hne hk) hne hr ha' hm).mono fun e w' ⟨z, a'', bad'', he, h1, h2, h3⟩ => ⟨z, a'', bad'', he, h1, hk.trans_ h2, h3⟩
  clear hs hne h hg
  go_enter Tryd.func22, Tryd.ntmps22
  go_wp2
  go_loopw [5, 6] (fun u i wr => ∃ (k : Nat) (z : Int) (a' : Nat) (bad' : Bool), k ≤ 2 ∧ i = .int .i64 k ∧ u = .int .i64 z ∧ Hid (0 ≤ z ∧ z + 1 ≤ 2 ^ k) ∧ a' ≤ m ∧ Hid (bad' = false ↔ bd = false ∧ a + k ≤ m) ∧ Hid (a + k ≤ m → a' = a + k ∧ z = ((valN g a 0 k : Nat) : Int)) ∧ RdAt wr b s a' bad' ∧ Kept (fun i => i = b) w wr) (fun _ i _ => 2 - (intOf i).toNat)
  case atStart => exact ⟨0, 0, a, bd, by omega, rfl, rfl, ⟨by omega, by simp⟩, ha, ⟨fun h => ⟨h, by omega⟩, fun h => h.1⟩, fun _ => ⟨rfl, rfl⟩, HR.out, Kept.refl _ _⟩
  case round =>
    obtain ⟨k, z, a', bad', hk, rfl, rfl, HZ, ha', HBI, HV, hr, hkp⟩ := hrel
    have hz3 : 0 ≤ z ∧ z ≤ 3 := by
      have h1 := HZ.out
      have h2 : (2 : Int) ^ k ≤ 4 := by
        rcases (show k = 0 ∨ k = 1 ∨ k = 2 by omega) with rfl | rfl | rfl <;> decide
      omega
    by_cases hkl : k < 2
    · have K := hide (KB.out wr a' bad' hkp ha' hr)
      have HVs := hide (valN_succ g a 0 k)
      clear hr hkp
      go_wp2_with fail
      refine (K.out).mono ?_
      rintro e w3 ⟨y, a3, bad3, rfl, hr3, hk3, h3⟩
      have hy : 0 ≤ y ∧ y ≤ 1 := by
        rcases h3 with ⟨h4, rfl, _⟩ | ⟨_, rfl, _⟩
        · have := HG.out _ h4; omega
        · omega
      have HR3 := hide hr3
      have HK3 := hide hk3
      have HN : Hid (a3 ≤ m ∧ (bad3 = false ↔ bd = false ∧ a + (k + 1) ≤ m) ∧ (a + (k + 1) ≤ m → a3 = a + (k + 1) ∧ 2 * z + y = ((valN g a 0 (k + 1) : Nat) : Int))) := by
        rcases h3 with ⟨h4, h5, rfl, rfl⟩ | ⟨h4, h5, rfl, rfl⟩
        · refine ⟨by omega, ?_, ?_⟩
          · rw [HBI.out]
            constructor
            · rintro ⟨h, h6⟩
              have := (HV.out h6).1
              exact ⟨h, by omega⟩
            · rintro ⟨h, h6⟩; exact ⟨h, by omega⟩
          · intro hle
            obtain ⟨h6, h7⟩ := HV.out (by omega)
            rw [HVs.out, h7, ← h6, h5]
            exact ⟨by omega, by have := HG.out _ h4; omega⟩
        · refine ⟨by omega, ?_, ?_⟩
          · constructor
            · intro h; cases h
            · rintro ⟨_, h⟩
              have := (HV.out (by omega)).1
              omega
          · intro h
            have := (HV.out (by omega)).1
            omega
      have HZ2 : Hid (0 ≤ 2 * z + y ∧ 2 * z + y + 1 ≤ 2 ^ (k + 1)) := by
        have h1 := HZ.out
        unfold Hid
        rcases (show k = 0 ∨ k = 1 by omega) with rfl | rfl
        · simp at h1 ⊢; omega
        · simp at h1 ⊢; omega
      clear hr3 hk3 h3 K HV HBI HZ
      go_wp2
      go_roundw
      case rel =>
        have R : k + 1 ≤ 2 ∧ Value.int .i64 ((k : Int) + 1) = .int .i64 ((k + 1 : Nat) : Int) ∧ Value.int .i64 (2 * z + y) = .int .i64 (2 * z + y) ∧ Hid (0 ≤ 2 * z + y ∧ 2 * z + y + 1 ≤ 2 ^ (k + 1)) ∧ a3 ≤ m ∧ Hid (bad3 = false ↔ bd = false ∧ a + (k + 1) ≤ m) ∧ Hid (a + (k + 1) ≤ m → a3 = a + (k + 1) ∧ 2 * z + y = ((valN g a 0 (k + 1) : Nat) : Int)) ∧ RdAt w3 b s a3 bad3 ∧ Kept (fun i => i = b) w w3 :=
          ⟨by omega, by simp, rfl, HZ2, HN.out.1, HN.out.2.1, HN.out.2.2, HR3.out, HK3.out⟩
        first
          | exact ⟨k + 1, 2 * z + y, a3, bad3, R⟩
          | ((repeat apply Exists.intro); exact ⟨⟨k + 1, 2 * z + y, a3, bad3, R⟩, rfl⟩)
      case measure => simp [intOf]; omega
    · obtain rfl : k = 2 := by omega
      have HRR := hide hr
      have HKK := hide hkp
      have HL : Hid (a + 2 ≤ m → a' = a + 2 ∧ z = 2 * g a + g (a + 1)) := fun h => by
        obtain ⟨h1, h2⟩ := HV.out h
        have g0 := HG.out a (by omega)
        have g1 := HG.out (a + 1) (by omega)
        refine ⟨h1, ?_⟩
        rw [h2, valN_succ, valN_succ]
        show ((2 * (2 * 0 + (g (a + 0)).toNat) + (g (a + 1)).toNat : Nat) : Int) = _
        rw [Nat.add_zero]
        omega
      clear hr hkp HV
      go_wp2
      go_ret
      exact ⟨z, a', bad', rfl, HRR.out, HKK.out, ha', hz3, HBI.out, HL.out⟩
end Go.Proofs.YtjhflcgphejddaaDoor

namespace Go.Proofs.YtjhflcgphejddaaDoor
open Go.RowKit
set_option linter.unusedVariables false
set_option maxRecDepth 100000

theorem RdAt.other {w : World} {b b2 o : Nat} {s : Value} {a : Nat} {bad : Bool} (h : RdAt w b s a bad) (hne : b ≠ b2) (u : Value) : RdAt (w.setCell ⟨b2, o, none⟩ u) b s a bad := by
  refine ⟨?_, ?_, ?_, by rw [World.frozen?_setCell]; exact h.f1, by rw [World.frozen?_setCell]; exact h.f2⟩
  · rw [World.cell?_setCell_other _ _ _ _ (fun e => hne (congrArg Addr.block e).symm)]; exact h.c0
  · rw [World.cell?_setCell_other _ _ _ _ (fun e => hne (congrArg Addr.block e).symm)]; exact h.c1
  · rw [World.cell?_setCell_other _ _ _ _ (fun e => hne (congrArg Addr.block e).symm)]; exact h.c2
theorem RdAt.below_ {w w' : World} {b : Nat} {s : Value} {a : Nat} {bad : Bool} (h : RdAt w b s a bad) (hb : Below w.heap.size w w') : RdAt w' b s a bad := h.below h.lt hb

/-- What was read so far: bad, then no film is told; else these. -/
def RSt (t : ByteArray) (m K N i a : Nat) (bd : Bool) (D : Nat → Cd) : Prop :=
  (bd = false → ∃ l, flP (bitB t) m K i = some (l, a) ∧ ∀ q, q < i → l[q]? = some (D q)) ∧ (bd = true → flP (bitB t) m K N = none)
/-- What is ahead of a picture's rests. -/
def HSt (t : ByteArray) (m a : Nat) (bd al : Bool) (x y : Int) (a1 : Nat) (bd1 : Bool) : Prop :=
  (bd1 = false → bd = false ∧ hdP (bitB t) m a = some (al, x, y, a1)) ∧ (bd1 = true → bd = true ∨ hdP (bitB t) m a = none)
/-- Its rests so far. -/
def NSt (t : ByteArray) (m K a1 : Nat) (bd1 : Bool) (j : Nat) (xs : List Int) (a : Nat) (bd : Bool) : Prop :=
  (bd = false → bd1 = false ∧ rsP (bitB t) m a1 j = some (xs, a)) ∧ (bd = true → bd1 = true ∨ rsP (bitB t) m a1 K = none)
theorem NSt.start (t : ByteArray) (m K a1 : Nat) (bd1 : Bool) : NSt t m K a1 bd1 0 [] a1 bd1 := ⟨fun h => ⟨h, rfl⟩, fun h => Or.inl h⟩
theorem NSt.step {t : ByteArray} {m K a1 : Nat} {bd1 : Bool} {j : Nat} {xs : List Int} {a : Nat} {bd : Bool} (h : NSt t m K a1 bd1 j xs a bd) (hj : j < K) {z : Int} {a' : Nat} {bd' : Bool} (h1 : bd = true → bd' = true) (h2 : bd = false → (fstN (bitB t) m 2 a = none ∧ bd' = true) ∨ (fstN (bitB t) m 2 a = some (z, a') ∧ bd' = false)) : NSt t m K a1 bd1 (j + 1) (xs ++ [z]) a' bd' := by
  cases hb : bd with
  | true =>
    have hb' := h1 hb
    exact ⟨(fun q => by rw [hb'] at q; cases q), fun _ => h.2 hb⟩
  | false =>
    obtain ⟨e1, e2⟩ := h.1 hb
    rcases h2 hb with ⟨q1, q2⟩ | ⟨q1, q2⟩
    · exact ⟨(fun q => by rw [q2] at q; cases q), fun _ => Or.inr (rsP_past (rsP_none e2 q1) (by omega))⟩
    · exact ⟨fun _ => ⟨e1, rsP_some e2 q1⟩, (fun q => by rw [q2] at q; cases q)⟩
theorem RSt.start (t : ByteArray) (m K N : Nat) (D : Nat → Cd) : RSt t m K N 0 0 false D := ⟨fun _ => ⟨[], rfl, fun q hq => absurd hq (Nat.not_lt_zero _)⟩, fun h => by cases h⟩
theorem RSt.step {t : ByteArray} {m K N i a : Nat} {bd : Bool} {D : Nat → Cd} (h : RSt t m K N i a bd D) (hi : i < N) {al bd1 bd2 : Bool} {x y : Int} {a1 a2 : Nat} {xs : List Int} (h1 : HSt t m a bd al x y a1 bd1) (h2 : NSt t m K a1 bd1 K xs a2 bd2) :
    RSt t m K N (i + 1) a2 bd2 (fun q => if q = i then ⟨al, x, y, K, fun r => xs.getD r 0⟩ else D q) := by
  refine ⟨fun hb => ?_, fun hb => ?_⟩
  · obtain ⟨e1, e2⟩ := h2.1 hb
    obtain ⟨e3, e4⟩ := h1.1 e1
    obtain ⟨l, e5, e6⟩ := h.1 e3
    have hl := flP_len e5
    refine ⟨l ++ [⟨al, x, y, K, fun r => xs.getD r 0⟩], flP_some e5 (cdP_some e4 e2), fun q hq => ?_⟩
    by_cases c : q = i
    · subst c
      rw [List.getElem?_append_right (by omega)]
      simp [hl]
    · rw [List.getElem?_append_left (by omega)]
      show l[q]? = some (if q = i then _ else D q)
      rw [if_neg c]
      exact e6 q (by omega)
  · cases hbd : bd with
    | true => exact h.2 hbd
    | false =>
      obtain ⟨l, e5, _⟩ := h.1 hbd
      have hnone : cdP (bitB t) m K a = none := by
        rcases h2.2 hb with q | q
        · rcases h1.2 q with r | r
          · rw [hbd] at r; cases r
          · exact cdP_none1 r
        · cases hb1 : bd1 with
          | true =>
            rcases h1.2 hb1 with r | r
            · rw [hbd] at r; cases r
            · exact cdP_none1 r
          | false => exact cdP_none2 (h1.1 hb1).2 q
      exact flP_past (flP_none e5 hnone) (by omega)
theorem HSt.alone {t : ByteArray} {m a : Nat} {bd : Bool} (h : a < m) (h1 : bitB t a = 1) : HSt t m a bd true 0 0 (a + 1) bd := by
  refine ⟨fun hb => ⟨hb, ?_⟩, fun hb => Or.inl hb⟩
  unfold hdP
  rw [if_pos h, if_pos h1]
theorem HSt.moved {t : ByteArray} {m a a1 a2 a3 : Nat} {bd bd1 bd2 bd3 : Bool} {z1 z2 : Int} (h0 : (a < m ∧ bitB t a = 0 ∧ a1 = a + 1 ∧ bd1 = bd) ∨ (a = m ∧ a1 = m ∧ bd1 = true))
    (h1 : bd2 = false ↔ bd1 = false ∧ a1 + 2 ≤ m) (h2 : a1 + 2 ≤ m → a2 = a1 + 2 ∧ z1 = 2 * bitB t a1 + bitB t (a1 + 1)) (h3 : bd3 = false ↔ bd2 = false ∧ a2 + 2 ≤ m) (h4 : a2 + 2 ≤ m → a3 = a2 + 2 ∧ z2 = 2 * bitB t a2 + bitB t (a2 + 1)) : HSt t m a bd false (z1 - 1) (z2 - 1) a3 bd3 := by
  refine ⟨fun hb => ?_, fun hb => ?_⟩
  · obtain ⟨e1, e2⟩ := h3.1 hb
    obtain ⟨e3, e4⟩ := h1.1 e1
    rcases h0 with ⟨q1, q2, rfl, q4⟩ | ⟨_, _, q⟩
    · obtain ⟨r1, r2⟩ := h2 e4
      obtain ⟨r3, r4⟩ := h4 e2
      subst r1
      refine ⟨q4.symm.trans e3, ?_⟩
      unfold hdP
      rw [if_pos q1, if_neg (by omega), if_pos (by omega), r2, r4, r3]
    · rw [e3] at q; cases q
  · cases hbd : bd with
    | true => exact Or.inl rfl
    | false =>
      right
      rcases h0 with ⟨q1, q2, rfl, q4⟩ | ⟨q1, _, _⟩
      · unfold hdP
        rw [if_pos q1, if_neg (by omega), if_neg]
        intro h5
        have hb1 : bd1 = false := q4.trans hbd
        have hb2 := h1.2 ⟨hb1, by omega⟩
        have := (h2 (by omega)).1
        have hb3 := h3.2 ⟨hb2, by omega⟩
        rw [hb] at hb3; cases hb3
      · unfold hdP
        rw [if_neg (by omega)]
end Go.Proofs.YtjhflcgphejddaaDoor

namespace Go.Proofs.YtjhflcgphejddaaDoor
open Go.RowKit
set_option linter.unusedVariables false
set_option maxRecDepth 100000

theorem rclamp_ok (x : Int) (w : World) :
    Calls Tryd.prog 54 #[.int .i64 x, .int .i64 255] w fun e w' => e = .returned (.int .i64 (clamp x)) ∧ w = w' := by
  unfold clamp
  by_cases h : x < 0
  · rw [show min (max x 0) 255 = 0 by omega]
    go_enter Tryd.func54, Tryd.ntmps54
    go_wp2
    go_ret
    exact ⟨rfl, rfl⟩
  · by_cases h2 : 255 < x
    · rw [show min (max x 0) 255 = 255 by omega]
      go_enter Tryd.func54, Tryd.ntmps54
      go_wp2
      go_ret
      exact ⟨rfl, rfl⟩
    · rw [show min (max x 0) 255 = x by omega]
      go_enter Tryd.func54, Tryd.ntmps54
      go_wp2
      go_ret
      exact ⟨rfl, rfl⟩

set_option maxHeartbeats 1000000 in
theorem rrests_ok {w : World} {v : Value} {n : Nat} {f : Nat → Int} (m : Int) (h : IntsIn w v n f) (hn : n ≤ 1000 ∨ (n : Int) ≠ m) :
    Calls Tryd.prog 52 #[v, .int .i64 m] w fun e w' => e = .returned (.int .i64 (restsF n f m : Nat)) ∧ w = w' := by
  have HD : Hid (restsF n f m = if (n : Int) ≠ m then 3 else if restsOk n f = false then 1 else 0) := rfl
  by_cases hne : (n : Int) = m
  · subst hne
    have hn : n ≤ 1000 := by omega
    rw [if_neg (by simp)] at HD
    rcases h with ⟨rfl, a, cap, rfl⟩ | ⟨h0, b, o, cap, rfl, hc⟩
    · have HE : Hid (restsF 0 f 0 = 0) := by unfold Hid restsF; simp [restsOk]
      clear HD
      go_enter Tryd.func52, Tryd.ntmps52
      go_wp2
      go_loop [5] (fun k => k = .int .i64 0) (fun _ => 0)
      case atStart => rfl
      case round =>
        obtain rfl := hrel
        go_wp2
        go_ret
        exact ⟨ret_int (by rw [HE.out]; rfl), rfl⟩
    · have HC := hide hc
      clear hc
      go_enter Tryd.func52, Tryd.ntmps52
      go_wp2
      go_loop [5] (fun i => ∃ j : Nat, j ≤ n ∧ i = .int .i64 j ∧ ∀ q, q < j → -255 ≤ f q ∧ f q ≤ 255) (fun i => n - (intOf i).toNat)
      case atStart => exact ⟨0, Nat.zero_le _, rfl, fun q hq => absurd hq (Nat.not_lt_zero _)⟩
      case round =>
        obtain ⟨j, hj, rfl, hno⟩ := hrel
        have HN := hide hno
        clear hno
        by_cases hlt : j < n
        · have hcj := HC.out j hlt
          by_cases hx : -255 ≤ f j ∧ f j ≤ 255
          · have HX := hide hx
            obtain ⟨x0, x1⟩ := hx
            generalize hz : f j = z at *
            have HZ := hide hz
            clear hz
            go_wp2
            go_round
            case rel =>
              refine ⟨j + 1, by omega, by go_num, fun q hq => ?_⟩
              by_cases c : q = j
              · rw [c, HZ.out]; exact HX.out
              · exact HN.out q (by omega)
            case measure => simp [intOf]; omega
          · have HE : Hid (restsF n f n = 1) := by
              unfold Hid
              rw [HD.out, if_pos]
              rw [← Bool.not_eq_true, restsOk_iff]
              exact fun h => hx (h j hlt)
            have hx' : f j < -255 ∨ (-255 ≤ f j ∧ 255 < f j) := by omega
            clear hx
            generalize f j = z at *
            rcases hx' with x0 | ⟨x0, x1⟩
            · go_wp2
              go_ret
              exact ⟨ret_int (by rw [HE.out]; rfl), rfl⟩
            · go_wp2
              go_ret
              exact ⟨ret_int (by rw [HE.out]; rfl), rfl⟩
        · obtain rfl : j = n := by omega
          have HE : Hid (restsF j f j = 0) := by
            unfold Hid
            rw [HD.out, if_neg]
            rw [restsOk_iff.2 HN.out]; simp
          go_wp2
          go_ret
          exact ⟨ret_int (by rw [HE.out]; rfl), rfl⟩
  · have hn1 : ((n : Int) == m) = false := by rw [beq_eq_false_iff_ne]; exact hne
    have hn3 : ((n : Int) != m) = true := by simp [bne, hn1]
    have HE : Hid (restsF n f m = 3) := by unfold Hid; rw [HD.out, if_pos hne]
    obtain ⟨ad, cap, rfl⟩ := slice_shape h
    clear hne HD h hn
    go_enter Tryd.func52, Tryd.ntmps52
    go_wp2
    go_ret
    exact ⟨ret_int (by rw [HE.out]; rfl), rfl⟩
end Go.Proofs.YtjhflcgphejddaaDoor
