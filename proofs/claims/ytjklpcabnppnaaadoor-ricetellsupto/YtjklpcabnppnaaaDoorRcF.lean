/-
  Our own contract of rice.first. Lemmas for the laws above; no statement is proved here.
-/
import Derived.Test.YtjklpcabnppnaaaDoorRcIdx
import Derived.Test.YtjklpcabnppnaaaDoorRcB
import Derived.Deep.QuietTactic
import Derived.BigQuiet
import Derived.Deep.DeepCutAuto
namespace Go.Proofs.YtjklpcabnppnaaaDoor
open Go.RowKit
set_option linter.unusedVariables false
set_option maxRecDepth 100000

theorem idxN_some {f : Nat → Int} {n q : Nat} (h : ones f 0 n = q) (hq : q < n) : idxN f n = (q : Nat) := by unfold idxN; rw [h, if_pos hq]
theorem idxN_none {f : Nat → Int} {n : Nat} (h : ¬ ones f 0 n < n) : idxN f n = -1 := by unfold idxN; rw [if_neg h]

set_option maxHeartbeats 2000000 in
/-- No number is told: no nought, or too few bits behind it. -/
theorem first_few {w : World} {v : Value} {m low : Nat} {f : Nat → Int} (h : SlI w v m f) (hm : m ≤ 2000) (hl : low ≤ 7) (hx : m < ones f 0 m + 1 + low) :
    Calls Tryd.prog 21 #[v, .int .i64 low] w fun e w' => e = .returned (.tuple #[.int .i64 0, .slice none 0 0, .bool false]) ∧ w = w' := by
  have K := hide (nought_ok h.ints hm)
  obtain ⟨ad, cap, rfl, h1, h2, h3⟩ := h
  clear h3
  by_cases c : ones f 0 m < m
  · generalize hq : ones f 0 m = q at *
    rw [idxN_some hq c] at K
    clear hq
    go_enter Tryd.func21, Tryd.ntmps21
    go_wp2_with fail
    refine (K.out).mono ?_
    rintro e w1 ⟨rfl, rfl⟩
    go_wp2
    go_ret3
    exact ⟨rfl, rfl⟩
  · rw [idxN_none c] at K
    clear c hx
    go_enter Tryd.func21, Tryd.ntmps21
    go_wp2_with fail
    refine (K.out).mono ?_
    rintro e w1 ⟨rfl, rfl⟩
    go_wp2
    go_ret3
    exact ⟨rfl, rfl⟩

set_option maxHeartbeats 4000000 in
/-- The bits of one: it is told, or is none. -/
theorem first_one {w : World} {v : Value} {m low q E X : Nat} {f : Nat → Int} (h : SlI w v m f) (hm : m ≤ 2000) (hl : low ≤ 7) (hf : ∀ i, i < m → f i = 0 ∨ f i = 1) (hq : ones f 0 m = q) (hE : E = q + 1 + low) (hx : E ≤ m) (hX : valN f (q + 1) q low = X) :
    Calls Tryd.prog 21 #[v, .int .i64 low] w fun e w' => (510 < X ∧ e = .returned (.tuple #[.int .i64 0, .slice none 0 0, .bool false]) ∧ Below w.heap.size w w') ∨ (X ≤ 510 ∧ ∃ sl, e = .returned (.tuple #[.int .i64 (uz (X : Nat)), sl, .bool true]) ∧ Cut v sl m E ∧ Below w.heap.size w w') := by
  have K := hide (nought_ok h.ints hm)
  rw [idxN_some hq (by omega)] at K
  obtain ⟨ad, cap, rfl, h1, h2, h3⟩ := h
  obtain ⟨b, o, rfl, hc⟩ := h3 (by omega)
  have KT := hide (fun w => told_ok 255 w (by omega))
  rw [show zz 255 = 510 from rfl] at KT
  have HC := hide hc
  have HF := hide hf
  have HVl := hide (fun k (hk : k ≤ low) => valN_lt (g := f) (p := q + 1) (v := q) (k := k) (fun i hi => hf _ (by omega)))
  have HVs := hide (fun k => valN_succ f (q + 1) q k)
  have hHX := hide hX
  have hp : ∀ k, k ≤ low → (q + 1) * 2 ^ k ≤ 256128 := fun k hk => by
    have e : 2 ^ k ≤ 2 ^ 7 := Nat.pow_le_pow_right (by omega) (by omega)
    exact Nat.le_trans (Nat.mul_le_mul (show q + 1 ≤ 2001 by omega) e) (by decide)
  have HV : Hid (∀ k, k ≤ low → valN f (q + 1) q k ≤ 256128) := fun k hk => by have := HVl.out k hk; have := hp k hk; omega
  have HV0 : Hid (valN f (q + 1) q 0 = q) := rfl
  have he : (q : Int) + 1 + (low : Int) = (E : Int) := by omega
  have he2 : E - (q + 1) = low := by omega
  have HE := hide hE
  have he3 : q + 1 ≤ E := by omega
  have hq0 : decide ((q : Int) < 0) = false := by simp
  generalize hVV : valN f (q + 1) q = V at *
  unfold maxLen at h2
  clear h3 hc hf hq hX hp hVV HVl hE
  go_enter Tryd.func21, Tryd.ntmps21
  go_wp2_with fail
  refine (K.out).mono ?_
  rintro e w1 ⟨rfl, rfl⟩
  go_upto_region 5 with fail
  go_cut [29, 30, 31] (fun s n i wx => ∃ (a : Option Addr) (c : Nat), s = .slice a low c ∧ n = .int .i64 low ∧ i = .int .i64 0 ∧ w = wx ∧ Hid (0 < low → a = some ⟨b, o + (q + 1), none⟩))
  case first =>
    by_cases c : cap = q + 1
    · have hl0 : low = 0 := by have := HE.out; omega
      subst hl0
      go_wp2
      go_meet
      exact ⟨_, _, rfl, rfl, rfl, rfl, fun h => absurd h (Nat.lt_irrefl _)⟩
    · go_wp2
      go_meet
      exact ⟨_, _, rfl, rfl, rfl, rfl, fun h => rfl⟩
  case rest =>
    obtain ⟨a, c, rfl, rfl, rfl, rfl, HA⟩ := hcut
    go_wp2
    go_loop [7, 31] (fun u i => ∃ k : Nat, k ≤ low ∧ i = .int .i64 k ∧ u = .int .i64 (V k : Nat)) (fun _ i => low - (intOf i).toNat)
    case atStart => exact ⟨0, Nat.zero_le _, rfl, by rw [HV0.out]⟩
    case round =>
      obtain ⟨k, hk, rfl, rfl⟩ := hrel
      by_cases hlt : k < low
      · obtain rfl := HA.out (by omega)
        have hcell := HC.out (q + 1 + k) (by omega)
        rw [← Nat.add_assoc] at hcell
        have hfb := HF.out (q + 1 + k) (by omega)
        have hS := HVs.out k
        have hV := HV.out k (by omega)
        obtain ⟨z, hz, hz1⟩ : ∃ z : Nat, f (q + 1 + k) = (z : Nat) ∧ z ≤ 1 := ⟨(f (q + 1 + k)).toNat, by omega, by omega⟩
        rw [hz] at hcell hS
        rw [Int.toNat_natCast] at hS
        have HS := hide hS
        have f4 : bits .or .i64 (((V k : Nat) : Int) * 2) (z : Int) = ((2 * V k + z : Nat) : Int) := by
          have := i64_or_bit (V k) z hz1 (by omega)
          rw [← this]; congr 1; omega
        clear hfb hz hS
        generalize V k = x at *
        go_wp2
        go_round
        case rel => exact ⟨k + 1, by omega, by go_num, by rw [HS.out]; first | (simp; done) | (congr 1; omega)⟩
        case measure => simp [intOf]; omega
      · obtain rfl : k = low := by omega
        have hXV := hHX.out
        rw [hXV]
        by_cases cX : 510 < X
        · go_wp2_with fail
          refine (KT.out _).mono ?_
          rintro e w2 ⟨rfl, rfl⟩
          go_wp2
          go_ret3
          exact Or.inl ⟨cX, rfl, Below.refl _ _⟩
        · have KN : Hid (∀ W, Calls Tryd.prog 26 #[.int .i64 (X : Nat)] W fun e w' => e = .returned (.int .i64 (uz (X : Nat))) ∧ w' = W) := fun W => (number_ok X W (by omega)).mono fun _ _ ⟨e1, e2⟩ => ⟨e1, e2.symm⟩
          have HXl : Hid (X ≤ 510) := hide (by omega)
          by_cases cE : cap = E
          · go_wp2_with fail
            refine (KT.out _).mono ?_
            rintro e w2 ⟨rfl, rfl⟩
            go_wp2_with fail
            go_quiet ((go_at_call 26; exact Calls.quiet_of_same (KN.out _)))
            go_wp2
            go_ret3
            refine Or.inr ⟨HXl.out, .slice (some ⟨b, o, none⟩) (m - E) 0, rfl, cut_end (by omega) (by unfold maxLen; omega), below_drewN (Below.refl _ _) _⟩
          · go_wp2_with fail
            refine (KT.out _).mono ?_
            rintro e w2 ⟨rfl, rfl⟩
            go_wp2_with fail
            go_quiet ((go_at_call 26; exact Calls.quiet_of_same (KN.out _)))
            go_wp2
            go_ret3
            refine Or.inr ⟨HXl.out, .slice (some ⟨b, o + E, none⟩) (m - E) (cap - E), rfl, cut_mid, below_drewN (Below.refl _ _) _⟩

/-- What is told by the bits at hand. -/
theorem first_ok {w : World} {v : Value} {m low : Nat} {f : Nat → Int} (h : SlI w v m f) (hm : m ≤ 2000) (hl : low ≤ 7) (hf : ∀ i, i < m → f i = 0 ∨ f i = 1) :
    Calls Tryd.prog 21 #[v, .int .i64 low] w fun e w' => (fstN f m low 0 = none ∧ e = .returned (.tuple #[.int .i64 0, .slice none 0 0, .bool false]) ∧ Below w.heap.size w w') ∨ (∃ n b sl, fstN f m low 0 = some (n, b) ∧ b ≤ m ∧ e = .returned (.tuple #[.int .i64 n, sl, .bool true]) ∧ Cut v sl m b ∧ Below w.heap.size w w') := by
  have hF : fstN f m low 0 = if ones f 0 m + 1 + low ≤ m then if valN f (ones f 0 m + 1) (ones f 0 m) low ≤ 510 then some (uz (valN f (ones f 0 m + 1) (ones f 0 m) low : Nat), ones f 0 m + 1 + low) else none else none := by
    unfold fstN
    simp only [Nat.sub_zero, Nat.zero_add]
  by_cases c : ones f 0 m + 1 + low ≤ m
  · rw [if_pos c] at hF
    refine (first_one h hm hl hf rfl rfl c rfl).mono ?_
    rintro e w' (⟨h1, he, hb⟩ | ⟨h1, sl, he, hs, hb⟩)
    · rw [if_neg (by omega)] at hF
      exact Or.inl ⟨hF, he, hb⟩
    · rw [if_pos h1] at hF
      exact Or.inr ⟨_, _, sl, hF, c, he, hs, hb⟩
  · rw [if_neg c] at hF
    refine (first_few h hm hl (by omega)).mono ?_
    rintro e w' ⟨he, hb⟩
    exact Or.inl ⟨hF, he, hb ▸ Below.refl _ _⟩
end Go.Proofs.YtjklpcabnppnaaaDoor
