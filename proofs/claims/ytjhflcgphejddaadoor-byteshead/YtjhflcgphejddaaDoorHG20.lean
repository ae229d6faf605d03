/-
  Lemmas for the law above, joined into one text (RcG, RcIdx, RcF, RcGet). No statement is proved here.
-/
import Derived.Test.YtjhflcgphejddaaDoorHG17
import Derived.Test.YtjhflcgphejddaaDoorHG4
import Derived.Test.YtjhflcgphejddaaDoorHG10
import Derived.Test.YtjhflcgphejddaaDoorHG7
import Derived.Test.YtjhflcgphejddaaDoorHG6
import Derived.Deep.QuietTactic
import Derived.BigQuiet
import Derived.Deep.DeepCutAuto
import Derived.Test.YtjhflcgphejddaaDoorHG8
import Derived.Test.YtjhflcgphejddaaDoorHG12
import Derived.Deep.AppendLies
import Derived.Laws.MakeOwn
import Derived.Maps.AppendAt
namespace Go.Proofs.YtjhflcgphejddaaDoor
open Go.RowKit
set_option linter.unusedVariables false
set_option maxRecDepth 100000

def bitOk (n : Int) : Bool := decide (n = 0) || decide (n = 1)
theorem bitOk_iff {n : Int} : bitOk n = true ↔ n = 0 ∨ n = 1 := by simp [bitOk]
theorem bitOk_not {n : Int} : bitOk n = false ↔ n ≠ 0 ∧ n ≠ 1 := by rw [← Bool.not_eq_true, bitOk_iff]; omega
/-- Whether each of the first is a bit. -/
def bitsOk (f : Nat → Int) : Nat → Bool
  | 0 => true
  | n + 1 => bitsOk f n && bitOk (f n)
theorem bitsOk_iff {f : Nat → Int} : ∀ {n}, bitsOk f n = true ↔ ∀ i, i < n → f i = 0 ∨ f i = 1
  | 0 => ⟨fun _ i hi => absurd hi (Nat.not_lt_zero _), fun _ => rfl⟩
  | n + 1 => by
    show (bitsOk f n && bitOk (f n)) = true ↔ _
    rw [Bool.and_eq_true, bitsOk_iff, bitOk_iff]
    constructor
    · intro h i hi
      by_cases c : i = n
      · subst c; exact h.2
      · exact h.1 i (by omega)
    · intro h
      exact ⟨fun i hi => h i (by omega), h n (by omega)⟩

theorem nbit_ok (n : Int) (w : World) : Calls Tryd.prog 93 #[.int .i64 n] w fun e w' => e = .returned (.bool (!bitOk n)) ∧ w = w' := by
  by_cases c : n = 0
  · subst c
    go_enter Tryd.func93, Tryd.ntmps93
    go_wp2
    go_ret
    exact ⟨rfl, rfl⟩
  · by_cases c2 : n = 1
    · subst c2
      clear c
      go_enter Tryd.func93, Tryd.ntmps93
      go_wp2
      go_ret
      exact ⟨rfl, rfl⟩
    · have HZ : Hid (bitOk n = false) := bitOk_not.2 ⟨c, c2⟩
      have h1 : (n != 0) = true := by simp [bne, c]
      have h2 : (n != 1) = true := by simp [bne, c2]
      have h3 : (n == 0) = false := by rw [beq_eq_false_iff_ne]; exact c
      have h4 : (n == 1) = false := by rw [beq_eq_false_iff_ne]; exact c2
      clear c c2
      go_enter Tryd.func93, Tryd.ntmps93
      go_wp2
      go_ret
      exact ⟨ret_bool (by rw [HZ.out]; rfl), rfl⟩

set_option maxHeartbeats 1000000 in
theorem bidx_ok {w : World} {v : Value} {n : Nat} {f : Nat → Int} (h : IntsIn w v n f) (hn : n ≤ 2000) :
    Calls Tryd.prog 80 #[v, .func (.func 93) #[] #[]] w fun e w' => ∃ i : Int, e = .returned (.int .i64 i) ∧ IsAt (fun j => !bitOk (f j)) n i ∧ w = w' := by
  rcases h with ⟨rfl, a, cap, rfl⟩ | ⟨h0, b, o, cap, rfl, hc⟩
  · go_enter Tryd.func80, Tryd.ntmps80
    go_wp2
    go_loop [8] (fun i => i = .int .i64 0) (fun _ => 0)
    case atStart => rfl
    case round =>
      obtain rfl := hrel
      go_wp2
      go_ret
      exact ⟨_, rfl, Or.inl ⟨rfl, fun j hj => absurd hj (Nat.not_lt_zero _)⟩, rfl⟩
  · have HC := hide hc
    clear hc
    go_enter Tryd.func80, Tryd.ntmps80
    go_wp2
    go_loop [5, 8] (fun _ i => ∃ j : Nat, j ≤ n ∧ i = .int .i64 j ∧ ∀ q, q < j → bitOk (f q) = true) (fun _ i => n - (intOf i).toNat)
    case atStart => exact ⟨0, Nat.zero_le _, rfl, fun q hq => absurd hq (Nat.not_lt_zero _)⟩
    case round =>
      obtain ⟨j, hj, rfl, hno⟩ := hrel
      have HN := hide hno
      clear hno
      by_cases hlt : j < n
      · have hc := HC.out j hlt
        have K := hide (nbit_ok (f j) w)
        generalize hx : f j = x at *
        have HX := hide hx
        clear hx
        cases hq : bitOk x with
        | false =>
          have HQ := hide hq
          rw [hq] at K
          clear hq
          go_wp2_with (go_at_call 93; refine (K.out).mono ?_; rintro e w1 ⟨rfl, rfl⟩)
          go_ret
          exact ⟨_, rfl, Or.inr ⟨j, rfl, hlt, by show (!bitOk (f j)) = true; rw [HX.out, HQ.out]; rfl⟩, rfl⟩
        | true =>
          have HQ := hide hq
          rw [hq] at K
          clear hq
          go_wp2_with (go_at_call 93; refine (K.out).mono ?_; rintro e w1 ⟨rfl, rfl⟩)
          go_round
          case rel =>
            refine ⟨j + 1, by omega, by go_num, fun q hq => ?_⟩
            by_cases c : q = j
            · rw [c, HX.out]; exact HQ.out
            · exact HN.out q (by omega)
          case measure => simp [intOf]; omega
      · obtain rfl : j = n := by omega
        go_wp2
        go_ret
        exact ⟨_, rfl, Or.inl ⟨rfl, fun q hq => by show (!bitOk (f q)) = false; rw [HN.out q hq]; rfl⟩, rfl⟩

theorem bcont_ok {w : World} {v : Value} {n : Nat} {f : Nat → Int} (h : IntsIn w v n f) (hn : n ≤ 2000) :
    Calls Tryd.prog 57 #[v, .func (.func 93) #[] #[]] w fun e w' => e = .returned (.bool (!bitsOk f n)) ∧ w = w' := by
  have K := hide (bidx_ok h hn)
  clear h
  go_enter Tryd.func57, Tryd.ntmps57
  go_wp2_with fail
  refine (K.out).mono ?_
  rintro e w1 ⟨i, rfl, hi, rfl⟩
  rcases hi with ⟨rfl, ha⟩ | ⟨j, rfl, hj, hq⟩
  · have e : bitsOk f n = true := bitsOk_iff.2 fun i hi => bitOk_iff.1 (by have := ha i hi; simpa using this)
    have HE := hide e
    clear e ha
    go_wp2
    go_ret
    exact ⟨ret_bool (by rw [HE.out]; rfl), rfl⟩
  · have e : bitsOk f n = false := by
      rw [← Bool.not_eq_true, bitsOk_iff]
      intro hall
      have h9 := bitOk_iff.2 (hall j hj)
      simp [h9] at hq
    have HE := hide e
    clear e hq
    go_wp2
    go_ret
    exact ⟨ret_bool (by rw [HE.out]; rfl), rfl⟩
end Go.Proofs.YtjhflcgphejddaaDoor

namespace Go.Proofs.YtjhflcgphejddaaDoor
open Go.RowKit
set_option linter.unusedVariables false
set_option maxRecDepth 100000

/-- Where the first nought is: -1 for none. -/
def idxN (f : Nat → Int) (n : Nat) : Int := if ones f 0 n < n then (ones f 0 n : Nat) else -1

set_option maxHeartbeats 1000000 in
theorem nought_ok {w : World} {v : Value} {n : Nat} {f : Nat → Int} (h : IntsIn w v n f) (hn : n ≤ 2000) :
    Calls Tryd.prog 84 #[v, .int .i64 0] w fun e w' => e = .returned (.int .i64 (idxN f n)) ∧ w = w' := by
  rcases h with ⟨rfl, a, cap, rfl⟩ | ⟨h0, b, o, cap, rfl, hc⟩
  · have HI : Hid (idxN f 0 = -1) := by unfold Hid idxN; rw [if_neg (by omega)]
    go_enter Tryd.func84, Tryd.ntmps84
    go_wp2
    go_loop [8] (fun i => i = .int .i64 0) (fun _ => 0)
    case atStart => rfl
    case round =>
      obtain rfl := hrel
      go_wp2
      go_ret
      exact ⟨ret_int (by rw [HI.out]), rfl⟩
  · have HC := hide hc
    clear hc
    go_enter Tryd.func84, Tryd.ntmps84
    go_wp2
    go_loop [8] (fun i => ∃ j : Nat, j ≤ n ∧ i = .int .i64 j ∧ ∀ q, q < j → f q ≠ 0) (fun i => n - (intOf i).toNat)
    case atStart => exact ⟨0, Nat.zero_le _, rfl, fun q hq => absurd hq (Nat.not_lt_zero _)⟩
    case round =>
      obtain ⟨j, hj, rfl, hno⟩ := hrel
      have HN := hide hno
      clear hno
      by_cases hlt : j < n
      · have hc := HC.out j hlt
        by_cases hq : f j = 0
        · have HI : Hid (idxN f n = (j : Nat)) := by
            have e : ones f 0 n = j := ones_eq (fun q hq => by rw [Nat.zero_add]; exact HN.out q hq) (fun _ => by rw [Nat.zero_add]; exact hq) hj
            unfold Hid idxN
            rw [e, if_pos hlt]
          rw [hq] at hc
          clear hq
          go_wp2
          go_ret
          exact ⟨ret_int (by rw [HI.out]), rfl⟩
        · have HQ := hide hq
          have hq1 : ((0 : Int) == f j) = false := by rw [beq_eq_false_iff_ne]; exact fun e => hq e.symm
          generalize hx : f j = x at *
          have HX := hide hx
          clear hx hq
          go_wp2
          go_round
          case rel =>
            refine ⟨j + 1, by omega, by go_num, fun q hq => ?_⟩
            by_cases c : q = j
            · rw [c, HX.out]; exact HQ.out
            · exact HN.out q (by omega)
          case measure => simp [intOf]; omega
      · obtain rfl : j = n := by omega
        have HI : Hid (idxN f j = -1) := by
          have e : ones f 0 j = j := ones_eq (fun q hq => by rw [Nat.zero_add]; exact HN.out q hq) (fun h => absurd h (by omega)) (Nat.le_refl _)
          unfold Hid idxN
          rw [e, if_neg (by omega)]
        go_wp2
        go_ret
        exact ⟨ret_int (by rw [HI.out]), rfl⟩

theorem number_ok (v : Nat) (w : World) (h : v ≤ 510) : Calls Tryd.prog 95 #[.int .i64 (v : Nat)] w fun e w' => e = .returned (.int .i64 (uz (v : Nat))) ∧ w = w' := by
  rcases Nat.mod_two_eq_zero_or_one v with c | c
  · obtain ⟨k, rfl⟩ : ∃ k, v = 2 * k := ⟨v / 2, by omega⟩
    have HU : Hid (uz ((2 * k : Nat) : Int) = (k : Nat)) := by unfold Hid uz; rw [if_neg (by omega)]; omega
    have e1 : (((2 * k : Nat) : Int)).tmod 2 = 0 := by rw [Int.tmod_eq_emod_of_nonneg (by omega)]; omega
    have e2 : (((2 * k : Nat) : Int)).tdiv 2 = (k : Nat) := by rw [Int.tdiv_eq_ediv_of_nonneg (by omega)]; omega
    have e3 : (((2 * k : Nat) : Int)) % 2 = 0 := by omega
    have e4 : (((2 * k : Nat) : Int)) / 2 = (k : Nat) := by omega
    have hx : ((2 * k : Nat) : Int) ≤ 510 ∧ (0 : Int) ≤ ((2 * k : Nat) : Int) := by omega
    generalize ((2 * k : Nat) : Int) = x at *
    obtain ⟨h1, h2⟩ := hx
    go_enter Tryd.func95, Tryd.ntmps95
    go_wp2
    go_ret
    exact ⟨ret_int (by rw [HU.out]), rfl⟩
  · obtain ⟨k, rfl⟩ : ∃ k, v = 2 * k + 1 := ⟨v / 2, by omega⟩
    have HU : Hid (uz ((2 * k + 1 : Nat) : Int) = -((k : Nat) : Int) - 1) := by unfold Hid uz; rw [if_pos (by omega)]; omega
    have e1 : (((2 * k + 1 : Nat) : Int)).tmod 2 = 1 := by rw [Int.tmod_eq_emod_of_nonneg (by omega)]; omega
    have e3 : (((2 * k + 1 : Nat) : Int)) % 2 = 1 := by omega
    have e2 : (-(((2 * k + 1 : Nat) : Int) + 1)).tdiv 2 = -((k : Nat) : Int) - 1 := by rw [Int.neg_tdiv, Int.tdiv_eq_ediv_of_nonneg (by omega)]; omega
    have hx : ((2 * k + 1 : Nat) : Int) ≤ 510 ∧ (0 : Int) ≤ ((2 * k + 1 : Nat) : Int) := by omega
    generalize ((2 * k + 1 : Nat) : Int) = x at *
    obtain ⟨h1, h2⟩ := hx
    go_enter Tryd.func95, Tryd.ntmps95
    go_wp2
    go_ret
    exact ⟨ret_int (by rw [HU.out]), rfl⟩
end Go.Proofs.YtjhflcgphejddaaDoor

namespace Go.Proofs.YtjhflcgphejddaaDoor
open Go.RowKit
set_option linter.unusedVariables false
set_option maxRecDepth 100000

theorem idxN_some {f : Nat → Int} {n q : Nat} (h : ones f 0 n = q) (hq : q < n) : idxN f n = (q : Nat) := by unfold idxN; rw [h, if_pos hq]
theorem idxN_none {f : Nat → Int} {n : Nat} (h : ¬ ones f 0 n < n) : idxN f n = -1 := by unfold idxN; rw [if_neg h]

set_option maxHeartbeats 2000000 in
/-- No number is told: no nought, or too few bits behind it. -/
theorem first_few {w : World} {v : Value} {m low : Nat} {f : Nat → Int} (h : SlI w v m f) (hm : m ≤ 2000) (hl : low ≤ 7) (hx : m < ones f 0 m + 1 + low) :
    Calls Tryd.prog 94 #[v, .int .i64 low] w fun e w' => e = .returned (.tuple #[.int .i64 0, .slice none 0 0, .bool false]) ∧ w = w' := by
  have K := hide (nought_ok h.ints hm)
  obtain ⟨ad, cap, rfl, h1, h2, h3⟩ := h
  clear h3
  by_cases c : ones f 0 m < m
  · generalize hq : ones f 0 m = q at *
    rw [idxN_some hq c] at K
    clear hq
    go_enter Tryd.func94, Tryd.ntmps94
    go_wp2_with fail
    refine (K.out).mono ?_
    rintro e w1 ⟨rfl, rfl⟩
    go_wp2
    go_ret3
    exact ⟨rfl, rfl⟩
  · rw [idxN_none c] at K
    clear c hx
    go_enter Tryd.func94, Tryd.ntmps94
    go_wp2_with fail
    refine (K.out).mono ?_
    rintro e w1 ⟨rfl, rfl⟩
    go_wp2
    go_ret3
    exact ⟨rfl, rfl⟩

set_option maxHeartbeats 4000000 in
/-- The bits of one: it is told, or is none. -/
theorem first_one {w : World} {v : Value} {m low q E X : Nat} {f : Nat → Int} (h : SlI w v m f) (hm : m ≤ 2000) (hl : low ≤ 7) (hf : ∀ i, i < m → f i = 0 ∨ f i = 1) (hq : ones f 0 m = q) (hE : E = q + 1 + low) (hx : E ≤ m) (hX : valN f (q + 1) q low = X) :
    Calls Tryd.prog 94 #[v, .int .i64 low] w fun e w' => (510 < X ∧ e = .returned (.tuple #[.int .i64 0, .slice none 0 0, .bool false]) ∧ Below w.heap.size w w') ∨ (X ≤ 510 ∧ ∃ sl, e = .returned (.tuple #[.int .i64 (uz (X : Nat)), sl, .bool true]) ∧ Cut v sl m E ∧ Below w.heap.size w w') := by
  have K := hide (nought_ok h.ints hm)
  rw [idxN_some hq (by omega)] at K
  obtain ⟨ad, cap, rfl, h1, h2, h3⟩ := h
  obtain ⟨b, o, rfl, hc⟩ := h3 (by omega)
  have KT := hide (fun w => told_ok 255 w (by omega))
  rw [show zz 255 = 510 from rfl] at KT
  have HC := hide hc
  have HF := hide hf
  have HVl := hide (fun k (hk : k ≤ low) => valN_lt (g := f) (p := q + 1) (v := q) (k := k) (fun i hi => hf _ (by omega)))
  have HVs := hide (fun k => valN_succ f (q + 1) q k)
  have hHX := hide hX
  have hp : ∀ k, k ≤ low → (q + 1) * 2 ^ k ≤ 256128 := fun k hk => by
    have e : 2 ^ k ≤ 2 ^ 7 := Nat.pow_le_pow_right (by omega) (by omega)
    exact Nat.le_trans (Nat.mul_le_mul (show q + 1 ≤ 2001 by omega) e) (by decide)
  have HV : Hid (∀ k, k ≤ low → valN f (q + 1) q k ≤ 256128) := fun k hk => by have := HVl.out k hk; have := hp k hk; omega
  have HV0 : Hid (valN f (q + 1) q 0 = q) := rfl
  have he : (q : Int) + 1 + (low : Int) = (E : Int) := by omega
  have he2 : E - (q + 1) = low := by omega
  have HE := hide hE
  have he3 : q + 1 ≤ E := by omega
  have hq0 : decide ((q : Int) < 0) = false := by simp
  generalize hVV : valN f (q + 1) q = V at *
  unfold maxLen at h2
  clear h3 hc hf hq hX hp hVV HVl hE
  go_enter Tryd.func94, Tryd.ntmps94
  go_wp2_with fail
  refine (K.out).mono ?_
  rintro e w1 ⟨rfl, rfl⟩
  go_upto_region 5 with fail
  go_cut [29, 30, 31] (fun s n i wx => ∃ (a : Option Addr) (c : Nat), s = .slice a low c ∧ n = .int .i64 low ∧ i = .int .i64 0 ∧ w = wx ∧ Hid (0 < low → a = some ⟨b, o + (q + 1), none⟩))
  case first =>
    by_cases c : cap = q + 1
    · have hl0 : low = 0 := by have := HE.out; omega
      subst hl0
      go_wp2
      go_meet
      exact ⟨_, _, rfl, rfl, rfl, rfl, fun h => absurd h (Nat.lt_irrefl _)⟩
    · go_wp2
      go_meet
      exact ⟨_, _, rfl, rfl, rfl, rfl, fun h => rfl⟩
  case rest =>
    obtain ⟨a, c, rfl, rfl, rfl, rfl, HA⟩ := hcut
    go_wp2
    go_loop [7, 31] (fun u i => ∃ k : Nat, k ≤ low ∧ i = .int .i64 k ∧ u = .int .i64 (V k : Nat)) (fun _ i => low - (intOf i).toNat)
    case atStart => exact ⟨0, Nat.zero_le _, rfl, by rw [HV0.out]⟩
    case round =>
      obtain ⟨k, hk, rfl, rfl⟩ := hrel
      by_cases hlt : k < low
      · obtain rfl := HA.out (by omega)
        have hcell := HC.out (q + 1 + k) (by omega)
        rw [← Nat.add_assoc] at hcell
        have hfb := HF.out (q + 1 + k) (by omega)
        have hS := HVs.out k
        have hV := HV.out k (by omega)
        obtain ⟨z, hz, hz1⟩ : ∃ z : Nat, f (q + 1 + k) = (z : Nat) ∧ z ≤ 1 := ⟨(f (q + 1 + k)).toNat, by omega, by omega⟩
        rw [hz] at hcell hS
        rw [Int.toNat_natCast] at hS
        have HS := hide hS
        have f4 : bits .or .i64 (((V k : Nat) : Int) * 2) (z : Int) = ((2 * V k + z : Nat) : Int) := by
          have := i64_or_bit (V k) z hz1 (by omega)
          rw [← this]; congr 1; omega
        clear hfb hz hS
        generalize V k = x at *
        go_wp2
        go_round
        case rel => exact ⟨k + 1, by omega, by go_num, by rw [HS.out]; first | (simp; done) | (congr 1; omega)⟩
        case measure => simp [intOf]; omega
      · obtain rfl : k = low := by omega
        have hXV := hHX.out
        rw [hXV]
        by_cases cX : 510 < X
        · go_wp2_with fail
          refine (KT.out _).mono ?_
          rintro e w2 ⟨rfl, rfl⟩
          go_wp2
          go_ret3
          exact Or.inl ⟨cX, rfl, Below.refl _ _⟩
        · have KN : Hid (∀ W, Calls Tryd.prog 95 #[.int .i64 (X : Nat)] W fun e w' => e = .returned (.int .i64 (uz (X : Nat))) ∧ w' = W) := fun W => (number_ok X W (by omega)).mono fun _ _ ⟨e1, e2⟩ => ⟨e1, e2.symm⟩
          have HXl : Hid (X ≤ 510) := hide (by omega)
          by_cases cE : cap = E
          · go_wp2_with fail
            refine (KT.out _).mono ?_
            rintro e w2 ⟨rfl, rfl⟩
            go_wp2_with fail
            go_quiet ((go_at_call 95; exact Calls.quiet_of_same (KN.out _)))
            go_wp2
            go_ret3
            refine Or.inr ⟨HXl.out, .slice (some ⟨b, o, none⟩) (m - E) 0, rfl, cut_end (by omega) (by unfold maxLen; omega), below_drewN (Below.refl _ _) _⟩
          · go_wp2_with fail
            refine (KT.out _).mono ?_
            rintro e w2 ⟨rfl, rfl⟩
            go_wp2_with fail
            go_quiet ((go_at_call 95; exact Calls.quiet_of_same (KN.out _)))
            go_wp2
            go_ret3
            refine Or.inr ⟨HXl.out, .slice (some ⟨b, o + E, none⟩) (m - E) (cap - E), rfl, cut_mid, below_drewN (Below.refl _ _) _⟩

/-- What is told by the bits at hand. -/
theorem first_ok {w : World} {v : Value} {m low : Nat} {f : Nat → Int} (h : SlI w v m f) (hm : m ≤ 2000) (hl : low ≤ 7) (hf : ∀ i, i < m → f i = 0 ∨ f i = 1) :
    Calls Tryd.prog 94 #[v, .int .i64 low] w fun e w' => (fstN f m low 0 = none ∧ e = .returned (.tuple #[.int .i64 0, .slice none 0 0, .bool false]) ∧ Below w.heap.size w w') ∨ (∃ n b sl, fstN f m low 0 = some (n, b) ∧ b ≤ m ∧ e = .returned (.tuple #[.int .i64 n, sl, .bool true]) ∧ Cut v sl m b ∧ Below w.heap.size w w') := by
  have hF : fstN f m low 0 = if ones f 0 m + 1 + low ≤ m then if valN f (ones f 0 m + 1) (ones f 0 m) low ≤ 510 then some (uz (valN f (ones f 0 m + 1) (ones f 0 m) low : Nat), ones f 0 m + 1 + low) else none else none := by
    unfold fstN
    simp only [Nat.sub_zero, Nat.zero_add]
  by_cases c : ones f 0 m + 1 + low ≤ m
  · rw [if_pos c] at hF
    refine (first_one h hm hl hf rfl rfl c rfl).mono ?_
    rintro e w' (⟨h1, he, hb⟩ | ⟨h1, sl, he, hs, hb⟩)
    · rw [if_neg (by omega)] at hF
      exact Or.inl ⟨hF, he, hb⟩
    · rw [if_pos h1] at hF
      exact Or.inr ⟨_, _, sl, hF, c, he, hs, hb⟩
  · rw [if_neg c] at hF
    refine (first_few h hm hl (by omega)).mono ?_
    rintro e w' ⟨he, hb⟩
    exact Or.inl ⟨hF, he, hb ▸ Below.refl _ _⟩
end Go.Proofs.YtjhflcgphejddaaDoor

namespace Go.Proofs.YtjhflcgphejddaaDoor
open Go.RowKit Go.Maps
set_option linter.unusedVariables false
set_option maxRecDepth 100000

/-- What is wrong with what is asked of some bits: ahead of reading them. -/
def getF (a k : Int) (m : Nat) : Nat := if lowOk a = false then 1 else if k < 0 ∨ 2000 < k then 1 else if 2000 < m then 4 else 0

set_option maxHeartbeats 2000000 in
theorem rget_bad {w : World} {v : Value} {m : Nat} {g : Nat → Int} (a k : Int) (h : SlI w v m g) (hx : getF a k m ≠ 0) :
    Calls Tryd.prog 85 #[v, .int .i64 a, .int .i64 k] w fun e w' => e = .returned (.tuple #[.slice none 0 0, errN (getF a k m)]) ∧ w = w' := by
  have K1 := hide (islow_ok a w)
  obtain ⟨ad, cap, rfl, h1, h2, h3⟩ := h
  unfold maxLen at h2
  clear h3
  cases hl : lowOk a with
  | false =>
    have HE : Hid (getF a k m = 1) := by unfold Hid getF; rw [hl, if_pos rfl]
    rw [hl] at K1
    clear hx hl
    go_enter Tryd.func85, Tryd.ntmps85
    go_wp2_with fail
    refine (K1.out).mono ?_
    rintro e w1 ⟨rfl, rfl⟩
    go_wp2
    go_ret2
    exact ⟨by rw [HE.out]; rfl, rfl⟩
  | true =>
    rw [hl] at K1
    by_cases c1 : k < 0
    · have HE : Hid (getF a k m = 1) := by unfold Hid getF; rw [hl, if_neg (by simp), if_pos (Or.inl c1)]
      clear hx hl
      go_enter Tryd.func85, Tryd.ntmps85
      go_wp2_with fail
      refine (K1.out).mono ?_
      rintro e w1 ⟨rfl, rfl⟩
      go_wp2
      go_ret2
      exact ⟨by rw [HE.out]; rfl, rfl⟩
    · by_cases c2 : 2000 < k
      · have HE : Hid (getF a k m = 1) := by unfold Hid getF; rw [hl, if_neg (by simp), if_pos (Or.inr c2)]
        clear hx hl
        go_enter Tryd.func85, Tryd.ntmps85
        go_wp2_with fail
        refine (K1.out).mono ?_
        rintro e w1 ⟨rfl, rfl⟩
        go_wp2
        go_ret2
        exact ⟨by rw [HE.out]; rfl, rfl⟩
      · have c3 : 2000 < m := by
          refine Nat.lt_of_not_le fun c3 => hx ?_
          unfold getF
          rw [hl, if_neg (by simp), if_neg (by omega), if_neg (by omega)]
        have HE : Hid (getF a k m = 4) := by unfold Hid getF; rw [hl, if_neg (by simp), if_neg (by omega), if_pos c3]
        clear hx hl
        go_enter Tryd.func85, Tryd.ntmps85
        go_wp2_with fail
        refine (K1.out).mono ?_
        rintro e w1 ⟨rfl, rfl⟩
        go_wp2
        go_ret2
        exact ⟨by rw [HE.out]; rfl, rfl⟩

set_option maxHeartbeats 2000000 in
theorem rget_bits {w : World} {v : Value} {m many low : Nat} {g : Nat → Int} (h : SlI w v m g) (hm : m ≤ 2000) (hl : low ≤ 7) (hk : many ≤ 2000) (hx : bitsOk g m = false) :
    Calls Tryd.prog 85 #[v, .int .i64 low, .int .i64 many] w fun e w' => e = .returned (.tuple #[.slice none 0 0, errN 1]) ∧ w = w' := by
  have K1 := hide (islow_ok (low : Int) w)
  rw [lowOk_iff.2 (by omega)] at K1
  have K2 := hide (bcont_ok h.ints hm)
  rw [hx] at K2
  obtain ⟨ad, cap, rfl, h1, h2, h3⟩ := h
  clear h3 hx h2
  go_enter Tryd.func85, Tryd.ntmps85
  go_wp2_with fail
  refine (K1.out).mono ?_
  rintro e w1 ⟨rfl, rfl⟩
  go_wp2_with fail
  refine (K2.out).mono ?_
  rintro e w1 ⟨rfl, rfl⟩
  go_wp2
  go_ret2
  exact ⟨rfl, rfl⟩

/-- What is told of bits: none, or these numbers. -/
def Got (B : Nat) (w' : World) (e : Ending) (r : Option (List Int)) (many : Nat) : Prop :=
  (r = none ∧ e = .returned (.tuple #[.slice none 0 0, errN 2])) ∨ ∃ xs ad cp, r = some xs ∧ xs.length = many ∧ e = .returned (.tuple #[.slice ad many cp, .nilIface]) ∧ w'.ownsRow B 3 1 (.slice ad many cp) many (encI xs)

set_option maxHeartbeats 4000000 in
theorem rget_ok {w : World} {v : Value} {m many low : Nat} {g : Nat → Int} (h : SlI w v m g) (hm : m ≤ 2000) (hl : low ≤ 7) (hk : many ≤ 2000) (hx : ∀ i, i < m → g i = 0 ∨ g i = 1) :
    Calls Tryd.prog 85 #[v, .int .i64 low, .int .i64 many] w fun e w' => Got w.heap.size w' e (getN g m low many) many ∧ Below w.heap.size w w' := by
  have K1 := hide (islow_ok (low : Int) w)
  rw [lowOk_iff.2 (by omega)] at K1
  have K2 := hide (bcont_ok h.ints hm)
  rw [bitsOk_iff.2 hx] at K2
  obtain ⟨i0, hi0, hz0, hz1, hz2⟩ := info_parts Tryd.infoInt
  have Hi := hide hi0
  have Hz0 := hide hz0
  have Hz1 := hide hz1
  have Hz2 := hide hz2
  have HX := hide hx
  have HG : Hid (getN g m low many = (stpN g m low many).bind fun p => if p.2 = m then some p.1 else none) := rfl
  have HSl : Hid (SlI w v m (fun i => g (0 + i))) := h.congr fun i _ => by rw [Nat.zero_add]
  obtain ⟨ad, cap, rfl, h1, h2, h3⟩ := h
  clear h3 hx h2 hi0 hz0 hz1 hz2
  go_enter Tryd.func85, Tryd.ntmps85
  go_wp2_with fail
  refine (K1.out).mono ?_
  rintro e w1 ⟨rfl, rfl⟩
  go_wp2_with fail
  refine (K2.out).mono ?_
  rintro e w1 ⟨rfl, rfl⟩
  go_wp2
  go_loopw [0, 8, 32] (fun s u i wr => ∃ (j a : Nat) (xs : List Int) (ads adu : Option Addr) (cps cpu : Nat), j ≤ many ∧ a ≤ m ∧ i = .int .i64 j ∧ s = .slice ads (m - a) cps ∧ u = .slice adu j cpu ∧ Hid (stpN g m low j = some (xs, a)) ∧ Hid (SlI w s (m - a) (fun i => g (a + i))) ∧ Hid (wr.ownsRow w.heap.size 3 1 u j (encI xs)) ∧ Below w.heap.size w wr) (fun _ _ i _ => many - (intOf i).toNat)
  case atStart => exact ⟨0, 0, [], ad, none, cap, 0, Nat.zero_le _, Nat.zero_le _, rfl, rfl, rfl, rfl, HSl.out, World.ownsRow_nil _ _ _ _, Below.refl _ _⟩
  case round =>
    obtain ⟨j, a, xs, ads, adu, cps, cpu, hj, ha, rfl, rfl, rfl, HS, HV, HR, hb⟩ := hrel
    have HB := hide hb
    have hsz := hb.size
    clear hb
    by_cases hlt : j < many
    · have K3 := hide (first_ok (low := low) (HV.out.below HB.out) (by omega) hl (fun i hi => HX.out _ (by omega)))
      have HF := hide (fstN_shift (g := g) (m := m) (low := low) ha)
      go_wp2_with fail
      refine (K3.out).mono ?_
      rintro e w2 (⟨hn, rfl, hb2⟩ | ⟨n, b, sl, hn, hbm, rfl, hsl, hb2⟩)
      · have HN : Hid (getN g m low many = none) := by
          unfold Hid
          rw [HG.out, stpN_past (stpN_none HS.out (by rw [HF.out, hn]; rfl)) (show j + 1 ≤ many by omega)]
          rfl
        have HB2 := hide (HB.out.trans (hb2.mono hsz))
        clear hn hb2 HF K3
        go_wp2
        go_ret2
        exact ⟨Or.inl ⟨HN.out, rfl⟩, HB2.out⟩
      · have HN : Hid (stpN g m low (j + 1) = some (xs ++ [n], a + b)) := stpN_some HS.out (by rw [HF.out, hn]; rfl)
        have HB2 := hide (HB.out.trans (hb2.mono hsz))
        have HR2 := hide (own_under' HR.out hb2)
        have hsz2 := HB2.out.size
        have HV2 : Hid (SlI w sl (m - (a + b)) (fun i => g (a + b + i))) := by
          have := (hsl w _ HV.out).congr (g := fun i => g (a + b + i)) (fun i _ => by rw [Nat.add_assoc])
          rw [Nat.sub_sub] at this
          exact this
        obtain ⟨ads2, cps2, rfl, _, _, _⟩ := HV2.out
        clear hn hb2 HF K3 hsl
        go_wp2_with (at_builtin; refine wpList_append_lies _ rfl _ _ 36 rfl w.heap.size 3 i0 (.int .i64 0) 1 8 Tryd.underlying36 Hi.out Hz0.out Hz1.out Hz2.out rfl (by decide) _ _ _ rfl (HR2.out.alloc _) ⟨w2.heap.size, 0, none⟩ 1 1 [.int .i64 n] rfl rfl (cell_one_new _ _ _) (fun x hx => by simp at hx; subst hx; rfl) (by decide) (by unfold maxLen; omega) (by omega) (by simp; omega) _ rfl ?_; intro g3 cap3 w5 hown3 hgrow3 hat3 hlt3)
        go_roundw
        case rel =>
          have hB5 : Below w.heap.size w2 w5 := ((Below.refl w.heap.size w2).alloc (by omega) _).grown hgrow3 (by simp; omega) (fun q hq => (HR2.out.lt q hq).1)
          have R : j + 1 ≤ many ∧ a + b ≤ m ∧ Value.int .i64 ((j : Int) + 1) = .int .i64 ((j + 1 : Nat) : Int) ∧ Value.slice ads2 (m - (a + b)) cps2 = .slice ads2 (m - (a + b)) cps2 ∧ Value.slice (some ⟨g3, 0, none⟩) (j + 1) cap3 = .slice (some ⟨g3, 0, none⟩) (j + 1) cap3
              ∧ Hid (stpN g m low (j + 1) = some (xs ++ [n], a + b)) ∧ Hid (SlI w (.slice ads2 (m - (a + b)) cps2) (m - (a + b)) (fun i => g (a + b + i))) ∧ Hid (w5.ownsRow w.heap.size 3 1 (.slice (some ⟨g3, 0, none⟩) (j + 1) cap3) (j + 1) (encI (xs ++ [n]))) ∧ Below w.heap.size w w5 :=
            ⟨by omega, by omega, by simp, rfl, rfl, HN, HV2, hide (by rw [encI_snoc]; exact hown3), HB2.out.trans hB5⟩
          first
            | exact ⟨j + 1, a + b, xs ++ [n], ads2, some ⟨g3, 0, none⟩, cps2, cap3, R⟩
            | ((repeat apply Exists.intro); exact ⟨⟨j + 1, a + b, xs ++ [n], ads2, some ⟨g3, 0, none⟩, cps2, cap3, R⟩, rfl⟩)
        case measure => simp [intOf]; omega
    · obtain rfl : j = many := by omega
      by_cases c : a = m
      · have HN : Hid (getN g m low j = some xs) := by
          unfold Hid
          rw [HG.out, HS.out]
          show (if a = m then some xs else none) = some xs
          rw [if_pos c]
        have hxl := (stpN_len HS.out).1
        have HL := hide hxl
        subst c
        clear hxl
        go_wp2
        go_ret2
        exact ⟨Or.inr ⟨xs, adu, cpu, HN.out, HL.out, rfl, HR.out⟩, HB.out⟩
      · have HN : Hid (getN g m low j = none) := by
          unfold Hid
          rw [HG.out, HS.out]
          show (if a = m then some xs else none) = none
          rw [if_neg c]
        have hc : 0 < m - a := by omega
        go_wp2
        go_ret2
        exact ⟨Or.inl ⟨HN.out, rfl⟩, HB.out⟩
end Go.Proofs.YtjhflcgphejddaaDoor
